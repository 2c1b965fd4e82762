/-
  The reference's comparisons, and what the laws look up.
  The reference's SameLists; the laws' few, in and arc.
  Small graphs: what the functions answer there.
  The laws' small.
-/
import Derived.Test.YtcljgpgdbjpemaaReachP
import Derived.Test.YtcljgpgdbjpemaaNestA
import Derived.Deep.QuietTactic
import Derived.BigQuiet
import Derived.Test.YtcljgpgdbjpemaaLoop
namespace Go.Proofs.Ytcljgpgdbjpemaa
set_option linter.unusedVariables false
set_option linter.unusedSimpArgs false
open Go.RowKit

def lessB : List Int → List Int → Bool
  | x :: a, y :: b => if x = y then lessB a b else decide (x < y)
  | [], _ :: _ => true
  | _, [] => false
def sameB (a b : List Int) : Bool := !lessB a b && !lessB b a
theorem sameB_iff : ∀ (a b : List Int), sameB a b = true ↔ a = b
  | [], [] => by simp [sameB, lessB]
  | [], y :: b => by simp [sameB, lessB]
  | x :: a, [] => by simp [sameB, lessB]
  | x :: a, y :: b => by
    have ih := sameB_iff a b
    unfold sameB at ih ⊢
    by_cases h : x = y
    · subst h; simp only [lessB, if_true]; rw [ih]; simp
    · simp only [lessB, if_neg h, if_neg (fun e => h (Eq.symm e))]
      simp
      omega
theorem lessB_drop {a b : List Int} {k : Nat} (ha : k < a.length) (hb : k < b.length) : lessB (a.drop k) (b.drop k) = if a[k] = b[k] then lessB (a.drop (k + 1)) (b.drop (k + 1)) else decide (a[k] < b[k]) := by
  rw [List.drop_eq_getElem_cons ha, List.drop_eq_getElem_cons hb]; rfl
theorem lessB_end {a b : List Int} {k : Nat} (h : k = a.length ∨ k = b.length) (ha : k ≤ a.length) (hb : k ≤ b.length) : lessB (a.drop k) (b.drop k) = decide (a.length < b.length) := by
  rcases h with h | h
  · subst h
    rw [List.drop_length]
    by_cases e : a.length < b.length
    · rw [List.drop_eq_getElem_cons e]; simp [lessB, e]
    · rw [List.drop_eq_nil_of_le (by omega)]; simp [lessB, e]
  · subst h
    rw [List.drop_length]
    have : ¬ a.length < b.length := by omega
    cases hd : a.drop b.length <;> simp [lessB, this]
theorem sameB_eq (a b : List Int) : sameB a b = decide (a = b) := by
  rw [Bool.eq_iff_iff, sameB_iff, decide_eq_true_iff]
theorem below_drewN2 {B : Nat} {w wl : World} (h : Below B w wl) (q : Nat) : Below B w (wl.drewN q) := h.trans ⟨rfl, rfl, rfl, Nat.le_refl _, fun _ _ => rfl⟩
def QPost (b : Bool) (w : World) (e : Ending) (w' : World) : Prop := e = .returned (.bool b) ∧ ∃ q, w' = w.drewN q
theorem QPost.mk {b c : Bool} {w : World} {e : Ending} (q : Nat) (h1 : e = .returned (.bool c)) (h2 : b = c) : QPost b w e (w.drewN q) := ⟨by rw [h2]; exact h1, q, rfl⟩
def BPost (b : Bool) (w : World) (e : Ending) (w' : World) : Prop := e = .returned (.bool b) ∧ Below w.heap.size w w'
theorem QPost.below {b : Bool} {w w' : World} {e : Ending} (h : QPost b w e w') : BPost b w e w' := by
  obtain ⟨h1, q, rfl⟩ := h
  exact ⟨h1, below_drewN2 (Below.refl _ _) q⟩
def LsRel (a b : List Int) (w : World) (i : Value) (wl : World) : Prop := ∃ k : Nat, i = .int .i64 k ∧ k ≤ a.length ∧ k ≤ b.length ∧ lessB a b = lessB (a.drop k) (b.drop k) ∧ ∃ q, wl = w.drewN q
set_option maxRecDepth 100000 in
set_option maxHeartbeats 4000000 in
theorem lessRef (a b : List Int) (u v : Value) (w : World) (B : Nat) (ha : IRow w B u a) (hb : IRow w B v b) :
    Calls Try.prog 39 #[u, v] w (QPost (lessB a b) w) := by
  obtain ⟨hla, A, ca, rfl, _, _, _, hA⟩ := ha
  obtain ⟨hlb, B, cb, rfl, _, _, _, hB⟩ := hb
  have HA := Lib.hid hA
  have HB := Lib.hid hB
  clear hA hB
  go_enter Try.func39, Try.ntmps39
  go_wp2_with fail
  go_loopw [5] (fun i wl => LsRel a b w i wl) (fun i _ => a.length - (intOf i).toNat)
  case atStart => exact ⟨0, rfl, by omega, by omega, by simp, 0, rfl⟩
  case round =>
    obtain ⟨k, rfl, h1, h2, h3, q0, rfl⟩ := hrel
    have h3' := Lib.hid h3
    clear h3
    by_cases hka : k < a.length
    · by_cases hkb : k < b.length
      · obtain ⟨ga, oa, rfl, hga, c1⟩ := HA.out (by omega)
        obtain ⟨gb, ob, rfl, hgb, c2⟩ := HB.out (by omega)
        replace c1 := c1 k hka
        replace c2 := c2 k hkb
        have hst := lessB_drop hka hkb
        obtain ⟨x, hx⟩ : ∃ x, a[k] = x := ⟨_, rfl⟩
        obtain ⟨y, hy⟩ : ∃ y, b[k] = y := ⟨_, rfl⟩
        rw [hx] at c1 hst
        rw [hy] at c2 hst
        by_cases hxy : x = y
        · have hne : (x != y) = false := by simp [hxy]
          rw [if_pos hxy] at hst
          have HN := Lib.hid (h3'.out.trans hst)
          clear hst hx hy hxy
          go_wp2_with fail
          go_quiet (fail)
          go_wp2_with fail
          go_roundw
          case rel => exact ⟨k + 1, by go_num, by omega, by omega, HN.out, _, rfl⟩
          case measure => simp [intOf]; omega
        · have hne : (x != y) = true := by simp [hxy]
          rw [if_neg hxy] at hst
          have HF : Hid (∀ q1 q2, QPost (lessB a b) w (.returned (.bool (decide (x < y)))) (((w.drewN q0).drewN q1).drewN q2)) := Lib.hid (fun q1 q2 => ⟨by rw [h3'.out.trans hst], _, by rw [World.drewN_drewN, World.drewN_drewN]⟩)
          clear hst hx hy hxy
          go_wp2_with fail
          go_quiet (fail)
          go_wp2_with fail
          go_quiet (fail)
          go_wp2_with fail
          go_ret
          exact HF.out _ _
      · have hd : decide (k < b.length) = false := by simpa using hkb
        have HF : Hid (QPost (lessB a b) w (.returned (.bool (decide (a.length < b.length)))) (w.drewN q0)) := Lib.hid ⟨by rw [h3'.out, lessB_end (.inr (by omega)) h1 h2], q0, rfl⟩
        clear h3'
        go_wp2_with fail
        go_ret
        exact HF.out
    · have hd : decide (k < a.length) = false := by simpa using hka
      have HF : Hid (QPost (lessB a b) w (.returned (.bool (decide (a.length < b.length)))) (w.drewN q0)) := Lib.hid ⟨by rw [h3'.out, lessB_end (.inl (by omega)) h1 h2], q0, rfl⟩
      clear h3'
      go_wp2_with fail
      go_ret
      exact HF.out
theorem IRow.drewN {w : World} {B : Nat} {v : Value} {l : List Int} (h : IRow w B v l) (q : Nat) : IRow (w.drewN q) B v l := h
set_option maxHeartbeats 1000000 in
theorem sameRef (a b : List Int) (u v : Value) (w : World) (B : Nat) (ha : IRow w B u a) (hb : IRow w B v b) :
    Calls Try.prog 16 #[u, v] w (QPost (decide (a = b)) w) := by
  rw [← sameB_eq]
  have H1 := Lib.hid (lessRef a b u v w B ha hb)
  have H2 : Hid (∀ q, Calls Try.prog 39 #[v, u] (w.drewN q) (QPost (lessB b a) (w.drewN q))) := Lib.hid (fun q => lessRef b a v u (w.drewN q) B (hb.drewN q) (ha.drewN q))
  have HE : Hid (sameB a b = (!lessB a b && !lessB b a)) := Lib.hid rfl
  clear ha hb
  obtain ⟨x, hx⟩ : ∃ x, lessB a b = x := ⟨_, rfl⟩
  obtain ⟨y, hy⟩ : ∃ y, lessB b a = y := ⟨_, rfl⟩
  rw [hx, hy] at HE
  rw [hx] at H1
  simp only [hy] at H2
  clear hx hy
  cases x with
  | true =>
    have HE2 : Hid (sameB a b = false) := Lib.hid (by rw [HE.out]; rfl)
    clear HE
    go_enter Try.func16, Try.ntmps16
    go_wp2_with fail
    refine H1.out.mono ?_; rintro e w1 ⟨rfl, q1, rfl⟩
    go_wp2_with fail
    go_ret
    exact QPost.mk _ rfl HE2.out
  | false =>
    have HE2 : Hid (sameB a b = !y) := Lib.hid (by rw [HE.out]; rfl)
    clear HE
    go_enter Try.func16, Try.ntmps16
    go_wp2_with fail
    refine H1.out.mono ?_; rintro e w1 ⟨rfl, q1, rfl⟩
    go_wp2_with fail
    refine (H2.out q1).mono ?_; rintro e w2 ⟨rfl, q2, rfl⟩
    have HQ : Hid (∀ q, QPost (sameB a b) w (.returned (.bool (!y))) (w.drewN q)) := Lib.hid (fun q => QPost.mk q rfl HE2.out)
    go_wp2_with fail
    go_ret
    exact HQ.out _
end Go.Proofs.Ytcljgpgdbjpemaa

namespace Go.Proofs.Ytcljgpgdbjpemaa
set_option linter.unusedVariables false
set_option linter.unusedSimpArgs false
open Go.RowKit

def SlRel (L M : List (List Int)) (w : World) (i : Value) (wl : World) : Prop := ∃ k : Nat, i = .int .i64 k ∧ k ≤ L.length ∧ (∀ j, j < k → L[j]? = M[j]?) ∧ ∃ q, wl = w.drewN q
set_option maxRecDepth 100000 in
set_option maxHeartbeats 4000000 in
theorem sameLists (L M : List (List Int)) (u v : Value) (w : World) (B : Nat) (hu : LRow w B u L) (hv : LRow w B v M) :
    Calls Try.prog 13 #[u, v] w (QPost (decide (L = M)) w) := by
  obtain ⟨⟨hl1, _⟩, A, ca, rfl, hA⟩ := hu
  obtain ⟨⟨hl2, _⟩, B2, cb, rfl, hB⟩ := hv
  have HA := Lib.hid hA
  have HB := Lib.hid hB
  clear hA hB
  by_cases hlen : L.length = M.length
  · have hlb : (L.length != M.length) = false := by simp [hlen]
    have hlbi : ((L.length : Int) != (M.length : Int)) = false := by simp [hlen]
    have HLEN := Lib.hid hlen
    clear hlen
    go_enter Try.func13, Try.ntmps13
    go_wp2_with fail
    go_loopw [5] (fun i wl => SlRel L M w i wl) (fun i _ => L.length - (intOf i).toNat)
    case atStart => exact ⟨0, rfl, by omega, fun j hj => by omega, 0, rfl⟩
    case round =>
      obtain ⟨k, rfl, hk, he, q0, hq⟩ := hrel
      have HQ := Lib.hid hq
      clear hq
      have HEQ := Lib.hid he
      clear he
      by_cases hlt : k < L.length
      · have hlt2 : k < M.length := by rw [← HLEN.out]; exact hlt
        obtain ⟨b1, o1, rfl, _, hr1⟩ := HA.out (by omega)
        obtain ⟨b2, o2, rfl, _, hr2⟩ := HB.out (by omega)
        obtain ⟨x, c1, i1⟩ := hr1 k hlt
        obtain ⟨y, c2, i2⟩ := hr2 k hlt2
        replace c1 : wr.cell? ⟨b1, o1 + k, none⟩ = some x := by rw [HQ.out]; exact c1
        replace c2 : wr.cell? ⟨b2, o2 + k, none⟩ = some y := by rw [HQ.out]; exact c2
        clear hr1 hr2
        obtain ⟨a, ha⟩ : ∃ a, L[k] = a := ⟨_, rfl⟩
        obtain ⟨b, hb⟩ : ∃ b, M[k] = b := ⟨_, rfl⟩
        rw [ha] at i1
        rw [hb] at i2
        have HS : Hid (∀ q, Calls Try.prog 16 #[x, y] (wr.drewN q) (QPost (decide (a = b)) (wr.drewN q))) := Lib.hid (fun q => sameRef a b x y (wr.drewN q) B (by rw [HQ.out]; exact i1) (by rw [HQ.out]; exact i2))
        have ha' : L[k]? = some a := by rw [List.getElem?_eq_getElem hlt, ha]
        have hb' : M[k]? = some b := by rw [List.getElem?_eq_getElem hlt2, hb]
        clear i1 i2 ha hb
        by_cases hab : a = b
        · have hd : decide (a = b) = true := by simpa using hab
          rw [hd] at HS
          have HN : Hid (∀ j, j < k + 1 → L[j]? = M[j]?) := Lib.hid (fun j hj => by
            by_cases e : j = k
            · rw [e, ha', hb', hab]
            · exact HEQ.out j (by omega))
          clear ha' hb' hab hd HEQ
          go_wp2_with fail
          go_quiet ((go_at_call 16; exact Calls.quiet_of (HS.out _)))
          go_wp2_with fail
          go_roundw
          case rel => exact ⟨k + 1, by go_num, by omega, HN.out, _, by rw [HQ.out, World.drewN_drewN]⟩
          case measure => simp [intOf]; omega
        · have hd : decide (a = b) = false := by simpa using hab
          rw [hd] at HS
          have HF : Hid (∀ q, QPost (decide (L = M)) w (.returned (.bool false)) (wr.drewN q)) := Lib.hid (fun q => by
            rw [HQ.out, World.drewN_drewN]
            refine QPost.mk _ rfl ?_
            rw [decide_eq_false_iff_not]
            intro e
            rw [e, hb'] at ha'
            injection ha' with ha'
            exact hab ha'.symm)
          clear ha' hb' hab hd HEQ
          go_wp2_with fail
          go_quiet ((go_at_call 16; exact Calls.quiet_of (HS.out _)))
          go_wp2_with fail
          go_ret
          exact HF.out _
      · have HF : Hid (QPost (decide (L = M)) w (.returned (.bool true)) wr) := Lib.hid (by
          rw [HQ.out]
          refine QPost.mk _ rfl ?_
          rw [decide_eq_true_iff]
          apply List.ext_getElem?
          intro j
          by_cases hj : j < L.length
          · exact HEQ.out j (by omega)
          · have := HLEN.out
            rw [List.getElem?_eq_none (by omega), List.getElem?_eq_none (by omega)])
        clear HEQ
        go_wp2_with fail
        go_ret
        exact HF.out
  · have hlb : (L.length != M.length) = true := by simp [hlen]
    have hlbi : ((L.length : Int) != (M.length : Int)) = true := by simp; omega
    have HF : Hid (QPost (decide (L = M)) w (.returned (.bool false)) (w.drewN 0)) := Lib.hid (QPost.mk 0 rfl (by rw [decide_eq_false_iff_not]; intro e; exact hlen (by rw [e])))
    clear hlen
    go_enter Try.func13, Try.ntmps13
    go_wp2_with fail
    go_ret
    exact HF.out

def inB (l : List Int) (z : Int) : Bool := l.contains z
theorem inB_iff {l : List Int} {z : Int} : inB l z = true ↔ z ∈ l := by unfold inB; rw [List.contains_iff_mem]
def arcB (l : List Sp) (v z : Int) : Bool := l.any fun s => s.p == v && s.n == z
theorem arcB_iff {l : List Sp} {v z : Int} : arcB l v z = true ↔ ∃ i, i < l.length ∧ (gt l i).p = v ∧ (gt l i).n = z := by
  unfold arcB
  rw [List.any_eq_true]
  constructor
  · rintro ⟨s, hs, h⟩
    obtain ⟨i, hi, rfl⟩ := List.getElem_of_mem hs
    refine ⟨i, hi, ?_⟩
    rw [gt_get l i hi]
    simpa using h
  · rintro ⟨i, hi, h⟩
    rw [gt_get l i hi] at h
    exact ⟨l[i], List.getElem_mem hi, by simpa using h⟩
def fewB (n : Int) (k m : Nat) : Bool := decide (n ≤ 14) && decide (k ≤ 60) && decide (m ≤ 20)
theorem fewB_iff {n : Int} {k m : Nat} : fewB n k m = true ↔ n ≤ 14 ∧ k ≤ 60 ∧ m ≤ 20 := by simp [fewB, and_assoc]
set_option maxHeartbeats 1000000 in
theorem fewP (n : Int) (A1 A2 : Option Addr) (k m c1 c2 : Nat) (w : World) :
    Calls Try.prog 10 #[.int .i64 n, .slice A1 k c1, .slice A2 m c2] w fun e w' => e = .returned (.bool (fewB n k m)) ∧ w = w' := by
  have HE : Hid (fewB n k m = (decide (n ≤ 14) && decide (k ≤ 60) && decide (m ≤ 20))) := Lib.hid rfl
  by_cases h1 : n ≤ 14
  · by_cases h2 : k ≤ 60
    · have HF : Hid (fewB n k m = decide ((m : Int) ≤ 20)) := Lib.hid (by rw [HE.out, Bool.eq_iff_iff]; simp [h1, h2]; omega)
      have d1 : decide (n ≤ 14) = true := by simpa using h1
      have d2 : (k : Int) ≤ 60 := by omega
      go_enter Try.func10, Try.ntmps10
      go_wp2_with fail
      go_ret
      exact ⟨by rw [HF.out]; simp, rfl⟩
    · have HF : Hid (fewB n k m = false) := Lib.hid (by rw [HE.out]; simp [h2])
      have d1 : decide (n ≤ 14) = true := by simpa using h1
      have d2 : decide ((k : Int) ≤ 60) = false := by simp; omega
      have d3 : decide (k ≤ 60) = false := by simp; omega
      go_enter Try.func10, Try.ntmps10
      go_wp2_with fail
      go_ret
      exact ⟨by rw [HF.out]; rfl, rfl⟩
  · have HF : Hid (fewB n k m = false) := Lib.hid (by rw [HE.out]; simp [h1])
    have d1 : decide (n ≤ 14) = false := by simpa using h1
    go_enter Try.func10, Try.ntmps10
    go_wp2_with fail
    go_ret
    exact ⟨by rw [HF.out]; rfl, rfl⟩
end Go.Proofs.Ytcljgpgdbjpemaa

namespace Go.Proofs.Ytcljgpgdbjpemaa
set_option linter.unusedVariables false
set_option linter.unusedSimpArgs false

def onLoopB (A : Arcs) (n v : Nat) : Bool := A.contains (v, v) || (List.range n).any fun w => w != v && eqvB A v w
theorem onLoopB_iff {A : Arcs} {n v : Nat} : onLoopB A n v = true ↔ onLoop A n v := by
  unfold onLoopB onLoop
  rw [Bool.or_eq_true, List.contains_iff_mem, List.any_eq_true]
  constructor
  · rintro (h | ⟨w, h1, h2⟩)
    · exact .inl h
    · rw [Bool.and_eq_true, bne_iff_ne, eqvB_iff] at h2
      exact .inr ⟨w, List.mem_range.1 h1, h2⟩
  · rintro (h | ⟨w, h1, h2, h3⟩)
    · exact .inl h
    · exact .inr ⟨w, List.mem_range.2 h1, by rw [Bool.and_eq_true, bne_iff_ne, eqvB_iff]; exact ⟨h2, h3⟩⟩
def leastB (A : Arcs) (n m : Nat) : Bool := decide (m ≤ n) && (m == n || onLoopB A n m) && (List.range n).all fun v => !onLoopB A n v || decide (m ≤ v)
theorem leastB_ok {A : Arcs} {n m : Nat} (h : leastB A n m = true) : LeastOn A n m := by
  unfold leastB at h
  rw [Bool.and_eq_true, Bool.and_eq_true, Bool.or_eq_true, List.all_eq_true, decide_eq_true_iff, beq_iff_eq, onLoopB_iff] at h
  obtain ⟨⟨h1, h2⟩, h3⟩ := h
  refine ⟨h1, fun hm => h2.resolve_left (by omega), fun v hv ho => ?_⟩
  have := h3 v (List.mem_range.2 hv)
  rw [onLoopB_iff.2 ho] at this
  simpa using this
def AL : Arcs := [(0, 1), (1, 0), (1, 2), (3, 2)]
def AM : Arcs := [(0, 1), (0, 2), (1, 3), (2, 3)]
def AK : Arcs := [(2, 1), (1, 2)]
theorem parts_AL : partsOf AL 4 = [[2], [0, 1], [3]] := by decide +kernel
theorem reach_AL : reachOf AL 4 [0] = [0, 1, 2] := by decide +kernel
theorem way_AM {p : List Nat} (h : WayOk AM [0] 3 p) : p = [0, 1, 3] := by
  refine h.unique (.inr ⟨by simp, ?_, ⟨0, by simp, rfl⟩, rfl, ?_⟩)
  · intro i x y hx hy
    match i with
    | 0 => simp at hx hy; subst hx; subst hy; decide
    | 1 => simp at hx hy; subst hx; subst hy; decide
    | 2 => simp at hy
    | k + 3 => simp at hy
  · rintro m h1 h2 ⟨r, hr, h3⟩ h4
    simp only [List.mem_singleton] at hr
    subst hr
    match m, h1 with
    | [a], _ => simp at h3; subst h3; simp at h4
    | [a, b], _ =>
      simp at h3; subst h3
      have h5 : b = 3 := by simpa [lst] using h4
      subst h5
      exact absurd (h2 0 0 3 rfl rfl) (by decide)
    | [a, b, c], _ =>
      simp at h3; subst h3
      have h5 : c = 3 := by simpa [lst] using h4
      subst h5
      have h6 := h2 0 0 b rfl rfl
      intro hs
      have h7 : b = 1 ∨ b = 2 := by
        unfold AM at h6
        simp at h6
        exact h6
      rcases h7 with rfl | rfl <;> revert hs <;> simp [sl, lexLt]
    | a :: b :: c :: d :: t, _ => intro hs; rcases hs with hs | ⟨hs, _⟩ <;> simp at hs <;> omega
theorem loop_AK {p : List Nat} (h : LoopOk AK 3 p) : p = [1, 2] := by
  have h1 : LeastOn AK 3 1 := leastB_ok (by decide +kernel)
  have hs : succsOf AK 1 = [2] := by decide +kernel
  have h2 : WayOk AK [2] 1 [2, 1] := by
    refine .inr ⟨by simp, ?_, ⟨2, by simp, rfl⟩, rfl, ?_⟩
    · intro i x y hx hy
      match i with
      | 0 => simp at hx hy; subst hx; subst hy; decide
      | 1 => simp at hy
      | k + 2 => simp at hy
    · rintro m h1 h2 ⟨r, hr, h3⟩ h4
      simp only [List.mem_singleton] at hr
      subst hr
      match m, h1 with
      | [a], _ => simp at h3; subst h3; simp at h4
      | [a, b], _ =>
        simp at h3; subst h3
        have h5 : b = 1 := by simpa [lst] using h4
        subst h5
        simp [sl, lexLt]
      | a :: b :: c :: t, _ => intro hs; rcases hs with hs | ⟨hs, _⟩ <;> simp at hs <;> omega
  exact h.unique ⟨1, h1, .inr ⟨by omega, [2, 1], by rw [hs]; exact h2, by simp, rfl⟩⟩
theorem loop_AM {p : List Nat} (h : LoopOk AM 4 p) : p = [] :=
  h.unique ⟨4, leastB_ok (by decide +kernel), .inl ⟨rfl, rfl⟩⟩
end Go.Proofs.Ytcljgpgdbjpemaa

namespace Go.Proofs.Ytcljgpgdbjpemaa
set_option linter.unusedVariables false
set_option linter.unusedSimpArgs false
open Go.RowKit

def lL : List Sp := [⟨0, 1⟩, ⟨1, 0⟩, ⟨1, 2⟩, ⟨3, 2⟩]
def lM : List Sp := [⟨0, 1⟩, ⟨0, 2⟩, ⟨1, 3⟩, ⟨2, 3⟩]
def lK : List Sp := [⟨2, 1⟩, ⟨1, 2⟩]
theorem own_lit (w : World) (base : Nat) (l : List Int) (cs : Array Value) (n : Nat) (hcs : cs.toList = iv l) (hn : n = l.length) (hb : base ≤ w.heap.size) (hm : n ≤ 1000) : OwnI (w.alloc (.cells cs 3)) base (.slice (some ⟨w.heap.size, 0, none⟩) n n) l := by
  subst hn
  have hsz : cs.size = l.length := by rw [← Array.length_toList, hcs, iv_length]
  refine ⟨by rw [iv_length, Nat.mul_one], .inr ⟨w.heap.size, l.length, cs, rfl, hb, Blk.new w _ _, Nat.le_refl _, by unfold maxLen; omega, by rw [hsz]; omega, ?_⟩⟩
  rw [hcs, Nat.mul_one, ← iv_length l, List.take_length]
theorem srow_lit (w : World) (l : List Sp) (cs : Array Value) (n : Nat) (hn : n = l.length) (hm : n ≤ 1000) (hw : ∀ s ∈ l, s.wf) (hcs : ∀ i, i < l.length → cs[i * 2]? = some (.int .i64 (gt l i).p) ∧ cs[i * 2 + 1]? = some (.int .i64 (gt l i).n)) :
    SRow (w.alloc (.cells cs 47)) (w.alloc (.cells cs 47)).heap.size (.slice (some ⟨w.heap.size, 0, none⟩) n n) l := by
  subst hn
  refine ⟨⟨hw, fun A n c h => by injection h with h1 h2 h3; subst h2; subst h3; exact ⟨Nat.le_refl _, by unfold maxLen; omega, fun h => by rw [h] at h1; cases h1⟩⟩, by omega, _, _, rfl, fun _ => ⟨w.heap.size, 0, rfl, by simp, fun i hi => ?_⟩⟩
  have hb := Blk.new w 47 cs
  obtain ⟨h1, h2⟩ := hcs i hi
  exact ⟨by rw [Nat.zero_add, hb.cell, h1], by rw [Nat.zero_add, hb.cell, h2]⟩
theorem lists_lit (w : World) : LRow ((((w.alloc (.cells #[.int .i64 2] 3)).alloc (.cells #[.int .i64 0, .int .i64 1] 3)).alloc (.cells #[.int .i64 3] 3)).alloc (.cells #[.slice (some ⟨w.heap.size, 0, none⟩) 1 1, .slice (some ⟨w.heap.size + 1, 0, none⟩) 2 2, .slice (some ⟨w.heap.size + 1 + 1, 0, none⟩) 1 1] 23)) (w.heap.size + 1 + 1 + 1 + 1)
    (.slice (some ⟨w.heap.size + 1 + 1 + 1, 0, none⟩) 3 3) [[2], [0, 1], [3]] := by
  obtain ⟨W1, h1⟩ : ∃ W1, w.alloc (.cells #[.int .i64 2] 3) = W1 := ⟨_, rfl⟩
  have s1 : W1.heap.size = w.heap.size + 1 := by rw [← h1]; simp
  have o1 := own_lit w w.heap.size [2] #[.int .i64 2] 1 rfl rfl (Nat.le_refl _) (by omega)
  rw [h1] at o1 ⊢
  obtain ⟨W2, h2⟩ : ∃ W2, W1.alloc (.cells #[.int .i64 0, .int .i64 1] 3) = W2 := ⟨_, rfl⟩
  have s2 : W2.heap.size = w.heap.size + 1 + 1 := by rw [← h2, ← s1]; simp
  have o2 := own_lit W1 w.heap.size [0, 1] #[.int .i64 0, .int .i64 1] 2 rfl rfl (by omega) (by omega)
  have o1 := o1.below (below_new W1 (.cells #[.int .i64 0, .int .i64 1] 3))
  rw [h2] at o1 o2 ⊢
  obtain ⟨W3, h3⟩ : ∃ W3, W2.alloc (.cells #[.int .i64 3] 3) = W3 := ⟨_, rfl⟩
  have s3 : W3.heap.size = w.heap.size + 1 + 1 + 1 := by rw [← h3, ← s2]; simp
  have o3 := own_lit W2 w.heap.size [3] #[.int .i64 3] 1 rfl rfl (by omega) (by omega)
  have o1 := o1.below (below_new W2 (.cells #[.int .i64 3] 3))
  have o2 := o2.below (below_new W2 (.cells #[.int .i64 3] 3))
  rw [h3] at o1 o2 o3 ⊢
  rw [s1] at o2
  rw [s2] at o3
  obtain ⟨cs, hcs⟩ : ∃ cs : Array Value, #[.slice (some ⟨w.heap.size, 0, none⟩) 1 1, .slice (some ⟨w.heap.size + 1, 0, none⟩) 2 2, .slice (some ⟨w.heap.size + 1 + 1, 0, none⟩) 1 1] = cs := ⟨_, rfl⟩
  have hb := Blk.new W3 23 cs
  have kb := below_new W3 (.cells cs 23)
  have i1 := (o1.irow (by simp)).below kb
  have i2 := (o2.irow (by simp)).below kb
  have i3 := (o3.irow (by simp)).below kb
  rw [hcs, ← s3]
  have s4 : (W3.alloc (.cells cs 23)).heap.size = W3.heap.size + 1 := by simp
  refine ⟨⟨by simp, by simp⟩, _, 3, rfl, fun _ => ⟨W3.heap.size, 0, rfl, by omega, fun i hi => ?_⟩⟩
  have hi3 : i = 0 ∨ i = 1 ∨ i = 2 := by simp at hi; omega
  have q : ∀ k, (W3.alloc (.cells cs 23)).cell? ⟨W3.heap.size, 0 + k, none⟩ = cs[k]? := fun k => by rw [Nat.zero_add]; exact hb.cell k
  rcases hi3 with rfl | rfl | rfl
  · exact ⟨_, (q 0).trans (by rw [← hcs]; rfl), i1.mono (by omega)⟩
  · exact ⟨_, (q 1).trans (by rw [← hcs]; rfl), i2.mono (by omega)⟩
  · exact ⟨_, (q 2).trans (by rw [← hcs]; rfl), i3.mono (by omega)⟩
theorem lits_below (w : World) (a b c d : Obj) : Below w.heap.size w ((((w.alloc a).alloc b).alloc c).alloc d) :=
  ((((below_new w a).trans ((below_new (w.alloc a) b).mono (by simp))).trans ((below_new ((w.alloc a).alloc b) c).mono (by simp; omega))).trans ((below_new (((w.alloc a).alloc b).alloc c) d).mono (by simp; omega)))
theorem lit (w : World) (l : List Int) (cs : Array Value) (n : Nat) (hcs : cs.toList = iv l) (hn : n = l.length) (hm : n ≤ 1000) : IRow (w.alloc (.cells cs 3)) (w.heap.size + 1) (.slice (some ⟨w.heap.size, 0, none⟩) n n) l := by
  have := (own_lit w w.heap.size l cs n hcs hn (Nat.le_refl _) hm).irow (by omega)
  have e : (w.alloc (.cells cs 3)).heap.size = w.heap.size + 1 := by simp
  rw [e] at this
  exact this
theorem selfRow (a : List Int) (u v : Value) (w : World) (B : Nat) (ha : IRow w B u a) (hb : IRow w B v a) : Calls Try.prog 16 #[u, v] w (BPost true w) :=
  (sameRef a a u v w B ha hb).mono fun _ _ h => by rw [decide_eq_true (rfl : a = a)] at h; exact h.below
theorem selfLists (a : List (List Int)) (u v : Value) (w : World) (B : Nat) (ha : LRow w B u a) (hb : LRow w B v a) : Calls Try.prog 13 #[u, v] w (BPost true w) :=
  (sameLists a a u v w B ha hb).mono fun _ _ h => by rw [decide_eq_true (rfl : a = a)] at h; exact h.below
theorem right_lL : rightB (4 : Nat) lL = true := by decide
theorem right_lM : rightB (4 : Nat) lM = true := by decide
theorem right_lK : rightB (3 : Nat) lK = true := by decide
theorem right_no : rightB (2 : Nat) lL = false := by decide
theorem toA_L : toA lL = AL := rfl
theorem toA_M : toA lM = AM := rfl
theorem toA_K : toA lK = AK := rfl
set_option maxRecDepth 100000 in
set_option maxHeartbeats 8000000 in
theorem smallP (w : World) : Calls Try.prog 9 #[] w (BPost true w) := by
  have SL := srow_lit w lL #[.int .i64 0, .int .i64 1, .int .i64 1, .int .i64 0, .int .i64 1, .int .i64 2, .int .i64 3, .int .i64 2] 4 rfl (by omega) (by simp [lL, Sp.wf]) (fun i hi => by
    have : i = 0 ∨ i = 1 ∨ i = 2 ∨ i = 3 := by simp [lL] at hi; omega
    rcases this with rfl | rfl | rfl | rfl <;> exact ⟨rfl, rfl⟩)
  obtain ⟨W1, h1⟩ : ∃ W1, w.alloc (.cells #[.int .i64 0, .int .i64 1, .int .i64 1, .int .i64 0, .int .i64 1, .int .i64 2, .int .i64 3, .int .i64 2] 47) = W1 := ⟨_, rfl⟩
  have s1 : W1.heap.size = w.heap.size + 1 := by rw [← h1]; simp
  have b1 := below_new w (.cells #[.int .i64 0, .int .i64 1, .int .i64 1, .int .i64 0, .int .i64 1, .int .i64 2, .int .i64 3, .int .i64 2] 47)
  have SM := srow_lit W1 lM #[.int .i64 0, .int .i64 1, .int .i64 0, .int .i64 2, .int .i64 1, .int .i64 3, .int .i64 2, .int .i64 3] 4 rfl (by omega) (by simp [lM, Sp.wf]) (fun i hi => by
    have : i = 0 ∨ i = 1 ∨ i = 2 ∨ i = 3 := by simp [lM] at hi; omega
    rcases this with rfl | rfl | rfl | rfl <;> exact ⟨rfl, rfl⟩)
  rw [h1] at SL b1
  have b2 := below_new W1 (.cells #[.int .i64 0, .int .i64 1, .int .i64 0, .int .i64 2, .int .i64 1, .int .i64 3, .int .i64 2, .int .i64 3] 47)
  have SL := SL.keep b2
  have b2 := b1.trans (b2.mono (by omega))
  have HSL := Lib.hid SL
  have HSM := Lib.hid SM
  have HB2 := Lib.hid b2
  clear SL SM b1 b2 s1
  go_enter Try.func9, Try.ntmps9
  go_wp2_with fail
  generalize W1.alloc (.cells #[.int .i64 0, .int .i64 1, .int .i64 0, .int .i64 2, .int .i64 1, .int .i64 3, .int .i64 2, .int .i64 3] 47) = W2 at *
  clear h1
  have hW := Nat.le_refl W2.heap.size
  have HC := parts_ok 4 _ lL _ right_lL (by omega) (by decide) HSL.out
  refine HC.mono ?_; rintro e w3 ⟨u, rfl, hown, hb⟩
  rw [toA_L, parts_AL] at hown
  have HB3 := Lib.hid hb
  have hll := hown.lrow (by simp)
  have HS := Lib.hid (selfLists [[2], [0, 1], [3]] u _ _ _ ((hll.below (lits_below w3 _ _ _ _)).mono (by omega)) (lists_lit w3))
  have HL := Lib.hid (fun a b c d => lits_below w3 a b c d)
  clear hown hb hll HC SL
  go_wp2_with fail
  refine HS.out.mono ?_; rintro e w4 ⟨rfl, hb⟩
  have HB4 := Lib.hid (chain (chain HB3.out (HL.out _ _ _ _) hW) hb hW)
  clear hb HS HL HB3
  have b5 := below_new w4 (.cells #[.int .i64 0] 3)
  have HB5 := Lib.hid (chain HB4.out b5 hW)
  have i5 := (lit w4 [0] #[.int .i64 0] 1 rfl rfl (by omega)).mono (show w4.heap.size + 1 ≤ (w4.alloc (.cells #[.int .i64 0] 3)).heap.size by simp)
  have HRE := Lib.hid (reach_ok 4 _ _ lL [0] _ right_lL (by omega) (by decide) (HSL.out.keep HB5.out) i5)
  clear b5 i5 HB4
  go_wp2_with fail
  refine HRE.out.mono ?_; rintro e w6 ⟨u6, rfl, hown, hb⟩
  rw [toA_L, show rootsN 4 [0] = [0] from rfl, reach_AL] at hown
  have HB6 := Lib.hid (chain HB5.out hb hW)
  have b7 := below_new w6 (.cells #[.int .i64 0, .int .i64 1, .int .i64 2] 3)
  have HB7 := Lib.hid (chain HB6.out b7 hW)
  have HS7 := Lib.hid (selfRow [0, 1, 2] u6 _ _ _ (((hown.irow (by simp [zi])).below b7).mono (by omega)) (lit w6 [0, 1, 2] #[.int .i64 0, .int .i64 1, .int .i64 2] 3 rfl rfl (by omega)))
  clear hown hb b7 HB6 HRE HB5
  go_wp2_with fail
  refine HS7.out.mono ?_; rintro e w8 ⟨rfl, hb⟩
  have HB8 := Lib.hid (chain HB7.out hb hW)
  clear hb HS7 HB7
  have b9 := below_new w8 (.cells #[.int .i64 0] 3)
  have HB9 := Lib.hid (chain HB8.out b9 hW)
  have i9 := (lit w8 [0] #[.int .i64 0] 1 rfl rfl (by omega)).mono (show w8.heap.size + 1 ≤ (w8.alloc (.cells #[.int .i64 0] 3)).heap.size by simp)
  have HWA := Lib.hid (way_ok 4 3 _ _ lM [0] _ right_lM (by omega) (by omega) (by decide) (HSM.out.keep HB9.out) i9)
  clear b9 i9 HB8
  go_wp2_with fail
  refine HWA.out.mono ?_; rintro e w10 ⟨u10, p, rfl, hown, hwok, hb⟩
  rw [toA_M, show rootsN 4 [0] = [0] from rfl] at hwok
  have hp := way_AM hwok
  subst hp
  have HB10 := Lib.hid (chain HB9.out hb hW)
  have b11 := below_new w10 (.cells #[.int .i64 0, .int .i64 1, .int .i64 3] 3)
  have HB11 := Lib.hid (chain HB10.out b11 hW)
  have HS11 := Lib.hid (selfRow [0, 1, 3] u10 _ _ _ (((hown.irow (by simp [zi])).below b11).mono (by omega)) (lit w10 [0, 1, 3] #[.int .i64 0, .int .i64 1, .int .i64 3] 3 rfl rfl (by omega)))
  clear hown hb b11 HB10 HWA HB9 hwok
  go_wp2_with fail
  refine HS11.out.mono ?_; rintro e w12 ⟨rfl, hb⟩
  have HB12 := Lib.hid (chain HB11.out hb hW)
  clear hb HS11 HB11
  have b13 := below_new w12 (.cells #[.int .i64 2, .int .i64 1, .int .i64 1, .int .i64 2] 47)
  have HB13 := Lib.hid (chain HB12.out b13 hW)
  have SK := srow_lit w12 lK #[.int .i64 2, .int .i64 1, .int .i64 1, .int .i64 2] 2 rfl (by omega) (by simp [lK, Sp.wf]) (fun i hi => by
    have : i = 0 ∨ i = 1 := by simp [lK] at hi; omega
    rcases this with rfl | rfl <;> exact ⟨rfl, rfl⟩)
  have HLO := Lib.hid (loop_ok 3 _ lK _ right_lK (by omega) (by decide) SK)
  clear SK b13 HB12
  go_wp2_with fail
  refine HLO.out.mono ?_; rintro e w14 ⟨u14, p, rfl, hown, hlok, hb⟩
  rw [toA_K] at hlok
  have hp := loop_AK hlok
  subst hp
  have HB14 := Lib.hid (chain HB13.out hb hW)
  have b15 := below_new w14 (.cells #[.int .i64 1, .int .i64 2] 3)
  have HB15 := Lib.hid (chain HB14.out b15 hW)
  have HS15 := Lib.hid (selfRow [1, 2] u14 _ _ _ (((hown.irow (by simp [zi])).below b15).mono (by omega)) (lit w14 [1, 2] #[.int .i64 1, .int .i64 2] 2 rfl rfl (by omega)))
  clear hown hb b15 HB14 HLO HB13 hlok
  go_wp2_with fail
  refine HS15.out.mono ?_; rintro e w16 ⟨rfl, hb⟩
  have HB16 := Lib.hid (chain HB15.out hb hW)
  clear hb HS15 HB15
  have HLM := Lib.hid (loop_ok 4 _ lM _ right_lM (by omega) (by decide) (HSM.out.keep HB16.out))
  go_wp2_with fail
  refine HLM.out.mono ?_; rintro e w18 ⟨u18, p, rfl, hown, hlok, hb⟩
  rw [toA_M] at hlok
  have hp := loop_AM hlok
  subst hp
  obtain ⟨A18, c18, hus⟩ := own_slice hown
  rw [show (zi []).length = 0 from rfl] at hus
  subst hus
  have HB18 := Lib.hid (chain HB16.out hb hW)
  have HR1 := rightP (4 : Nat) _ lL _ (HSL.out.keep HB18.out)
  rw [right_lL] at HR1
  replace HR1 := Lib.hid HR1
  clear hown hb HLM HB16 hlok
  go_wp2_with fail
  refine HR1.out.mono ?_; rintro e w19 ⟨rfl, hb⟩
  have HB19 := Lib.hid (chain HB18.out hb hW)
  have HR2 := rightP (2 : Nat) _ lL _ (HSL.out.keep HB19.out)
  rw [right_no] at HR2
  replace HR2 := Lib.hid HR2
  clear hb HR1 HB18
  go_wp2_with fail
  refine HR2.out.mono ?_; rintro e w20 ⟨rfl, hb⟩
  have HB20 := Lib.hid (chain HB19.out hb hW)
  have HPB := Lib.hid (parts_bad (2 : Nat) _ lL _ right_no (HSL.out.keep HB20.out))
  clear hb HR2 HB19
  go_wp2_with fail
  refine HPB.out.mono ?_; rintro e w21 ⟨rfl, hb⟩
  have HF : Hid (BPost true w (.returned (.bool true)) w21) := Lib.hid ⟨rfl, HB2.out.trans ((chain HB20.out hb hW).mono HB2.out.size)⟩
  clear hb HPB
  go_wp2_with fail
  go_ret
  exact HF.out
end Go.Proofs.Ytcljgpgdbjpemaa
