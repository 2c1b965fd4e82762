/-
  The least node on a loop, and the loop through it.
  The program's leastOnLoop.
  The program's Loop.
-/
import Derived.Test.YtmnhnighlgpjmaaGreatParts
import Derived.Test.YtmnhnighlgpjmaaGreatMathA
import Derived.Test.YtmnhnighlgpjmaaGreatWayP
namespace Go.Proofs.YtmnhnighlgpjmaaGreat
set_option linter.unusedVariables false
set_option linter.unusedSimpArgs false

def onLoop (A : Arcs) (n v : Nat) : Prop := (v, v) ∈ A ∨ ∃ w, w < n ∧ w ≠ v ∧ eqv A v w
structure LeastOn (A : Arcs) (n m : Nat) : Prop where
  le : m ≤ n
  on : m < n → onLoop A n m
  min : ∀ v, v < n → onLoop A n v → m ≤ v
theorem LeastOn.unique {A : Arcs} {n m k : Nat} (h : LeastOn A n m) (g : LeastOn A n k) : m = k := by
  have a : m ≤ k := by
    by_cases e : k < n
    · exact h.min k e (g.on e)
    · have := h.le; omega
  have b : k ≤ m := by
    by_cases e : m < n
    · exact g.min m e (h.on e)
    · have := g.le; omega
  omega
theorem eqv_congr {A B : Arcs} (h : ∀ a, a ∈ A ↔ a ∈ B) (v w : Nat) : eqv A v w ↔ eqv B v w :=
  ⟨fun e => ⟨e.1.mono fun a ha => (h a).1 ha, e.2.mono fun a ha => (h a).1 ha⟩, fun e => ⟨e.1.mono fun a ha => (h a).2 ha, e.2.mono fun a ha => (h a).2 ha⟩⟩
theorem onLoop_congr {A B : Arcs} (h : ∀ a, a ∈ A ↔ a ∈ B) (n v : Nat) : onLoop A n v ↔ onLoop B n v := by
  unfold onLoop
  rw [h]
  simp only [eqv_congr h]
theorem LeastOn.congr {A B : Arcs} (h : ∀ a, a ∈ A ↔ a ∈ B) {n m : Nat} (g : LeastOn A n m) : LeastOn B n m :=
  ⟨g.le, fun e => (onLoop_congr h n m).1 (g.on e), fun v hv e => g.min v hv ((onLoop_congr h n v).2 e)⟩
def stepP (a : Nat) (p : List Nat) : Nat := if 1 < p.length then min a (p.getD 0 0) else a
def lstP (m : Nat) (L : List (List Nat)) : Nat := L.foldl stepP m
def stepA (a : Nat) (s : Nat × Nat) : Nat := if s.1 = s.2 then min a s.1 else a
def lstA (m : Nat) (A : Arcs) : Nat := A.foldl stepA m
theorem lstP_snoc (m : Nat) (L : List (List Nat)) (p : List Nat) : lstP m (L ++ [p]) = stepP (lstP m L) p := by simp [lstP]
theorem lstA_snoc (m : Nat) (A : Arcs) (s : Nat × Nat) : lstA m (A ++ [s]) = stepA (lstA m A) s := by simp [lstA]
theorem lstP_le : ∀ (L : List (List Nat)) (m : Nat), lstP m L ≤ m ∧ (∀ p ∈ L, 1 < p.length → lstP m L ≤ p.getD 0 0) ∧ (lstP m L = m ∨ ∃ p ∈ L, 1 < p.length ∧ lstP m L = p.getD 0 0)
  | [], m => ⟨Nat.le_refl _, by simp, .inl rfl⟩
  | p :: L, m => by
    obtain ⟨h1, h2, h3⟩ := lstP_le L (stepP m p)
    have e : lstP m (p :: L) = lstP (stepP m p) L := rfl
    rw [e]
    have h4 : stepP m p ≤ m := by unfold stepP; split <;> omega
    refine ⟨by omega, fun q hq hl => ?_, ?_⟩
    · rcases List.mem_cons.1 hq with rfl | hq
      · have : stepP m q ≤ q.getD 0 0 := by unfold stepP; rw [if_pos hl]; omega
        omega
      · exact h2 q hq hl
    · rcases h3 with h3 | ⟨q, h5, h6, h7⟩
      · rw [h3]
        unfold stepP
        split
        · rename_i hl
          by_cases hm : m ≤ p.getD 0 0
          · left; omega
          · right; exact ⟨p, List.mem_cons_self, hl, by omega⟩
        · left; rfl
      · right; exact ⟨q, List.mem_cons_of_mem _ h5, h6, h7⟩
theorem lstA_le : ∀ (A : Arcs) (m : Nat), lstA m A ≤ m ∧ (∀ v, (v, v) ∈ A → lstA m A ≤ v) ∧ (lstA m A = m ∨ (lstA m A, lstA m A) ∈ A)
  | [], m => ⟨Nat.le_refl _, by simp, .inl rfl⟩
  | s :: A, m => by
    obtain ⟨h1, h2, h3⟩ := lstA_le A (stepA m s)
    have e : lstA m (s :: A) = lstA (stepA m s) A := rfl
    rw [e]
    have h4 : stepA m s ≤ m := by unfold stepA; split <;> omega
    refine ⟨by omega, fun v hv => ?_, ?_⟩
    · rcases List.mem_cons.1 hv with rfl | hv
      · have : stepA m (v, v) ≤ v := by unfold stepA; rw [if_pos rfl]; simp only; omega
        omega
      · exact h2 v hv
    · rcases h3 with h3 | h3
      · rw [h3]
        unfold stepA
        obtain ⟨a, b⟩ := s
        simp only
        split
        · rename_i hl
          by_cases hm : m ≤ a
          · left; omega
          · right
            rw [Nat.min_eq_right (by omega)]
            subst hl
            exact List.mem_cons_self
        · left; rfl
      · right; exact List.mem_cons_of_mem _ h3
theorem asc_head0 {l : List Nat} (h : l.Pairwise (· < ·)) {x : Nat} (hx : x ∈ l) : l.getD 0 0 ≤ x := by
  cases l with
  | nil => simp at hx
  | cons a l =>
    rcases List.mem_cons.1 hx with e | e
    · rw [e]; exact Nat.le_refl _
    · exact Nat.le_of_lt ((List.pairwise_cons.1 h).1 x e)
theorem partOf_asc0 (A : Arcs) (n v : Nat) : (partOf A n v).Pairwise (· < ·) := List.pairwise_lt_range.filter _
theorem least_ok {A : Arcs} {n : Nat} (hA : ∀ a ∈ A, a.1 < n ∧ a.2 < n) : LeastOn A n (lstA (lstP n (partsOf A n)) A) := by
  have hP := partsOf_ok A n
  obtain ⟨p1, p2, p3⟩ := lstP_le (partsOf A n) n
  obtain ⟨a1, a2, a3⟩ := lstA_le A (lstP n (partsOf A n))
  refine ⟨by omega, fun hm => ?_, fun v hv ho => ?_⟩
  · rcases a3 with a3 | a3
    · rw [a3] at hm ⊢
      rcases p3 with p3 | ⟨p, h1, h2, h3⟩
      · omega
      · rw [h3] at hm ⊢
        obtain ⟨v, hv, rfl⟩ := hP.each p h1
        have hasc := partOf_asc0 A n v
        generalize hl : partOf A n v = l at *
        have hmem : ∀ x ∈ l, x < n ∧ eqv A v x := fun x hx => mem_partOf.1 (hl ▸ hx)
        match l, h2 with
        | a :: b :: t, _ =>
          right
          have ha := hmem a (by simp)
          have hb := hmem b (by simp)
          refine ⟨b, hb.1, ?_, ha.2.symm.trans hb.2⟩
          have := (List.pairwise_cons.1 hasc).1 b (by simp)
          show b ≠ a
          omega
    · exact .inl a3
  · rcases ho with ho | ⟨w, hw, hwv, he⟩
    · exact a2 v ho
    · rcases hP.all v hv with h1 | ⟨p, h1, h2⟩
      · simp at h1
      · obtain ⟨u, hu, rfl⟩ := hP.each p h1
        have h3 := mem_partOf.1 h2
        have h4 : w ∈ partOf A n u := mem_partOf.2 ⟨hw, h3.2.trans he⟩
        have h5 : 1 < (partOf A n u).length := by
          match hl : partOf A n u with
          | [] => rw [hl] at h2; simp at h2
          | [a] => rw [hl] at h2 h4; simp at h2 h4; omega
          | a :: b :: t => simp
        have h6 := p2 _ h1 h5
        have h7 := asc_head0 (partOf_asc0 A n u) h2
        omega


theorem lst_get (l : List Nat) : lst l = l.getD (l.length - 1) 0 := by
  unfold lst
  rw [List.getLastD_eq_getLast?, List.getLast?_eq_getElem?, List.getD_eq_getElem?_getD]
theorem cut_get (l : List Nat) {i j : Nat} (hij : i < j) (hj : j < l.length) (k : Nat) : (l.take (i + 1) ++ l.drop (j + 1))[k]? = if k ≤ i then l[k]? else l[k + (j - i)]? := by
  have hl : (l.take (i + 1)).length = i + 1 := by rw [List.length_take]; omega
  by_cases h : k ≤ i
  · rw [if_pos h, List.getElem?_append_left (by omega), List.getElem?_take, if_pos (by omega)]
  · rw [if_neg h, List.getElem?_append_right (by omega), List.getElem?_drop, hl]
    congr 1; omega
theorem WayOk.nodup {A : Arcs} {R : List Nat} {tt : Nat} {l : List Nat} (h : WayOk A R tt l) : l.Nodup := by
  rcases h with ⟨rfl, _⟩ | ⟨h1, h2, ⟨r, h3, h4⟩, h5, h6⟩
  · simp
  · rw [List.nodup_iff_pairwise_ne, List.pairwise_iff_getElem]
    intro i j hi hj hij e
    have hg := cut_get l hij hj
    have hlen : (l.take (i + 1) ++ l.drop (j + 1)).length = l.length - (j - i) := by rw [List.length_append, List.length_take, List.length_drop]; omega
    have hei : l[i]? = l[j]? := by rw [List.getElem?_eq_getElem hi, List.getElem?_eq_getElem hj, e]
    refine h6 (l.take (i + 1) ++ l.drop (j + 1)) (fun h0 => ?_) (fun k x y hx hy => ?_) ⟨r, h3, ?_⟩ ?_ (.inl (by omega))
    · rw [h0] at hlen; simp at hlen; omega
    · rw [hg] at hx hy
      by_cases hk : k + 1 ≤ i
      · rw [if_pos (by omega)] at hx
        rw [if_pos hk] at hy
        exact h2 k x y hx hy
      · rw [if_neg hk] at hy
        by_cases hk2 : k ≤ i
        · rw [if_pos hk2, show k = i by omega, hei] at hx
          exact h2 j x y hx (by rw [← hy]; congr 1; omega)
        · rw [if_neg hk2] at hx
          exact h2 _ x y hx (by rw [← hy]; congr 1; omega)
    · rw [hg, if_pos (Nat.zero_le _)]; exact h4
    · rw [← h5, lst_get, lst_get, List.getD_eq_getElem?_getD, List.getD_eq_getElem?_getD, hg, hlen]
      by_cases hk : l.length - (j - i) - 1 ≤ i
      · rw [if_pos hk, show l.length - (j - i) - 1 = i by omega, hei]
        congr 2; omega
      · rw [if_neg hk]
        congr 2; omega
theorem way_lt {A : Arcs} {n tt : Nat} {R l : List Nat} (hA : ∀ a ∈ A, a.1 < n ∧ a.2 < n) (ht : tt < n) (h : WayOk A R tt l) : ∀ x ∈ l, x < n := by
  rcases h with ⟨rfl, _⟩ | ⟨h1, h2, _, h5, _⟩
  · simp
  · intro x hx
    obtain ⟨i, hi, rfl⟩ := List.getElem_of_mem hx
    by_cases hl : i + 1 < l.length
    · exact (hA _ (h2 i _ _ (List.getElem?_eq_getElem hi) (List.getElem?_eq_getElem hl))).1
    · rw [lst_get, List.getD_eq_getElem?_getD, show l.length - 1 = i by omega, List.getElem?_eq_getElem hi] at h5
      simp at h5
      omega
theorem way_len {A : Arcs} {n tt : Nat} {R l : List Nat} (hA : ∀ a ∈ A, a.1 < n ∧ a.2 < n) (ht : tt < n) (h : WayOk A R tt l) : l.length ≤ n := nodup_le n l h.nodup (way_lt hA ht h)
def succsOf (A : Arcs) (m : Nat) : List Nat := (A.filter fun a => a.1 == m).map (·.2)
theorem mem_succsOf {A : Arcs} {m x : Nat} : x ∈ succsOf A m ↔ (m, x) ∈ A := by
  unfold succsOf
  rw [List.mem_map]
  constructor
  · rintro ⟨⟨a, b⟩, h1, h2⟩
    obtain ⟨h3, h4⟩ := List.mem_filter.1 h1
    simp only [beq_iff_eq] at h4 h2
    subst h4; subst h2; exact h3
  · intro h; exact ⟨(m, x), List.mem_filter.2 ⟨h, by simp⟩, rfl⟩
theorem loop_back {A : Arcs} {n m : Nat} (h : onLoop A n m) : ∃ r ∈ succsOf A m, RT A r m := by
  rcases h with h | ⟨w, _, hw, he⟩
  · exact ⟨m, mem_succsOf.2 h, .refl⟩
  · rcases he.1.head with e | ⟨u, h1, h2⟩
    · exact absurd e.symm hw
    · exact ⟨u, mem_succsOf.2 h1, h2.trans he.2⟩
def LoopOk (A : Arcs) (n : Nat) (p : List Nat) : Prop := ∃ m, LeastOn A n m ∧ ((m = n ∧ p = []) ∨ (m < n ∧ ∃ q, WayOk A (succsOf A m) m q ∧ q ≠ [] ∧ p = m :: q.dropLast))
theorem LoopOk.unique {A : Arcs} {n : Nat} {p p' : List Nat} (h : LoopOk A n p) (g : LoopOk A n p') : p = p' := by
  obtain ⟨m, h1, h2⟩ := h
  obtain ⟨k, g1, g2⟩ := g
  have := h1.unique g1
  subst this
  rcases h2 with ⟨h2, rfl⟩ | ⟨h2, q, h3, h4, rfl⟩ <;> rcases g2 with ⟨g2, rfl⟩ | ⟨g2, q2, g3, g4, rfl⟩
  · rfl
  · omega
  · omega
  · rw [h3.unique g3]
theorem LoopOk.congr {A B : Arcs} (hA : ∀ a, a ∈ A ↔ a ∈ B) {n : Nat} {p : List Nat} (h : LoopOk A n p) : LoopOk B n p := by
  obtain ⟨m, h1, h2⟩ := h
  refine ⟨m, h1.congr hA, ?_⟩
  rcases h2 with h2 | ⟨h2, q, h3, h4⟩
  · exact .inl h2
  · exact .inr ⟨h2, q, h3.congr hA (fun r => by rw [mem_succsOf, mem_succsOf, hA]), h4⟩
end Go.Proofs.YtmnhnighlgpjmaaGreat

namespace Go.Proofs.YtmnhnighlgpjmaaGreat
set_option linter.unusedVariables false
set_option linter.unusedSimpArgs false
open Go.RowKit

def LstPost (A : Arcs) (n : Nat) (w : World) (e : Ending) (w' : World) : Prop := ∃ m, LeastOn A n m ∧ ((m = n ∧ e = .returned (.int .i64 (-1))) ∨ (m < n ∧ e = .returned (.int .i64 (m : Nat)))) ∧ Below w.heap.size w w'
theorem LstPost.none {A : Arcs} {n : Nat} {w w' : World} {e : Ending} (h : LeastOn A n n) (he : e = .returned (.int .i64 (-1))) (hb : Below w.heap.size w w') : LstPost A n w e w' := ⟨n, h, .inl ⟨rfl, he⟩, hb⟩
theorem LstPost.some {A : Arcs} {n m : Nat} {w w' : World} {e : Ending} (h : LeastOn A n m) (hm : m < n) (he : e = .returned (.int .i64 (m : Nat))) (hb : Below w.heap.size w w') : LstPost A n w e w' := ⟨m, h, .inr ⟨hm, he⟩, hb⟩
def Ls1Rel (n : Nat) (P : List (List Nat)) (w : World) (s i : Value) (wl : World) : Prop := ∃ k : Nat, i = .int .i64 k ∧ k ≤ P.length ∧ s = .int .i64 (lstP n (P.take k) : Nat) ∧ Below w.heap.size w wl
def Ls2Rel (m : Nat) (l : List Sp) (w : World) (s i : Value) (wl : World) : Prop := ∃ k : Nat, i = .int .i64 k ∧ k ≤ l.length ∧ s = .int .i64 (lstA m ((toA l).take k) : Nat) ∧ Below w.heap.size w wl
set_option maxRecDepth 100000 in
set_option maxHeartbeats 8000000 in
theorem leastP (n : Nat) (v : Value) (l : List Sp) (w : World) (hri : rightB n l = true) (hn : n ≤ 900) (hl : l.length ≤ 1000) (hr : SRow w w.heap.size v l) :
    Calls Tryz.prog 35 #[.int .i64 n, v] w (LstPost (toA l) n w) := by
  have HPA := Lib.hid (parts_ok n v l w hri hn hl hr)
  have HLO := Lib.hid (least_ok (right_toA hri))
  have hpl : (partsOf (toA l) n).length ≤ n := partsGo_len _ _ _ _
  have HRI : Hid (rightB (n : Int) l = true) := hri
  obtain ⟨hwf, hl0, SA, scap, rfl, hrd⟩ := hr
  have HSR := Lib.hid hrd
  clear hri hrd hwf
  go_enter Tryz.func35, Tryz.ntmps35
  go_wp2_with fail
  refine HPA.out.mono ?_; rintro e w1 ⟨u, rfl, hown, hb⟩
  obtain ⟨P, hP⟩ : ∃ P, partsOf (toA l) n = P := ⟨_, rfl⟩
  rw [hP] at hown hpl HLO
  obtain ⟨PA, pcap, rfl, hprd⟩ := (hown.lrow (by rw [List.length_map]; omega)).rd (rfl : P.length = P.length)
  have HPR := Lib.hid hprd
  have HB := Lib.hid hb
  clear hb hown hprd HPA hP
  go_wp2_with fail
  go_loopw [5, 15] (fun s i wl => Ls1Rel n P w1 s i wl) (fun _ i _ => P.length - (intOf i).toNat)
  case atStart => exact ⟨0, rfl, by omega, rfl, Below.refl _ _⟩
  case round =>
    obtain ⟨k, rfl, hk, rfl, hB⟩ := hrel
    by_cases hlt : k < P.length
    · obtain ⟨b, off, u, A2, cap2, rfl, hb1, hc1, rfl, hin⟩ := HPR.out k hlt
      have c1 := (hB.cell (p := ⟨b, off + k, none⟩) hb1).trans hc1
      have hTk : P.take (k + 1) = P.take k ++ [P.getD k []] := by
        rw [List.take_succ_eq_append_getElem hlt, List.getD_eq_getElem?_getD, List.getElem?_eq_getElem hlt]; rfl
      have hst : lstP n (P.take (k + 1)) = stepP (lstP n (P.take k)) (P.getD k []) := by rw [hTk, lstP_snoc]
      have hmx := (lstP_le (P.take k) n).1
      obtain ⟨m, hm⟩ : ∃ m, lstP n (P.take k) = m := ⟨_, rfl⟩
      obtain ⟨q, hq⟩ : ∃ q, P.getD k [] = q := ⟨_, rfl⟩
      rw [hm] at hst hmx ⊢
      rw [hq] at hst hin c1
      by_cases h1 : 1 < q.length
      · have h1i : (1 : Int) < q.length := by omega
        obtain ⟨b2, off2, rfl, hb2, hc2⟩ := hin (by omega)
        have c2 := (hB.cell (p := ⟨b2, off2 + 0, none⟩) hb2).trans (hc2 0 (by omega))
        rw [Nat.add_zero] at c2
        unfold stepP at hst
        rw [if_pos h1] at hst
        have hx : q.getD 0 0 = q[0] := by rw [List.getD_eq_getElem?_getD, List.getElem?_eq_getElem (by omega)]; rfl
        rw [hx] at hst
        obtain ⟨x, hx2⟩ : ∃ x, q[0] = x := ⟨_, rfl⟩
        rw [hx2] at hst c2
        have h0q : 0 < q.length := by omega
        by_cases hmx2 : m ≤ x
        · have hmi : (m : Int) ≤ x := by omega
          have HE : Hid (lstP n (P.take (k + 1)) = m) := Lib.hid (by omega)
          have HB2 := Lib.hid hB
          clear hst hm hq hx hx2 hTk hin hc1 hc2 hB
          go_wp2_with fail
          go_roundw
          case rel => exact ⟨k + 1, by go_num, by omega, by rw [HE.out, Int.min_eq_left (by omega)], HB2.out⟩
          case measure => simp [intOf]; omega
        · have hmi : (x : Int) < m := by omega
          have HE : Hid (lstP n (P.take (k + 1)) = x) := Lib.hid (by omega)
          have HB2 := Lib.hid hB
          clear hst hm hq hx hx2 hTk hin hc1 hc2 hB
          go_wp2_with fail
          go_roundw
          case rel => exact ⟨k + 1, by go_num, by omega, by rw [HE.out, Int.min_eq_right (by omega)], HB2.out⟩
          case measure => simp [intOf]; omega
      · have h1i : decide ((1 : Int) < q.length) = false := by simp; omega
        have h1n : decide (1 < q.length) = false := by simp; omega
        have HE : Hid (lstP n (P.take (k + 1)) = m) := Lib.hid (by rw [hst]; unfold stepP; rw [if_neg h1])
        have HB2 := Lib.hid hB
        clear hst hm hq hTk hin hc1 hB
        go_wp2_with fail
        go_roundw
        case rel => exact ⟨k + 1, by go_num, by omega, by rw [HE.out], HB2.out⟩
        case measure => simp [intOf]; omega
    · obtain rfl : k = P.length := by omega
      rw [List.take_length]
      have hmx := (lstP_le P n).1
      obtain ⟨m, hm⟩ : ∃ m, lstP n P = m := ⟨_, rfl⟩
      rw [hm] at hmx HLO ⊢
      have HB2 := Lib.hid (HB.out.trans (hB.mono HB.out.size))
      clear hB hm HPR hk hlt
      obtain ⟨wo, hwo⟩ : ∃ wo : World, wo = wr := ⟨_, rfl⟩
      subst hwo
      go_wp2_with fail
      go_loopw [5, 30] (fun s i wl => Ls2Rel m l wo s i wl) (fun _ i _ => l.length - (intOf i).toNat)
      case atStart => exact ⟨0, rfl, by omega, rfl, Below.refl _ _⟩
      case round =>
        obtain ⟨k, rfl, hk, rfl, hB⟩ := hrel
        have hBw := HB2.out.trans (hB.mono HB2.out.size)
        have hmx3 := (lstA_le ((toA l).take k) m).1
        by_cases hlt : k < l.length
        · obtain ⟨b, off, rfl, hb1, hc⟩ := HSR.out (by omega)
          have c1 := (hBw.cell (p := ⟨b, off + k * 2, none⟩) hb1).trans (hc k hlt).1
          have c2 := (hBw.cell (p := ⟨b, off + k * 2 + 1, none⟩) hb1).trans (hc k hlt).2
          have hra := right_arc HRI.out k hlt
          obtain ⟨p1, p2, p3, p4⟩ := hra
          have HTK := toA_take l k hlt
          obtain ⟨x, hx⟩ : ∃ x : Nat, (gt l k).p = x := ⟨(gt l k).p.toNat, by omega⟩
          obtain ⟨y, hy⟩ : ∃ y : Nat, (gt l k).n = y := ⟨(gt l k).n.toNat, by omega⟩
          rw [hx] at c1 p1 p2 HTK
          rw [hy] at c2 p3 p4 HTK
          simp only [Int.toNat_natCast] at HTK
          have hst : lstA m ((toA l).take (k + 1)) = stepA (lstA m ((toA l).take k)) (x, y) := by rw [HTK, lstA_snoc]
          obtain ⟨z, hz⟩ : ∃ z, lstA m ((toA l).take k) = z := ⟨_, rfl⟩
          rw [hz] at hst hmx3 ⊢
          unfold stepA at hst
          simp only at hst
          have hbs := hB.size
          have HB3 := Lib.hid (hB.trans ((below_new wr (.cells #[.int .i64 x, .int .i64 y] 53)).mono hbs))
          have q0 : (wr.alloc (.cells #[.int .i64 x, .int .i64 y] 53)).cell? ⟨wr.heap.size, 0, none⟩ = some (.int .i64 x) := (Blk.new wr 53 _).cell 0
          have q1 : (wr.alloc (.cells #[.int .i64 x, .int .i64 y] 53)).cell? ⟨wr.heap.size, 1, none⟩ = some (.int .i64 y) := (Blk.new wr 53 _).cell 1
          by_cases hxy : x = y
          · have hxb : ((x : Int) == (y : Int)) = true := by simp [hxy]
            rw [if_pos hxy] at hst
            by_cases hzx : z ≤ x
            · have hzi : (z : Int) ≤ x := by omega
              have HE : Hid (lstA m ((toA l).take (k + 1)) = z) := Lib.hid (by omega)
              clear hst hz hx hy HTK hc hB hBw hxy
              go_wp2_with fail
              go_roundw
              case rel => exact ⟨k + 1, by go_num, by omega, by rw [HE.out, Int.min_eq_left (by omega)], HB3.out⟩
              case measure => simp [intOf]; omega
            · have hzi : (x : Int) < z := by omega
              have HE : Hid (lstA m ((toA l).take (k + 1)) = x) := Lib.hid (by omega)
              clear hst hz hx hy HTK hc hB hBw hxy
              go_wp2_with fail
              go_roundw
              case rel => exact ⟨k + 1, by go_num, by omega, by rw [HE.out, Int.min_eq_right (by omega)], HB3.out⟩
              case measure => simp [intOf]; omega
          · have hxb : ((x : Int) == (y : Int)) = false := by simp; omega
            rw [if_neg hxy] at hst
            have HE : Hid (lstA m ((toA l).take (k + 1)) = z) := Lib.hid hst
            clear hst hz hx hy HTK hc hB hBw hxy
            go_wp2_with fail
            go_roundw
            case rel => exact ⟨k + 1, by go_num, by omega, by rw [HE.out], HB3.out⟩
            case measure => simp [intOf]; omega
        · obtain rfl : k = l.length := by omega
          rw [show (toA l).take l.length = toA l from List.take_of_length_le (by simp [toA])] at hmx3 ⊢
          obtain ⟨z, hz⟩ : ∃ z, lstA m (toA l) = z := ⟨_, rfl⟩
          rw [hz] at HLO hmx3 ⊢
          by_cases hzn : z = n
          · have hzb : ((z : Int) == (n : Int)) = true := by simp [hzn]
            have HF : Hid (LstPost (toA l) n w (.returned (.int .i64 (-1))) wr) := Lib.hid (LstPost.none (by rw [← hzn]; rw [hzn] at HLO ⊢; exact HLO.out) rfl hBw)
            clear hz hzn hBw hB
            go_wp2_with fail
            go_ret
            exact HF.out
          · have hzb : ((z : Int) == (n : Int)) = false := by simp; omega
            have HF : Hid (LstPost (toA l) n w (.returned (.int .i64 (z : Nat))) wr) := Lib.hid (LstPost.some HLO.out (by omega) rfl hBw)
            clear hz hzn hBw hB
            go_wp2_with fail
            go_ret
            exact HF.out
end Go.Proofs.YtmnhnighlgpjmaaGreat

namespace Go.Proofs.YtmnhnighlgpjmaaGreat
set_option linter.unusedVariables false
set_option linter.unusedSimpArgs false
open Go.RowKit

theorem succsOf_snoc (A : Arcs) (m x y : Nat) : succsOf (A ++ [(x, y)]) m = succsOf A m ++ if x = m then [y] else [] := by
  unfold succsOf
  rw [List.filter_append, List.map_append]
  by_cases h : x = m <;> simp [List.filter_cons, h]
theorem succsOf_len (A : Arcs) (m : Nat) : (succsOf A m).length ≤ A.length := by
  unfold succsOf
  rw [List.length_map]; exact List.length_filter_le _ _
theorem rootsN_zi {n : Nat} : ∀ {S : List Nat}, (∀ x ∈ S, x < n) → rootsN n (zi S) = S
  | [], _ => rfl
  | x :: S, h => by
    have ih := rootsN_zi (n := n) (S := S) (fun y hy => h y (List.mem_cons_of_mem _ hy))
    have hx := h x (by simp)
    unfold rootsN zi at ih ⊢
    rw [List.map_cons, List.filter_cons, if_pos (by simp; omega), List.map_cons, ih]; rfl
def LoopPost (A : Arcs) (n : Nat) (w : World) (e : Ending) (w' : World) : Prop := ∃ u p, e = .returned u ∧ OwnI w' w.heap.size u (zi p) ∧ LoopOk A n p ∧ Below w.heap.size w w'
theorem LoopPost.mk {A : Arcs} {n : Nat} {w w' : World} {e : Ending} (u : Value) (p : List Nat) (h1 : e = .returned u) (h2 : OwnI w' w.heap.size u (zi p)) (h3 : LoopOk A n p) (h4 : Below w.heap.size w w') : LoopPost A n w e w' := ⟨u, p, h1, h2, h3, h4⟩
def Lp1Rel (m : Nat) (l : List Sp) (w : World) (s i : Value) (wl : World) : Prop := ∃ k : Nat, i = .int .i64 k ∧ k ≤ l.length ∧ OwnI wl w.heap.size s (zi (succsOf ((toA l).take k) m)) ∧ Below w.heap.size w wl
theorem own_one (w : World) (base : Nat) (x : Int) (hb : base ≤ w.heap.size) : OwnI (w.alloc (.cells #[.int .i64 x] 3)) base (.slice (some ⟨w.heap.size, 0, none⟩) 1 1) [x] :=
  ⟨rfl, .inr ⟨w.heap.size, 1, #[.int .i64 x], rfl, hb, Blk.new w _ _, Nat.le_refl _, by decide, rfl, rfl⟩⟩
theorem own_len {w : World} {base n cap : Nat} {A : Option Addr} {l : List Int} (h : OwnI w base (.slice A n cap) l) : l.length ≤ cap ∧ True := by
  rcases h.form with ⟨hv, rfl⟩ | ⟨g, c2, cur, hv, _, _, h1, h2, _⟩
  · exact ⟨by simp, trivial⟩
  · injection hv with _ _ h3; rw [h3]; exact ⟨h1, trivial⟩
theorem loop_bad (n : Int) (v : Value) (l : List Sp) (w : World) (hri : rightB n l = false) (hr : SRow w w.heap.size v l) :
    Calls Tryz.prog 18 #[.int .i64 n, v] w (NilPost w) := by
  have HC := rightP n v l w hr
  rw [hri] at HC
  have HC2 := Lib.hid HC
  clear HC hr hri
  go_enter Tryz.func18, Tryz.ntmps18
  go_wp2_with fail
  refine HC2.out.mono ?_; rintro e w1 ⟨rfl, hb⟩
  have HB := Lib.hid hb
  clear hb
  go_wp2_with fail
  go_ret
  exact ⟨rfl, HB.out⟩
set_option maxRecDepth 100000 in
set_option maxHeartbeats 8000000 in
theorem loop_ok (n : Nat) (v : Value) (l : List Sp) (w : World) (hri : rightB n l = true) (hn : n ≤ 900) (hl : l.length ≤ 1000) (hr : SRow w w.heap.size v l) :
    Calls Tryz.prog 18 #[.int .i64 n, v] w (LoopPost (toA l) n w) := by
  obtain ⟨i0, hi, hz0, hz1, hz2⟩ := info_parts infoI
  have HC := rightP n v l w hr
  have HRI : Hid (rightB (n : Int) l = true) := hri
  rw [hri] at HC
  have HC2 := Lib.hid HC
  have HR := Lib.hid hr
  obtain ⟨hwf, hl0, SA, scap, rfl, hrd⟩ := hr
  have HSR := Lib.hid hrd
  clear HC hri hrd hwf
  go_enter Tryz.func18, Tryz.ntmps18
  go_wp2_with fail
  refine HC2.out.mono ?_; rintro e w1 ⟨rfl, hb⟩
  have HLS := Lib.hid (leastP n _ l w1 HRI.out hn hl (HR.out.keep hb))
  have HB1 := Lib.hid hb
  clear hb HC2
  go_wp2_with fail
  refine HLS.out.mono ?_; rintro e w2 ⟨m, hlo, hm, hb2⟩
  have HB2 := Lib.hid (HB1.out.trans (hb2.mono HB1.out.size))
  have HLO := Lib.hid hlo
  clear hb2 hlo HLS HB1
  rcases hm with ⟨hm, rfl⟩ | ⟨hm, rfl⟩
  · have HF : Hid (LoopPost (toA l) n w (.returned (.slice none 0 0)) w2) := Lib.hid (LoopPost.mk _ [] rfl (OwnI.nil _ _) ⟨m, HLO.out, .inl ⟨hm, rfl⟩⟩ HB2.out)
    clear hm
    go_wp2_with fail
    go_ret
    exact HF.out
  · have HWL : Hid (∀ q, WayOk (toA l) (succsOf (toA l) m) m q → q ≠ [] → q.length ≤ 2000) := Lib.hid (fun q h1 h2 => Nat.le_trans (way_len (right_toA HRI.out) hm h1) (by omega))
    have hme : ((m : Int) == -1) = false := by rw [beq_eq_false_iff_ne]; omega
    have hmn : (m : Int) < n := by omega
    have hm0 : (0 : Int) ≤ m := by omega
    go_wp2_with fail
    go_loopw [6, 21] (fun s i wl => Lp1Rel m l w2 s i wl) (fun _ i _ => l.length - (intOf i).toNat)
    case atStart => exact ⟨0, rfl, by omega, OwnI.nil _ _, Below.refl _ _⟩
    case round =>
      obtain ⟨k, rfl, hk, hs, hB⟩ := hrel
      have hBw := HB2.out.trans (hB.mono HB2.out.size)
      have hsl := succsOf_len ((toA l).take k) m
      have hsl2 : (succsOf ((toA l).take k) m).length ≤ 1000 := by have h1 : ((toA l).take k).length ≤ k := List.length_take_le _ _; omega
      obtain ⟨FA, fcap, hfs⟩ := own_slice hs
      rw [zi_length] at hfs
      subst hfs
      by_cases hlt : k < l.length
      · obtain ⟨b, off, rfl, hb1, hc⟩ := HSR.out (by omega)
        have c1 := (hBw.cell (p := ⟨b, off + k * 2, none⟩) hb1).trans (hc k hlt).1
        have c2 := (hBw.cell (p := ⟨b, off + k * 2 + 1, none⟩) hb1).trans (hc k hlt).2
        have hra := right_arc HRI.out k hlt
        obtain ⟨p1, p2, p3, p4⟩ := hra
        have HTK := toA_take l k hlt
        obtain ⟨x, hx⟩ : ∃ x : Nat, (gt l k).p = x := ⟨(gt l k).p.toNat, by omega⟩
        obtain ⟨y, hy⟩ : ∃ y : Nat, (gt l k).n = y := ⟨(gt l k).n.toNat, by omega⟩
        rw [hx] at c1 p1 p2 HTK
        rw [hy] at c2 p3 p4 HTK
        simp only [Int.toNat_natCast] at HTK
        have hst : succsOf ((toA l).take (k + 1)) m = succsOf ((toA l).take k) m ++ if x = m then [y] else [] := by rw [HTK, succsOf_snoc]
        obtain ⟨S, hS⟩ : ∃ S, succsOf ((toA l).take k) m = S := ⟨_, rfl⟩
        rw [hS] at hst hs hsl2 ⊢
        have hbs := hB.size
        have hb3 := hB.trans ((below_new wr (.cells #[.int .i64 x, .int .i64 y] 53)).mono hbs)
        have HB3 := Lib.hid hb3
        have hs3 := hs.below (below_new wr (.cells #[.int .i64 x, .int .i64 y] 53))
        have hblk := Blk.new wr 53 #[.int .i64 x, .int .i64 y]
        have q0 : (wr.alloc (.cells #[.int .i64 x, .int .i64 y] 53)).cell? ⟨wr.heap.size, 0, none⟩ = some (.int .i64 x) := hblk.cell 0
        have q1 : (wr.alloc (.cells #[.int .i64 x, .int .i64 y] 53)).cell? ⟨wr.heap.size, 1, none⟩ = some (.int .i64 y) := hblk.cell 1
        by_cases hxy : x = m
        · have hxb : ((x : Int) == (m : Int)) = true := by simp [hxy]
          rw [if_pos hxy] at hst
          have HST := Lib.hid hst
          have hsz : w2.heap.size ≤ (wr.alloc (.cells #[.int .i64 x, .int .i64 y] 53)).heap.size := by simp; omega
          have HS3 := Lib.hid hs3
          obtain ⟨W, hW⟩ : ∃ W, wr.alloc (.cells #[.int .i64 x, .int .i64 y] 53) = W := ⟨_, rfl⟩
          have HB3b := HB3.out
          rw [hW] at hb3 hs3 HB3b hsz q0 q1
          have HOW : Hid (W.ownsRow w2.heap.size 3 1 (.slice FA S.length fcap) S.length (iv (zi S))) := Lib.hid (by have := hs3; unfold OwnI at this; rw [zi_length] at this; exact this)
          have HAP : Hid (∀ (v' : Value) (w4 : World), w4.ownsRow w2.heap.size 3 1 v' (S.length + 1) (iv (zi S) ++ [.int .i64 (y : Int)]) → (W.alloc (.cells #[.int .i64 (y : Int)] 3)).grownBy w4 (Value.slice FA S.length fcap).ownBlock → OwnI w4 w2.heap.size v' (zi (succsOf ((toA l).take (k + 1)) m)) ∧ Below w2.heap.size w2 w4) := Lib.hid (fun v' w4 h1 h2 => by
            refine ⟨?_, (hb3.alloc hsz _).grown h2 (by simp; omega) (fun j hj => (World.ownsRow.lt HOW.out j hj).1)⟩
            unfold OwnI
            rw [HST.out, zi_append, List.length_append, zi_length, iv_append]; exact h1)
          have HL1 : Hid (S.length + 1 ≤ maxLen) := Lib.hid (by unfold maxLen; omega)
          have HL2 : Hid ((S.length + 1) * 8 ≤ 140737488355328) := Lib.hid (by omega)
          have HL3 : Hid (w2.heap.size ≤ (W.alloc (.cells #[.int .i64 (y : Int)] 3)).heap.size) := Lib.hid (by simp; omega)
          clear hst hS hx hy HTK hc hB hBw hxy hs hs3 hb3 HB3b hblk hsz HS3
          go_wp2_with (at_builtin; refine wpList_append_own _ rfl _ _ 33 rfl w2.heap.size 3 i0 (.int .i64 0) 1 8 Tryz.underlying33 hi hz0 hz1 hz2 rfl (by decide) _ _ _ rfl (World.ownsRow.alloc HOW.out _) ⟨W.heap.size, 0, none⟩ 1 1 [.int .i64 (y : Int)] rfl rfl (cell_one_new _ _ _) (by simp [Value.oneCell']) HL1.out HL2.out HL3.out ?_; intro v' w4 hown' hgrow _; obtain ⟨hq1, hq2⟩ := HAP.out v' w4 hown' hgrow; replace hq1 := Lib.hid hq1; replace hq2 := Lib.hid hq2; clear hown' hgrow)
          go_roundw
          case rel => exact ⟨k + 1, by go_num, by omega, hq1.out, hq2.out⟩
          case measure => simp [intOf]; omega
        · have hxb : ((x : Int) == (m : Int)) = false := by simp; omega
          rw [if_neg hxy, List.append_nil] at hst
          have HS3 : Hid (OwnI (wr.alloc (.cells #[.int .i64 x, .int .i64 y] 53)) w2.heap.size (.slice FA S.length fcap) (zi (succsOf ((toA l).take (k + 1)) m))) := Lib.hid (by rw [hst]; exact hs3)
          clear hst hS hx hy HTK hc hB hBw hxy hs hs3 hb3 hblk
          go_wp2_with fail
          go_roundw
          case rel => exact ⟨k + 1, by go_num, by omega, HS3.out, HB3.out⟩
          case measure => simp [intOf]; omega
      · obtain rfl : k = l.length := by omega
        rw [show (toA l).take l.length = toA l from List.take_of_length_le (by simp [toA])] at hs hsl2 ⊢
        have hA := right_toA HRI.out
        have hsn : ∀ x ∈ succsOf (toA l) m, x < n := fun x hx => (hA _ (mem_succsOf.1 hx)).2
        have HWA := way_ok n m _ _ l (zi (succsOf (toA l) m)) wr HRI.out hm hn hl (HR.out.keep hBw) (hs.irow (by rw [zi_length]; omega))
        rw [rootsN_zi hsn] at HWA
        replace HWA := Lib.hid HWA
        have HBW := Lib.hid hBw
        obtain ⟨kk, hkk⟩ : ∃ kk, (succsOf (toA l) m).length = kk := ⟨_, rfl⟩
        rw [hkk] at HWA ⊢
        clear hs hB hBw hA hsn hkk hsl hsl2
        obtain ⟨wo, hwo⟩ : ∃ wo : World, wo = wr := ⟨_, rfl⟩
        subst hwo
        go_wp2_with fail
        refine HWA.out.mono ?_; rintro e w3 ⟨u, q, rfl, hown, hwok, hb3⟩
        have hqn : q ≠ [] := by
          rcases hwok with ⟨_, h2⟩ | ⟨h1, _⟩
          · obtain ⟨r, h3, h4⟩ := loop_back (HLO.out.on hm)
            exact absurd h4 (h2 r h3)
          · exact h1
        obtain ⟨d, hd⟩ : ∃ d, q.dropLast.length = d := ⟨_, rfl⟩
        have hql : q.length = d + 1 := by
          rw [← hd, List.length_dropLast]
          have := List.length_pos_iff.2 hqn
          omega
        have hOK : LoopOk (toA l) n (m :: q.dropLast) := ⟨m, HLO.out, .inr ⟨hm, q, hwok, hqn, rfl⟩⟩
        obtain ⟨UA, ucap, hus⟩ := own_slice hown
        rw [zi_length, hql] at hus
        subst hus
        obtain ⟨gu, rfl, hcc0⟩ := own_rd hown 0 (by rw [zi_length]; omega)
        have hgu := (World.ownsRow.lt hown gu rfl).2
        have hcs : ∀ j u, ((zi q.dropLast).map (Value.int .i64))[j]? = some u → w3.cell? ⟨gu, j, none⟩ = some u := fun j u hj => by
          rw [List.getElem?_map] at hj
          cases e : (zi q.dropLast)[j]? with
          | none => rw [e] at hj; simp at hj
          | some z =>
            rw [e] at hj
            simp only [Option.map_some, Option.some.injEq] at hj
            have hjl := (List.getElem?_eq_some_iff.1 e).1
            rw [zi_length, hd] at hjl
            have := hown.cell j (by rw [zi_length]; omega)
            rw [this, ← hj]
            congr 2
            rw [zi_get, List.getElem?_dropLast, if_pos (by omega), ← zi_get] at e
            exact (List.getElem?_eq_some_iff.1 e).2
        have hdl : d ≤ 1000000 := by have h3 := HWL.out q hwok hqn; rw [hql] at h3; omega
        obtain ⟨E, hE⟩ : ∃ E, q.dropLast = E := ⟨_, rfl⟩
        rw [hE] at hd hOK hcs
        have HCS : Hid (∀ j u, (iv (zi E))[j]? = some u → (w3.alloc (.cells #[.int .i64 (m : Int)] 3)).cell? ((⟨gu, 0, none⟩ : Addr).add j) = some u) := Lib.hid (fun j u hj => by
          have hadd : (⟨gu, 0, none⟩ : Addr).add j = ⟨gu, j, none⟩ := by unfold Addr.add; split <;> simp_all
          rw [hadd]
          exact keep_below (below_new w3 _) (hcs j u hj))
        have HLN : Hid ((iv (zi E)).length = d * 1) := Lib.hid (by rw [iv_length, zi_length, hd]; omega)
        have HOC : Hid (∀ u ∈ iv (zi E), u.oneCell' = true) := Lib.hid (fun u hu => by
          obtain ⟨z, _, rfl⟩ := List.mem_map.1 hu
          rfl)
        have HOW : Hid ((w3.alloc (.cells #[.int .i64 (m : Int)] 3)).ownsRow w3.heap.size 3 1 (.slice (some ⟨w3.heap.size, 0, none⟩) 1 1) 1 [.int .i64 (m : Int)]) := Lib.hid (own_one w3 w3.heap.size (m : Int) (Nat.le_refl _))
        have HB3 := Lib.hid (HBW.out.trans (hb3.mono HBW.out.size))
        have HAP : Hid (∀ (v' : Value) (w4 : World), w4.ownsRow w3.heap.size 3 1 v' (1 + d) ([.int .i64 (m : Int)] ++ iv (zi E)) → (w3.alloc (.cells #[.int .i64 (m : Int)] 3)).grownBy w4 (Value.slice (some ⟨w3.heap.size, 0, none⟩) 1 1).ownBlock → LoopPost (toA l) n w (.returned v') w4) := Lib.hid (fun v' w4 h1 h2 => by
          refine LoopPost.mk v' (m :: E) rfl (OwnI.base ?_ HB3.out.size) hOK ((HB3.out.alloc HB3.out.size _).grown h2 (by have := HB3.out.size; simp; omega) (fun j hj => by exact Nat.le_trans HB3.out.size (Nat.le_of_eq (by injection hj))))
          unfold OwnI
          rw [zi_length, List.length_cons, hd, show d + 1 = 1 + d from Nat.add_comm _ _]
          exact h1)
        have HL1 : Hid (1 + d ≤ maxLen) := Lib.hid (by unfold maxLen; omega)
        have HL2 : Hid ((1 + d) * 8 ≤ 140737488355328) := Lib.hid (by omega)
        have HL3 : Hid (w3.heap.size ≤ (w3.alloc (.cells #[.int .i64 (m : Int)] 3)).heap.size) := Lib.hid (by simp)
        have x1 : IntKind.i64.wrap ((d : Int) + 1 - 1) = d := by rw [IntWalk.i64_in _ (by omega)]; omega
        have x2 : (d : Int) + 1 - 1 = d := by omega
        have x3 : IntKind.i64.wrap (d : Int) = d := IntWalk.i64_in _ (by omega)
        have x4 : (0 : Int) ≤ d := by omega
        have x5 : (d : Int) < (d : Int) + 1 := by omega
        have hcap := (own_len hown).1
        rw [zi_length, hql] at hcap
        have hw9 : d ≤ ucap := by omega
        clear hcc0 hown hwok hb3 hqn hd hql hOK hcs hE hgu hcap HWA
        go_wp2_with (at_builtin; refine wpList_append_own _ rfl _ _ 33 rfl w3.heap.size 3 i0 (.int .i64 0) 1 8 Tryz.underlying33 hi hz0 hz1 hz2 rfl (by decide) _ _ _ rfl HOW.out ⟨gu, 0, none⟩ d ucap (iv (zi E)) rfl HLN.out HCS.out HOC.out HL1.out HL2.out HL3.out ?_; intro v' w4 hown' hgrow _; have hq1 := Lib.hid (HAP.out v' w4 hown' hgrow); clear hown' hgrow)
        go_ret
        exact hq1.out
end Go.Proofs.YtmnhnighlgpjmaaGreat
