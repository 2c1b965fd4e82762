/-
  The reference's comparisons, and what the laws look up.
  The reference's SameLists; the laws' few, in and arc.
  Small graphs: what the functions answer there.
  The laws' small.
-/
import Derived.Test.YtmnhnighlgpjmaaGreatReachP
import Derived.Test.YtmnhnighlgpjmaaGreatNestA
import Derived.Deep.QuietTactic
import Derived.BigQuiet
import Derived.Test.YtmnhnighlgpjmaaGreatLoop
namespace Go.Proofs.YtmnhnighlgpjmaaGreat
set_option linter.unusedVariables false
set_option linter.unusedSimpArgs false
open Go.RowKit

def lessB : List Int → List Int → Bool
  | x :: a, y :: b => if x = y then lessB a b else decide (x < y)
  | [], _ :: _ => true
  | _, [] => false
def sameB (a b : List Int) : Bool := !lessB a b && !lessB b a
theorem sameB_iff : ∀ (a b : List Int), sameB a b = true ↔ a = b
  | [], [] => by simp [sameB, lessB]
  | [], y :: b => by simp [sameB, lessB]
  | x :: a, [] => by simp [sameB, lessB]
  | x :: a, y :: b => by
    have ih := sameB_iff a b
    unfold sameB at ih ⊢
    by_cases h : x = y
    · subst h; simp only [lessB, if_true]; rw [ih]; simp
    · simp only [lessB, if_neg h, if_neg (fun e => h (Eq.symm e))]
      simp
      omega
theorem lessB_drop {a b : List Int} {k : Nat} (ha : k < a.length) (hb : k < b.length) : lessB (a.drop k) (b.drop k) = if a[k] = b[k] then lessB (a.drop (k + 1)) (b.drop (k + 1)) else decide (a[k] < b[k]) := by
  rw [List.drop_eq_getElem_cons ha, List.drop_eq_getElem_cons hb]; rfl
theorem lessB_end {a b : List Int} {k : Nat} (h : k = a.length ∨ k = b.length) (ha : k ≤ a.length) (hb : k ≤ b.length) : lessB (a.drop k) (b.drop k) = decide (a.length < b.length) := by
  rcases h with h | h
  · subst h
    rw [List.drop_length]
    by_cases e : a.length < b.length
    · rw [List.drop_eq_getElem_cons e]; simp [lessB, e]
    · rw [List.drop_eq_nil_of_le (by omega)]; simp [lessB, e]
  · subst h
    rw [List.drop_length]
    have : ¬ a.length < b.length := by omega
    cases hd : a.drop b.length <;> simp [lessB, this]
theorem sameB_eq (a b : List Int) : sameB a b = decide (a = b) := by
  rw [Bool.eq_iff_iff, sameB_iff, decide_eq_true_iff]
theorem below_drewN2 {B : Nat} {w wl : World} (h : Below B w wl) (q : Nat) : Below B w (wl.drewN q) := h.trans ⟨rfl, rfl, rfl, Nat.le_refl _, fun _ _ => rfl⟩
def QPost (b : Bool) (w : World) (e : Ending) (w' : World) : Prop := e = .returned (.bool b) ∧ ∃ q, w' = w.drewN q
theorem QPost.mk {b c : Bool} {w : World} {e : Ending} (q : Nat) (h1 : e = .returned (.bool c)) (h2 : b = c) : QPost b w e (w.drewN q) := ⟨by rw [h2]; exact h1, q, rfl⟩
def BPost (b : Bool) (w : World) (e : Ending) (w' : World) : Prop := e = .returned (.bool b) ∧ Below w.heap.size w w'
theorem QPost.below {b : Bool} {w w' : World} {e : Ending} (h : QPost b w e w') : BPost b w e w' := by
  obtain ⟨h1, q, rfl⟩ := h
  exact ⟨h1, below_drewN2 (Below.refl _ _) q⟩
def LsRel (a b : List Int) (w : World) (i : Value) (wl : World) : Prop := ∃ k : Nat, i = .int .i64 k ∧ k ≤ a.length ∧ k ≤ b.length ∧ lessB a b = lessB (a.drop k) (b.drop k) ∧ ∃ q, wl = w.drewN q
theorem IRow.drewN {w : World} {B : Nat} {v : Value} {l : List Int} (h : IRow w B v l) (q : Nat) : IRow (w.drewN q) B v l := h
end Go.Proofs.YtmnhnighlgpjmaaGreat

namespace Go.Proofs.YtmnhnighlgpjmaaGreat
set_option linter.unusedVariables false
set_option linter.unusedSimpArgs false
open Go.RowKit

def SlRel (L M : List (List Int)) (w : World) (i : Value) (wl : World) : Prop := ∃ k : Nat, i = .int .i64 k ∧ k ≤ L.length ∧ (∀ j, j < k → L[j]? = M[j]?) ∧ ∃ q, wl = w.drewN q
def inB (l : List Int) (z : Int) : Bool := l.contains z
theorem inB_iff {l : List Int} {z : Int} : inB l z = true ↔ z ∈ l := by unfold inB; rw [List.contains_iff_mem]
def arcB (l : List Sp) (v z : Int) : Bool := l.any fun s => s.p == v && s.n == z
theorem arcB_iff {l : List Sp} {v z : Int} : arcB l v z = true ↔ ∃ i, i < l.length ∧ (gt l i).p = v ∧ (gt l i).n = z := by
  unfold arcB
  rw [List.any_eq_true]
  constructor
  · rintro ⟨s, hs, h⟩
    obtain ⟨i, hi, rfl⟩ := List.getElem_of_mem hs
    refine ⟨i, hi, ?_⟩
    rw [gt_get l i hi]
    simpa using h
  · rintro ⟨i, hi, h⟩
    rw [gt_get l i hi] at h
    exact ⟨l[i], List.getElem_mem hi, by simpa using h⟩
def fewB (n : Int) (k m : Nat) : Bool := decide (n ≤ 14) && decide (k ≤ 60) && decide (m ≤ 20)
theorem fewB_iff {n : Int} {k m : Nat} : fewB n k m = true ↔ n ≤ 14 ∧ k ≤ 60 ∧ m ≤ 20 := by simp [fewB, and_assoc]
end Go.Proofs.YtmnhnighlgpjmaaGreat

namespace Go.Proofs.YtmnhnighlgpjmaaGreat
set_option linter.unusedVariables false
set_option linter.unusedSimpArgs false

def onLoopB (A : Arcs) (n v : Nat) : Bool := A.contains (v, v) || (List.range n).any fun w => w != v && eqvB A v w
theorem onLoopB_iff {A : Arcs} {n v : Nat} : onLoopB A n v = true ↔ onLoop A n v := by
  unfold onLoopB onLoop
  rw [Bool.or_eq_true, List.contains_iff_mem, List.any_eq_true]
  constructor
  · rintro (h | ⟨w, h1, h2⟩)
    · exact .inl h
    · rw [Bool.and_eq_true, bne_iff_ne, eqvB_iff] at h2
      exact .inr ⟨w, List.mem_range.1 h1, h2⟩
  · rintro (h | ⟨w, h1, h2, h3⟩)
    · exact .inl h
    · exact .inr ⟨w, List.mem_range.2 h1, by rw [Bool.and_eq_true, bne_iff_ne, eqvB_iff]; exact ⟨h2, h3⟩⟩
def leastB (A : Arcs) (n m : Nat) : Bool := decide (m ≤ n) && (m == n || onLoopB A n m) && (List.range n).all fun v => !onLoopB A n v || decide (m ≤ v)
theorem leastB_ok {A : Arcs} {n m : Nat} (h : leastB A n m = true) : LeastOn A n m := by
  unfold leastB at h
  rw [Bool.and_eq_true, Bool.and_eq_true, Bool.or_eq_true, List.all_eq_true, decide_eq_true_iff, beq_iff_eq, onLoopB_iff] at h
  obtain ⟨⟨h1, h2⟩, h3⟩ := h
  refine ⟨h1, fun hm => h2.resolve_left (by omega), fun v hv ho => ?_⟩
  have := h3 v (List.mem_range.2 hv)
  rw [onLoopB_iff.2 ho] at this
  simpa using this
def AL : Arcs := [(0, 1), (1, 0), (1, 2), (3, 2)]
def AM : Arcs := [(0, 1), (0, 2), (1, 3), (2, 3)]
def AK : Arcs := [(2, 1), (1, 2)]
theorem parts_AL : partsOf AL 4 = [[2], [0, 1], [3]] := by decide +kernel
theorem reach_AL : reachOf AL 4 [0] = [0, 1, 2] := by decide +kernel
theorem way_AM {p : List Nat} (h : WayOk AM [0] 3 p) : p = [0, 1, 3] := by
  refine h.unique (.inr ⟨by simp, ?_, ⟨0, by simp, rfl⟩, rfl, ?_⟩)
  · intro i x y hx hy
    match i with
    | 0 => simp at hx hy; subst hx; subst hy; decide
    | 1 => simp at hx hy; subst hx; subst hy; decide
    | 2 => simp at hy
    | k + 3 => simp at hy
  · rintro m h1 h2 ⟨r, hr, h3⟩ h4
    simp only [List.mem_singleton] at hr
    subst hr
    match m, h1 with
    | [a], _ => simp at h3; subst h3; simp at h4
    | [a, b], _ =>
      simp at h3; subst h3
      have h5 : b = 3 := by simpa [lst] using h4
      subst h5
      exact absurd (h2 0 0 3 rfl rfl) (by decide)
    | [a, b, c], _ =>
      simp at h3; subst h3
      have h5 : c = 3 := by simpa [lst] using h4
      subst h5
      have h6 := h2 0 0 b rfl rfl
      intro hs
      have h7 : b = 1 ∨ b = 2 := by
        unfold AM at h6
        simp at h6
        exact h6
      rcases h7 with rfl | rfl <;> revert hs <;> simp [sl, lexLt]
    | a :: b :: c :: d :: t, _ => intro hs; rcases hs with hs | ⟨hs, _⟩ <;> simp at hs <;> omega
theorem loop_AK {p : List Nat} (h : LoopOk AK 3 p) : p = [1, 2] := by
  have h1 : LeastOn AK 3 1 := leastB_ok (by decide +kernel)
  have hs : succsOf AK 1 = [2] := by decide +kernel
  have h2 : WayOk AK [2] 1 [2, 1] := by
    refine .inr ⟨by simp, ?_, ⟨2, by simp, rfl⟩, rfl, ?_⟩
    · intro i x y hx hy
      match i with
      | 0 => simp at hx hy; subst hx; subst hy; decide
      | 1 => simp at hy
      | k + 2 => simp at hy
    · rintro m h1 h2 ⟨r, hr, h3⟩ h4
      simp only [List.mem_singleton] at hr
      subst hr
      match m, h1 with
      | [a], _ => simp at h3; subst h3; simp at h4
      | [a, b], _ =>
        simp at h3; subst h3
        have h5 : b = 1 := by simpa [lst] using h4
        subst h5
        simp [sl, lexLt]
      | a :: b :: c :: t, _ => intro hs; rcases hs with hs | ⟨hs, _⟩ <;> simp at hs <;> omega
  exact h.unique ⟨1, h1, .inr ⟨by omega, [2, 1], by rw [hs]; exact h2, by simp, rfl⟩⟩
theorem loop_AM {p : List Nat} (h : LoopOk AM 4 p) : p = [] :=
  h.unique ⟨4, leastB_ok (by decide +kernel), .inl ⟨rfl, rfl⟩⟩
end Go.Proofs.YtmnhnighlgpjmaaGreat

namespace Go.Proofs.YtmnhnighlgpjmaaGreat
set_option linter.unusedVariables false
set_option linter.unusedSimpArgs false
open Go.RowKit

def lL : List Sp := [⟨0, 1⟩, ⟨1, 0⟩, ⟨1, 2⟩, ⟨3, 2⟩]
def lM : List Sp := [⟨0, 1⟩, ⟨0, 2⟩, ⟨1, 3⟩, ⟨2, 3⟩]
def lK : List Sp := [⟨2, 1⟩, ⟨1, 2⟩]
theorem own_lit (w : World) (base : Nat) (l : List Int) (cs : Array Value) (n : Nat) (hcs : cs.toList = iv l) (hn : n = l.length) (hb : base ≤ w.heap.size) (hm : n ≤ 1000) : OwnI (w.alloc (.cells cs 3)) base (.slice (some ⟨w.heap.size, 0, none⟩) n n) l := by
  subst hn
  have hsz : cs.size = l.length := by rw [← Array.length_toList, hcs, iv_length]
  refine ⟨by rw [iv_length, Nat.mul_one], .inr ⟨w.heap.size, l.length, cs, rfl, hb, Blk.new w _ _, Nat.le_refl _, by unfold maxLen; omega, by rw [hsz]; omega, ?_⟩⟩
  rw [hcs, Nat.mul_one, ← iv_length l, List.take_length]
theorem srow_lit (w : World) (l : List Sp) (cs : Array Value) (n : Nat) (hn : n = l.length) (hm : n ≤ 1000) (hw : ∀ s ∈ l, s.wf) (hcs : ∀ i, i < l.length → cs[i * 2]? = some (.int .i64 (gt l i).p) ∧ cs[i * 2 + 1]? = some (.int .i64 (gt l i).n)) :
    SRow (w.alloc (.cells cs 53)) (w.alloc (.cells cs 53)).heap.size (.slice (some ⟨w.heap.size, 0, none⟩) n n) l := by
  subst hn
  refine ⟨⟨hw, fun A n c h => by injection h with h1 h2 h3; subst h2; subst h3; exact ⟨Nat.le_refl _, by unfold maxLen; omega, fun h => by rw [h] at h1; cases h1⟩⟩, by omega, _, _, rfl, fun _ => ⟨w.heap.size, 0, rfl, by simp, fun i hi => ?_⟩⟩
  have hb := Blk.new w 53 cs
  obtain ⟨h1, h2⟩ := hcs i hi
  exact ⟨by rw [Nat.zero_add, hb.cell, h1], by rw [Nat.zero_add, hb.cell, h2]⟩
theorem lists_lit (w : World) : LRow ((((w.alloc (.cells #[.int .i64 2] 3)).alloc (.cells #[.int .i64 0, .int .i64 1] 3)).alloc (.cells #[.int .i64 3] 3)).alloc (.cells #[.slice (some ⟨w.heap.size, 0, none⟩) 1 1, .slice (some ⟨w.heap.size + 1, 0, none⟩) 2 2, .slice (some ⟨w.heap.size + 1 + 1, 0, none⟩) 1 1] 33)) (w.heap.size + 1 + 1 + 1 + 1)
    (.slice (some ⟨w.heap.size + 1 + 1 + 1, 0, none⟩) 3 3) [[2], [0, 1], [3]] := by
  obtain ⟨W1, h1⟩ : ∃ W1, w.alloc (.cells #[.int .i64 2] 3) = W1 := ⟨_, rfl⟩
  have s1 : W1.heap.size = w.heap.size + 1 := by rw [← h1]; simp
  have o1 := own_lit w w.heap.size [2] #[.int .i64 2] 1 rfl rfl (Nat.le_refl _) (by omega)
  rw [h1] at o1 ⊢
  obtain ⟨W2, h2⟩ : ∃ W2, W1.alloc (.cells #[.int .i64 0, .int .i64 1] 3) = W2 := ⟨_, rfl⟩
  have s2 : W2.heap.size = w.heap.size + 1 + 1 := by rw [← h2, ← s1]; simp
  have o2 := own_lit W1 w.heap.size [0, 1] #[.int .i64 0, .int .i64 1] 2 rfl rfl (by omega) (by omega)
  have o1 := o1.below (below_new W1 (.cells #[.int .i64 0, .int .i64 1] 3))
  rw [h2] at o1 o2 ⊢
  obtain ⟨W3, h3⟩ : ∃ W3, W2.alloc (.cells #[.int .i64 3] 3) = W3 := ⟨_, rfl⟩
  have s3 : W3.heap.size = w.heap.size + 1 + 1 + 1 := by rw [← h3, ← s2]; simp
  have o3 := own_lit W2 w.heap.size [3] #[.int .i64 3] 1 rfl rfl (by omega) (by omega)
  have o1 := o1.below (below_new W2 (.cells #[.int .i64 3] 3))
  have o2 := o2.below (below_new W2 (.cells #[.int .i64 3] 3))
  rw [h3] at o1 o2 o3 ⊢
  rw [s1] at o2
  rw [s2] at o3
  obtain ⟨cs, hcs⟩ : ∃ cs : Array Value, #[.slice (some ⟨w.heap.size, 0, none⟩) 1 1, .slice (some ⟨w.heap.size + 1, 0, none⟩) 2 2, .slice (some ⟨w.heap.size + 1 + 1, 0, none⟩) 1 1] = cs := ⟨_, rfl⟩
  have hb := Blk.new W3 33 cs
  have kb := below_new W3 (.cells cs 33)
  have i1 := (o1.irow (by simp)).below kb
  have i2 := (o2.irow (by simp)).below kb
  have i3 := (o3.irow (by simp)).below kb
  rw [hcs, ← s3]
  have s4 : (W3.alloc (.cells cs 33)).heap.size = W3.heap.size + 1 := by simp
  refine ⟨⟨by simp, by simp⟩, _, 3, rfl, fun _ => ⟨W3.heap.size, 0, rfl, by omega, fun i hi => ?_⟩⟩
  have hi3 : i = 0 ∨ i = 1 ∨ i = 2 := by simp at hi; omega
  have q : ∀ k, (W3.alloc (.cells cs 33)).cell? ⟨W3.heap.size, 0 + k, none⟩ = cs[k]? := fun k => by rw [Nat.zero_add]; exact hb.cell k
  rcases hi3 with rfl | rfl | rfl
  · exact ⟨_, (q 0).trans (by rw [← hcs]; rfl), i1.mono (by omega)⟩
  · exact ⟨_, (q 1).trans (by rw [← hcs]; rfl), i2.mono (by omega)⟩
  · exact ⟨_, (q 2).trans (by rw [← hcs]; rfl), i3.mono (by omega)⟩
theorem lits_below (w : World) (a b c d : Obj) : Below w.heap.size w ((((w.alloc a).alloc b).alloc c).alloc d) :=
  ((((below_new w a).trans ((below_new (w.alloc a) b).mono (by simp))).trans ((below_new ((w.alloc a).alloc b) c).mono (by simp; omega))).trans ((below_new (((w.alloc a).alloc b).alloc c) d).mono (by simp; omega)))
theorem lit (w : World) (l : List Int) (cs : Array Value) (n : Nat) (hcs : cs.toList = iv l) (hn : n = l.length) (hm : n ≤ 1000) : IRow (w.alloc (.cells cs 3)) (w.heap.size + 1) (.slice (some ⟨w.heap.size, 0, none⟩) n n) l := by
  have := (own_lit w w.heap.size l cs n hcs hn (Nat.le_refl _) hm).irow (by omega)
  have e : (w.alloc (.cells cs 3)).heap.size = w.heap.size + 1 := by simp
  rw [e] at this
  exact this
theorem right_lL : rightB (4 : Nat) lL = true := by decide
theorem right_lM : rightB (4 : Nat) lM = true := by decide
theorem right_lK : rightB (3 : Nat) lK = true := by decide
theorem right_no : rightB (2 : Nat) lL = false := by decide
theorem toA_L : toA lL = AL := rfl
theorem toA_M : toA lM = AM := rfl
theorem toA_K : toA lK = AK := rfl
end Go.Proofs.YtmnhnighlgpjmaaGreat
