/-
  What the laws ask of the program (Room), and the walk of the laws' small from it.
-/
import Derived.Test.YtfeiapkifoakoaaSpRef2
namespace Go.Proofs.Ytfeiapkifoakoaa
set_option linter.unusedVariables false
set_option linter.unusedSimpArgs false
open Go.RowKit

theorem srow_nil0 (w : World) (B : Nat) : SRow w B (.slice none 0 0) [] := ⟨⟨fun s h => by simp at h, fun A n c h => by injection h with h1 h2 h3; subst h2; subst h3; exact ⟨Nat.le_refl _, by decide, fun _ => rfl⟩⟩, by simp, none, 0, rfl, fun h => by simp at h⟩
/-- The cells of spans. -/
def sc (l : List Sp) : List Value := l.flatMap fun s => [.int .i64 s.p, .int .i64 s.n]
theorem sc_length (l : List Sp) : (sc l).length = 2 * l.length := by
  induction l with
  | nil => rfl
  | cons x l ih => unfold sc at *; rw [List.flatMap_cons, List.length_append, ih]; simp; omega
theorem sc_at : ∀ (l : List Sp) (i : Nat), i < l.length → (sc l)[i * 2]? = some (.int .i64 (gt l i).p) ∧ (sc l)[i * 2 + 1]? = some (.int .i64 (gt l i).n)
  | [], i, h => by simp at h
  | x :: l, 0, _ => ⟨rfl, rfl⟩
  | x :: l, i + 1, h => by
    have ih := sc_at l i (by simpa using h)
    have e : sc (x :: l) = .int .i64 x.p :: .int .i64 x.n :: sc l := rfl
    rw [e, show (i + 1) * 2 = i * 2 + 1 + 1 by omega]
    exact ih
theorem srow_new (w : World) (t : TypeId) (l : List Sp) (hw : ∀ s ∈ l, s.wf) (hl : l.length ≤ 1000000) : SRow (w.alloc (.cells (sc l).toArray t)) (w.heap.size + 1) (.slice (some ⟨w.heap.size, 0, none⟩) l.length l.length) l := by
  refine ⟨⟨hw, fun A n c h => by injection h with h1 h2 h3; subst h1; subst h2; subst h3; exact ⟨Nat.le_refl _, by unfold maxLen; omega, fun h => by cases h⟩⟩, hl, _, _, rfl, fun _ => ⟨w.heap.size, 0, rfl, by omega, fun i hi => ?_⟩⟩
  have hn := heap_alloc_new w (.cells (sc l).toArray t)
  rw [cell_of_row _ _ _ _ _ _ hn, cell_of_row _ _ _ _ _ _ hn, List.getElem?_toArray, List.getElem?_toArray, Nat.zero_add]
  exact sc_at l i hi

def fitRes : Option Int → Value
  | some a => .tuple #[.int .i64 a, .bool true]
  | none => .tuple #[.int .i64 0, .bool false]
/-- The program's functions answer so, on every list of at most 100 spans. -/
structure Room : Prop where
  right : ∀ (v : Value) (l : List Sp) (w : World), l.length ≤ 100 → SRow w w.heap.size v l → Calls Try.prog 12 #[v] w fun e w' => e = .returned (.bool (decide (Go.Proofs.Ytfeiapkifoakoaa.right l))) ∧ Below w.heap.size w w'
  total : ∀ (v : Value) (l : List Sp) (w : World), l.length ≤ 100 → SRow w w.heap.size v l → Calls Try.prog 14 #[v] w fun e w' => e = .returned (.int .i64 (totalL l)) ∧ Below w.heap.size w w'
  add : ∀ (v : Value) (l : List Sp) (s : Sp) (w : World), l.length ≤ 100 → s.wf → SRow w w.heap.size v l → Calls Try.prog 8 #[v, spv s] w fun e w' => ∃ u, e = .returned u ∧ SRow w' w'.heap.size u (addL l s) ∧ Below w.heap.size w w'
  cut : ∀ (v : Value) (l : List Sp) (s : Sp) (w : World), l.length ≤ 100 → s.wf → SRow w w.heap.size v l → Calls Try.prog 10 #[v, spv s] w fun e w' => ∃ u, e = .returned u ∧ SRow w' w'.heap.size u (cutL l s) ∧ Below w.heap.size w w'
  has : ∀ (v : Value) (l : List Sp) (s : Sp) (w : World), l.length ≤ 100 → s.wf → SRow w w.heap.size v l → Calls Try.prog 16 #[v, spv s] w fun e w' => e = .returned (.bool (hasL l s)) ∧ Below w.heap.size w w'
  meets : ∀ (v : Value) (l : List Sp) (s : Sp) (w : World), l.length ≤ 100 → s.wf → SRow w w.heap.size v l → Calls Try.prog 18 #[v, spv s] w fun e w' => e = .returned (.bool (meetsL l s)) ∧ Below w.heap.size w w'
  fit : ∀ (v : Value) (l : List Sp) (size d from_ until_ : Int) (w : World), l.length ≤ 100 → SRow w w.heap.size v l → Sp.wf ⟨size, d⟩ → Sp.wf ⟨from_, until_⟩ → Calls Try.prog 5 #[v, .int .i64 size, .int .i64 d, .int .i64 from_, .int .i64 until_] w fun e w' => e = .returned (fitRes (fitL l size d from_ until_)) ∧ Below w.heap.size w w'

theorem chain {w w1 w2 : World} {B : Nat} (h : Below B w w1) (k : Below w1.heap.size w1 w2) (hB : B ≤ w.heap.size) : Below B w w2 := h.trans (k.mono (Nat.le_trans hB h.size))
theorem SRow.keep {w w' : World} {v : Value} {l : List Sp} (h : SRow w w.heap.size v l) (hb : Below w.heap.size w w') : SRow w' w'.heap.size v l := (h.below hb).mono hb.size
theorem srow_lit (w : World) (t : TypeId) (l : List Sp) (hw : ∀ s ∈ l, s.wf) (hl : l.length ≤ 1000000) : SRow (w.alloc (.cells (sc l).toArray t)) (w.alloc (.cells (sc l).toArray t)).heap.size (.slice (some ⟨w.heap.size, 0, none⟩) l.length l.length) l := by
  rw [size_new]; exact srow_new w t l hw hl

def l0 : List Sp := [⟨0, 10⟩, ⟨20, 10⟩]
def l1 : List Sp := [⟨0, 30⟩]
def l2 : List Sp := [⟨3, 7⟩, ⟨16, 24⟩]

section
variable (Q : Room)
include Q
set_option maxRecDepth 100000 in
set_option maxHeartbeats 2000000 in
theorem smallQ (w : World) : Calls Try.prog 4 #[] w fun e w' => e = .returned (.bool true) ∧ Below w.heap.size w w' := by
  have e1 : addL l0 ⟨10, 10⟩ = l1 := by decide +kernel
  have e2 : cutL l1 ⟨10, 10⟩ = l0 := by decide +kernel
  have e3 : decide (right l0) = true := by decide +kernel
  have e4 : hasL l0 ⟨5, 20⟩ = false := by decide +kernel
  have e5 : meetsL l0 ⟨5, 20⟩ = true := by decide +kernel
  have e6 : fitL l2 8 8 0 40 = some 16 := by decide +kernel
  have e7 : fitL l2 8 8 0 23 = none := by decide +kernel
  have e8 : totalL l0 = 20 := by decide +kernel
  have H1 := Lib.hid (fun v w (h : SRow w w.heap.size v l0) => Q.add v l0 ⟨10, 10⟩ w (by decide) (by unfold Sp.wf; decide) h)
  have H2 := Lib.hid (fun v w (h : SRow w w.heap.size v l1) => Q.cut v l1 ⟨10, 10⟩ w (by decide) (by unfold Sp.wf; decide) h)
  have H3 := Lib.hid (fun v w (h : SRow w w.heap.size v l0) => Q.right v l0 w (by decide) h)
  have H4 := Lib.hid (fun v w (h : SRow w w.heap.size v l0) => Q.has v l0 ⟨5, 20⟩ w (by decide) (by unfold Sp.wf; decide) h)
  have H5 := Lib.hid (fun v w (h : SRow w w.heap.size v l0) => Q.meets v l0 ⟨5, 20⟩ w (by decide) (by unfold Sp.wf; decide) h)
  have H6 := Lib.hid (fun v w (h : SRow w w.heap.size v l2) => Q.fit v l2 8 8 0 40 w (by decide) h (by unfold Sp.wf; decide) (by unfold Sp.wf; decide))
  have H7 := Lib.hid (fun v w (h : SRow w w.heap.size v l2) => Q.fit v l2 8 8 0 23 w (by decide) h (by unfold Sp.wf; decide) (by unfold Sp.wf; decide))
  have H8 := Lib.hid (fun v w (h : SRow w w.heap.size v l0) => Q.total v l0 w (by decide) h)
  have H9 := Lib.hid (fun v u w (h : SRow w w.heap.size v l1) (k : SRow w w.heap.size u l1) => sameR v u l1 l1 w h k)
  have H10 := Lib.hid (fun v u w (h : SRow w w.heap.size v l0) (k : SRow w w.heap.size u l0) => sameR v u l0 l0 w h k)
  rw [e1] at H1
  rw [e2] at H2
  rw [e3] at H3
  rw [e4] at H4
  rw [e5] at H5
  rw [e6] at H6
  rw [e7] at H7
  rw [e8] at H8
  rw [show decide (l1 = l1) = true from decide_eq_true rfl] at H9
  rw [show decide (l0 = l0) = true from decide_eq_true rfl] at H10
  unfold fitRes spv at *
  have L0 : Hid (∀ w : World, SRow (w.alloc (.cells #[.int .i64 0, .int .i64 10, .int .i64 20, .int .i64 10] 24)) (w.alloc (.cells #[.int .i64 0, .int .i64 10, .int .i64 20, .int .i64 10] 24)).heap.size (.slice (some ⟨w.heap.size, 0, none⟩) 2 2) l0) := fun w => srow_lit w 24 l0 (by unfold Sp.wf; decide) (by decide)
  have L1 : Hid (∀ w : World, SRow (w.alloc (.cells #[.int .i64 0, .int .i64 30] 24)) (w.alloc (.cells #[.int .i64 0, .int .i64 30] 24)).heap.size (.slice (some ⟨w.heap.size, 0, none⟩) 1 1) l1) := fun w => srow_lit w 24 l1 (by unfold Sp.wf; decide) (by decide)
  have L2 : Hid (∀ w : World, SRow (w.alloc (.cells #[.int .i64 3, .int .i64 7, .int .i64 16, .int .i64 24] 24)) (w.alloc (.cells #[.int .i64 3, .int .i64 7, .int .i64 16, .int .i64 24] 24)).heap.size (.slice (some ⟨w.heap.size, 0, none⟩) 2 2) l2) := fun w => srow_lit w 24 l2 (by unfold Sp.wf; decide) (by decide)
  clear e1 e2 e3 e4 e5 e6 e7 e8 Q
  go_enter Try.func4, Try.ntmps4
  go_wp2_with fail
  have r0 := L0.out w
  have b0 := below_new w (.cells #[.int .i64 0, .int .i64 10, .int .i64 20, .int .i64 10] 24)
  refine (H1.out _ _ r0).mono ?_; rintro e w1 ⟨va, rfl, ra, b1⟩
  replace r0 := r0.keep b1
  replace b1 := chain b0 b1 (Nat.le_refl _)
  clear b0
  go_wp2_with fail
  refine (H2.out _ _ ra).mono ?_; rintro e w2 ⟨vb, rfl, rb, b2⟩
  replace r0 := r0.keep b2
  replace ra := ra.keep b2
  replace b2 := chain b1 b2 (Nat.le_refl _)
  clear b1
  go_wp2_with fail
  have b3 := below_new w2 (.cells #[.int .i64 0, .int .i64 30] 24)
  refine (H9.out _ _ _ (ra.keep b3) (L1.out w2)).mono ?_; rintro e w4 ⟨rfl, b4⟩
  replace b4 := b3.trans (b4.mono b3.size)
  replace r0 := r0.keep b4
  replace rb := rb.keep b4
  replace b4 := chain b2 b4 (Nat.le_refl _)
  clear b2 b3 ra
  go_wp2_with fail
  refine (H10.out _ _ _ rb r0).mono ?_; rintro e w5 ⟨rfl, b5⟩
  replace r0 := r0.keep b5
  replace b5 := chain b4 b5 (Nat.le_refl _)
  clear b4 rb
  go_wp2_with fail
  have b6 := below_new w5 (.cells #[.int .i64 3, .int .i64 7, .int .i64 16, .int .i64 24] 24)
  refine (H6.out _ _ (L2.out w5)).mono ?_; rintro e w7 ⟨rfl, b7⟩
  replace b7 := b6.trans (b7.mono b6.size)
  replace r0 := r0.keep b7
  replace b7 := chain b5 b7 (Nat.le_refl _)
  clear b5 b6
  go_wp2_with fail
  have b8 := below_new w7 (.cells #[.int .i64 3, .int .i64 7, .int .i64 16, .int .i64 24] 24)
  refine (H7.out _ _ (L2.out w7)).mono ?_; rintro e w9 ⟨rfl, b9⟩
  replace b9 := b8.trans (b9.mono b8.size)
  replace r0 := r0.keep b9
  replace b9 := chain b7 b9 (Nat.le_refl _)
  clear b7 b8
  go_wp2_with fail
  refine (H3.out _ _ r0).mono ?_; rintro e w10 ⟨rfl, b10⟩
  replace r0 := r0.keep b10
  replace b10 := chain b9 b10 (Nat.le_refl _)
  go_wp2_with fail
  refine (H4.out _ _ r0).mono ?_; rintro e w11 ⟨rfl, b11⟩
  replace r0 := r0.keep b11
  replace b11 := chain b10 b11 (Nat.le_refl _)
  go_wp2_with fail
  refine (H5.out _ _ r0).mono ?_; rintro e w12 ⟨rfl, b12⟩
  replace r0 := r0.keep b12
  replace b12 := chain b11 b12 (Nat.le_refl _)
  go_wp2_with fail
  refine (H8.out _ _ r0).mono ?_; rintro e w13 ⟨rfl, b13⟩
  replace b13 := chain b12 b13 (Nat.le_refl _)
  go_wp2_with fail
  go_ret
  exact ⟨rfl, b13⟩
end
end Go.Proofs.Ytfeiapkifoakoaa
