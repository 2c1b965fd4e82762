/-
  Contracts of the library's functions on slices of ints, on rows that the call owns.
-/
import Derived.Test.YtmnhnighlgpjmaaGreatNestA
import Derived.Test.YtmnhnighlgpjmaaGreatShelf
import Derived.Sort.Grow
namespace Go.Proofs.YtmnhnighlgpjmaaGreat
set_option linter.unusedVariables false
set_option linter.unusedSimpArgs false
open Go.RowKit Go.Sort Go.Proofs

theorem holds_own {w : World} {base g cap n : Nat} {l : List Int} (h : OwnI w base (.slice (some ⟨g, 0, none⟩) n cap) l) : Holds (Value.int .i64) w g 0 l.toArray := by
  intro j hj
  have hj' : j < l.length := by simpa using hj
  refine ⟨?_, ?_⟩
  · rw [Nat.zero_add, h.cell j hj']
    simp [hj']
  · have hn : n = l.length := by
      rcases h.form with ⟨hv, _⟩ | ⟨_, _, _, hv, _⟩
      · cases hv
      · injection hv
    subst hn
    exact own_free h _
theorem take_put (cur : Array Value) (ts : List Int) (h : ts.length ≤ cur.size) : (putCells (Value.int .i64) 0 ts.toArray cur).toList.take ts.length = iv ts := by
  apply List.ext_getElem?
  intro j
  by_cases hj : j < ts.length
  · rw [List.getElem?_take_of_lt hj, Array.getElem?_toList]
    simp [putCells, iv, hj, show j < cur.size by omega]
  · rw [List.getElem?_take_eq_none (by omega), List.getElem?_eq_none (by simp [iv]; omega)]
theorem heap_put {w : World} {g n : Nat} {cur : Array Value} {e : TypeId} {fr : Nat × Nat} (d : Array Int) (hb : w.heap[g]? = some (.cells cur e fr)) :
    (putRow (Value.int .i64) (Sort.ahead w n) g 0 d).heap[g]? = some (.cells (putCells (Value.int .i64) 0 d cur) e fr) := by
  have hg : g < w.heap.size := (Array.getElem?_eq_some_iff.1 hb).1
  simp [putRow, mapBlock, Sort.ahead, Array.getElem?_modify, hb, onCells]
theorem grown_put {w : World} {g n : Nat} (d : Array Int) : w.grownBy (putRow (Value.int .i64) (Sort.ahead w n) g 0 d) (some g) := by
  refine ⟨rfl, rfl, rfl, by simp [putRow, mapBlock, Sort.ahead], fun k hk hne => ?_⟩
  have : g ≠ k := fun e => hne (by rw [e])
  simp [putRow, mapBlock, Sort.ahead, Array.getElem?_modify, this]
theorem own_put {w : World} {base g cap n m : Nat} {l ts : List Int} (h : OwnI w base (.slice (some ⟨g, 0, none⟩) n cap) l) (hl : ts.length = l.length) : OwnI (putRow (Value.int .i64) (Sort.ahead w m) g 0 ts.toArray) base (.slice (some ⟨g, 0, none⟩) n cap) ts := by
  rcases h.form with ⟨hv, _⟩ | ⟨g2, cap2, cur, hv, h2, h3, h4, h5, h6, h7⟩
  · cases hv
  · injection hv with e1 e2 e3
    injection e1 with e1
    injection e1 with e1 _ _
    subst e1; subst e3; subst e2
    unfold OwnI
    rw [hl]
    refine ⟨by rw [iv_length]; omega, .inr ⟨g, cap, _, rfl, h2, heap_put _ h3, h4, h5, by simp [putCells, h6], ?_⟩⟩
    rw [Nat.mul_one, ← hl]
    exact take_put cur ts (by omega)
theorem own_grow {w : World} {base : Nat} {v : Value} {l : List Int} (h : OwnI w base v l) (os : Array Obj) : OwnI (grow w os) base v l ∧ w.grownBy (grow w os) none := by
  have hg : w.grownBy (grow w os) none := ⟨rfl, rfl, rfl, by simp, fun k hk _ => heap_grow_old _ _ hk⟩
  exact ⟨h.kept hg (by cases v.ownBlock <;> simp), hg⟩
/-- slices.Sort. -/
theorem sortP {v : Value} {l : List Int} {w : World} {base : Nat} (h : OwnI w base v l) (hl : l.length ≤ 1000000) :
    Calls Tryz.prog 63 #[v] w fun e w' => e = .returned (.tuple #[]) ∧ OwnI w' base v (l.mergeSort fun x y => decide (x ≤ y)) ∧ w.grownBy w' v.ownBlock := by
  rcases h.form with ⟨rfl, rfl⟩ | ⟨g, cap, cur, rfl, h2, h3, h4, h5, h6, h7⟩
  · refine (Tryz.slices_Sort_int_none none 0 w).mono ?_
    rintro e w' ⟨rfl, rfl⟩
    exact ⟨rfl, by simpa using h, ⟨rfl, rfl, rfl, Nat.le_refl _, fun _ _ _ => rfl⟩⟩
  · refine (Tryz.slices_Sort_int g 0 cap l w (holds_own h) (Array.getElem?_eq_some_iff.1 h3).1 (by omega)).mono ?_
    rintro e w' ⟨rfl, n, os, rfl⟩
    have h8 := own_put (m := n) h (ts := l.mergeSort fun x y => decide (x ≤ y)) (by simp)
    obtain ⟨h9, h10⟩ := own_grow h8 os
    refine ⟨rfl, h9, ?_⟩
    exact (grown_put _).trans ⟨h10.os, h10.tape, h10.output, h10.size, fun k hk _ => h10.block k hk (by simp)⟩
/-- slices.Reverse. -/
theorem reverseP {v : Value} {l : List Int} {w : World} {base : Nat} (h : OwnI w base v l) (hl : l.length ≤ 1000000) :
    Calls Tryz.prog 51 #[v] w fun e w' => e = .returned (.tuple #[]) ∧ OwnI w' base v l.reverse ∧ w.grownBy w' v.ownBlock := by
  rcases h.form with ⟨rfl, rfl⟩ | ⟨g, cap, cur, rfl, h2, h3, h4, h5, h6, h7⟩
  · refine (Tryz.slices_Reverse_int_empty none 0 w).mono ?_
    rintro e w' ⟨rfl, rfl⟩
    exact ⟨rfl, by simpa using h, ⟨rfl, rfl, rfl, Nat.le_refl _, fun _ _ _ => rfl⟩⟩
  · refine (Tryz.slices_Reverse_int g 0 cap l w (holds_own h) (by omega)).mono ?_
    rintro e w' ⟨rfl, n, rfl⟩
    exact ⟨rfl, own_put h (by simp), grown_put _⟩
theorem minOf_mem : ∀ (l : List Int), l ≠ [] → (∀ x ∈ l, Lib.minOf l ≤ x) ∧ Lib.minOf l ∈ l := by
  intro l hl
  cases l with
  | nil => exact absurd rfl hl
  | cons a l =>
    have key : ∀ (l : List Int) (a : Int), (∀ x ∈ l, l.foldl min a ≤ x) ∧ l.foldl min a ≤ a ∧ (l.foldl min a = a ∨ l.foldl min a ∈ l) := by
      intro l
      induction l with
      | nil => intro a; simp
      | cons b l ih =>
        intro a
        obtain ⟨h1, h2, h3⟩ := ih (min a b)
        simp only [List.foldl_cons]
        refine ⟨fun x hx => ?_, by omega, ?_⟩
        · rcases List.mem_cons.1 hx with rfl | h4
          · omega
          · exact h1 x h4
        · rcases h3 with h4 | h4
          · rw [h4]
            by_cases h5 : a ≤ b
            · left; omega
            · right; simp; left; omega
          · right; simp [h4]
    have h := key l a
    have e : Lib.minOf (a :: l) = l.foldl min a := by simp [Lib.minOf]
    rw [e]
    refine ⟨fun x hx => ?_, ?_⟩
    · rcases List.mem_cons.1 hx with rfl | h4
      · exact h.2.1
      · exact h.1 x h4
    · rcases h.2.2 with h4 | h4
      · rw [h4]; simp
      · simp [h4]
/-- slices.Min. -/
theorem minP {v : Value} {l : List Int} {w : World} {B : Nat} (h : IRow w B v l) (h0 : l ≠ []) :
    Calls Tryz.prog 82 #[v] w fun e w' => e = .returned (.int .i64 (Lib.minOf l)) ∧ w = w' := by
  obtain ⟨hl, A, cap, rfl, h1, h2, h3, hA⟩ := h
  have hp : 0 < l.length := List.length_pos_iff.2 h0
  obtain ⟨b, off, rfl, hb, hc⟩ := hA hp
  refine (Tryz.slices_Min_int b off l.length cap l w hp (Nat.le_refl _) (by omega) (fun j hj => ?_)).mono ?_
  · rw [hc j hj, List.getD_eq_getElem?_getD, List.getElem?_eq_getElem hj]; rfl
  · rintro e w' ⟨rfl, rfl⟩
    rw [List.take_length]
    exact ⟨rfl, rfl⟩
end Go.Proofs.YtmnhnighlgpjmaaGreat
