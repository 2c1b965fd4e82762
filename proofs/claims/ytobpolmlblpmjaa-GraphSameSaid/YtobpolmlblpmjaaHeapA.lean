/-
  The methods of the program's heads.
-/
import Derived.Test.YtobpolmlblpmjaaHeapM
import Derived.Test.YtobpolmlblpmjaaLeavA
import Derived.RegionTactic
namespace Go.Proofs.Ytobpolmlblpmjaa
set_option linter.unusedVariables false
set_option linter.unusedSimpArgs false
open Go.RowKit

/-- The memory of a heap: its box and its row. -/
structure HeapAt (f : Nat) (w : World) (base hb : Nat) (sl : Value) (h : List Nat) : Prop where
  hbb : base ≤ hb
  bx : Boxed w hb 49 sl
  own : OwnI w base sl (zi h)
  nf : f < w.heap.size ∧ f ≠ hb ∧ sl.ownBlock ≠ some f
/-- What a heap's operation leaves as it was. -/
structure HKeep (f base : Nat) (w w' : World) : Prop where
  below : Below base w w'
  fr : f < w.heap.size → f < w'.heap.size ∧ w'.heap[f]? = w.heap[f]?
  rows : ∀ (k : Nat) (cs : Array Value), w.heap[k]? = some (.cells cs 23 (0, 0)) → w'.heap[k]? = some (.cells cs 23 (0, 0))
theorem HKeep.refl {f : Nat} (base : Nat) (w : World) : HKeep f base w w := ⟨Below.refl _ _, fun h => ⟨h, rfl⟩, fun _ _ h => h⟩
theorem HKeep.trans {f base : Nat} {a b c : World} (h : HKeep f base a b) (k : HKeep f base b c) : HKeep f base a c := ⟨h.below.trans k.below, fun hf => ⟨(k.fr (h.fr hf).1).1, ((k.fr (h.fr hf).1).2).trans (h.fr hf).2⟩, fun i cs hi => k.rows i cs (h.rows i cs hi)⟩
theorem HKeep.drewN {f : Nat} (base : Nat) (w : World) (q : Nat) : HKeep f base w (w.drewN q) := ⟨⟨rfl, rfl, rfl, Nat.le_refl _, fun _ _ => rfl⟩, fun h => ⟨h, rfl⟩, fun _ _ h => h⟩
theorem HeapAt.drewN {f : Nat} {w : World} {base hb : Nat} {sl : Value} {h : List Nat} (H : HeapAt f w base hb sl h) (q : Nat) : HeapAt f (w.drewN q) base hb sl h := ⟨H.hbb, H.bx, H.own, H.nf⟩
theorem HKeep.row0 {f base : Nat} {w w' : World} {v : Value} {l : List Int} (ho : OwnI w base v l) (hne : v.ownBlock ≠ some f) (hb : base ≤ w.heap.size) (hg : w.grownBy w' v.ownBlock) : HKeep f base w w' :=
  ⟨(Below.refl base w).grown hg hb (fun k hk => (World.ownsRow.lt ho k hk).1), fun hf => ⟨Nat.lt_of_lt_of_le hf hg.size, hg.block f hf (fun e => hne e.symm)⟩, fun k cs hk => (hg.block k (Array.getElem?_eq_some_iff.1 hk).1 (not_blk ho (show Blk w k 23 cs from hk) (by decide))).trans hk⟩
theorem HKeep.row {f base hb : Nat} {w w' : World} {v : Value} {h : List Nat} (H : HeapAt f w base hb v h) (hb : base ≤ w.heap.size) (hg : w.grownBy w' v.ownBlock) : HKeep f base w w' := HKeep.row0 H.own H.nf.2.2 hb hg
theorem HKeep.box {f base hb : Nat} {w : World} {u : Value} (v : Value) (hx : Boxed w hb 49 u) (hb0 : base ≤ hb) (hne : f ≠ hb) : HKeep f base w (w.setCell ⟨hb, 0, none⟩ v) := by
  have hg := grown_set w hb 0 v
  refine ⟨(Below.refl base w).setCell (p := ⟨hb, 0, none⟩) hb0 v, fun hf => ⟨Nat.lt_of_lt_of_le hf hg.size, hg.block f hf (fun e => hne (by injection e))⟩, fun k cs hk => (hg.block k (Array.getElem?_eq_some_iff.1 hk).1 (fun e => ?_)).trans hk⟩
  injection e with e
  subst e
  have h1 : w.heap[k]? = some (.cells #[u] 49 (0, 0)) := hx
  rw [h1] at hk
  injection hk with hk
  injection hk with _ h2
  exact absurd h2 (by decide)
theorem hbox_not_own {w : World} {b base : Nat} {v u : Value} {l : List Int} (h : Boxed w b 49 u) (ho : OwnI w base v l) : some b ≠ v.ownBlock := not_blk ho (show Blk w b 49 #[u] from h) (by decide)
/-- The row is turned in place. -/
theorem HeapAt.row {w w' : World} {f base hb : Nat} {sl : Value} {h h2 : List Nat} (H : HeapAt f w base hb sl h) (hg : w.grownBy w' sl.ownBlock) (ho : OwnI w' base sl (zi h2)) : HeapAt f w' base hb sl h2 := ⟨H.hbb, H.bx.kept hg (hbox_not_own H.bx H.own), ho, ⟨Nat.lt_of_lt_of_le H.nf.1 hg.size, H.nf.2⟩⟩

set_option maxHeartbeats 2000000 in
theorem lenP (A : Option Addr) (n cap : Nat) (w : World) : Calls Try.prog 99 #[.slice A n cap] w fun e w' => e = .returned (.int .i64 n) ∧ w = w' := by
  go_enter Try.func99, Try.ntmps99
  go_wp2
  go_ret
  exact ⟨rfl, rfl⟩
set_option maxHeartbeats 2000000 in
theorem lessP {w : World} {base n cap : Nat} {A : Option Addr} {h : List Nat} (ho : OwnI w base (.slice A n cap) (zi h)) (i j : Nat) (hi : i < h.length) (hj : j < h.length) (hl : h.length ≤ 100000) :
    Calls Try.prog 100 #[.slice A n cap, .int .i64 i, .int .i64 j] w fun e w' => e = .returned (.bool (decide (h.getD i 0 < h.getD j 0))) ∧ ∃ q, w' = w.drewN q := by
  have hn : n = h.length := by
    obtain ⟨A2, c2, e⟩ := own_slice ho
    injection e with _ e _; rw [zi_length] at e; exact e
  obtain ⟨g, rfl, c1⟩ := own_rd ho i (by rw [zi_length]; exact hi)
  obtain ⟨g2, e2, c2⟩ := own_rd ho j (by rw [zi_length]; exact hj)
  injection e2 with e2
  injection e2 with e2 _ _
  subst e2
  have z1 : (zi h)[i]'(by rw [zi_length]; exact hi) = ((h.getD i 0 : Nat) : Int) := by simp [zi, List.getD_eq_getElem?_getD, hi]
  have z2 : (zi h)[j]'(by rw [zi_length]; exact hj) = ((h.getD j 0 : Nat) : Int) := by simp [zi, List.getD_eq_getElem?_getD, hj]
  rw [z1] at c1
  rw [z2] at c2
  obtain ⟨a, ha⟩ : ∃ a, h.getD i 0 = a := ⟨_, rfl⟩
  obtain ⟨b, hb⟩ : ∃ b, h.getD j 0 = b := ⟨_, rfl⟩
  rw [ha] at c1 ⊢
  rw [hb] at c2 ⊢
  have hi0 : (0 : Int) ≤ i := by omega
  have hj0 : (0 : Int) ≤ j := by omega
  have hin : (i : Int) < n := by omega
  have hjn : (j : Int) < n := by omega
  clear ha hb z1 z2 ho hn hi hj
  go_enter Try.func100, Try.ntmps100
  go_wp2_with fail
  go_quiet (fail)
  go_wp2_with fail
  go_ret
  exact ⟨rfl, _, rfl⟩
set_option maxHeartbeats 4000000 in
theorem swapP {w : World} {base cap n : Nat} {A : Option Addr} {h : List Nat} (ho : OwnI w base (.slice A n cap) (zi h)) (i j : Nat) (hi : i < h.length) (hj : j < h.length) (hij : i ≠ j) (hl : h.length ≤ 100000) :
    Calls Try.prog 103 #[.slice A n cap, .int .i64 i, .int .i64 j] w fun e w' => e = .returned (.tuple #[]) ∧ OwnI w' base (.slice A n cap) (zi (swapL h i j)) ∧ w.grownBy w' (Value.slice A n cap).ownBlock := by
  have hn : n = h.length := by
    obtain ⟨A2, c2, e⟩ := own_slice ho
    injection e with _ e _; rw [zi_length] at e; exact e
  obtain ⟨g, rfl, c1⟩ := own_rd ho i (by rw [zi_length]; exact hi)
  obtain ⟨g2, e2, c2⟩ := own_rd ho j (by rw [zi_length]; exact hj)
  injection e2 with e2
  injection e2 with e2 _ _
  subst e2
  have z1 : (zi h)[i]'(by rw [zi_length]; exact hi) = ((h.getD i 0 : Nat) : Int) := by simp [zi, List.getD_eq_getElem?_getD, hi]
  have z2 : (zi h)[j]'(by rw [zi_length]; exact hj) = ((h.getD j 0 : Nat) : Int) := by simp [zi, List.getD_eq_getElem?_getD, hj]
  rw [z1] at c1
  rw [z2] at c2
  have HS : Hid (OwnI ((w.setCell ⟨g, i, none⟩ (.int .i64 (h.getD j 0 : Nat))).setCell ⟨g, j, none⟩ (.int .i64 (h.getD i 0 : Nat))) base (.slice (some ⟨g, 0, none⟩) n cap) (zi (swapL h i j))) := Lib.hid (by
    have h1 := (ho.store i (by rw [zi_length]; exact hi) (h.getD j 0 : Nat)).store j (by rw [List.length_set, zi_length]; exact hj) (h.getD i 0 : Nat)
    have e : zi (swapL h i j) = ((zi h).set i ((h.getD j 0 : Nat) : Int)).set j ((h.getD i 0 : Nat) : Int) := by unfold swapL; rw [zi_set, zi_set]
    rw [e]; exact h1)
  have f1 : ∀ k, w.frozen? ⟨g, k, none⟩ = false := fun k => own_free (by have := ho; unfold OwnI at this; rw [zi_length, ← hn] at this; exact this) k
  obtain ⟨a, ha⟩ : ∃ a, h.getD i 0 = a := ⟨_, rfl⟩
  obtain ⟨b, hb⟩ : ∃ b, h.getD j 0 = b := ⟨_, rfl⟩
  rw [ha] at c1 HS
  rw [hb] at c2 HS
  have hi0 : (0 : Int) ≤ i := by omega
  have hj0 : (0 : Int) ≤ j := by omega
  have hin : (i : Int) < n := by omega
  have hjn : (j : Int) < n := by omega
  have fi := f1 i
  have fj := f1 j
  have hji : ¬ j = i := fun e => hij e.symm
  clear ha hb z1 z2 ho hn hi hj f1
  go_enter Try.func103, Try.ntmps103
  go_wp2_with fail
  go_region
  all_goals
    go_wp2_with fail
    go_end0
    refine ⟨rfl, ?_, ?_⟩
    · first
        | exact HS.out
        | (have h := HS.out; exact ⟨h.1, h.2⟩)
        | (rw [show (w.setCell ⟨g, i, none⟩ (.int .i64 (b : Int))).setCell ⟨g, j, none⟩ (.int .i64 (a : Int)) = (w.setCell ⟨g, j, none⟩ (.int .i64 (a : Int))).setCell ⟨g, i, none⟩ (.int .i64 (b : Int)) from World.setCell_comm _ _ _ _ _ (by simp [hij])] at HS; have h := HS.out; exact ⟨h.1, h.2⟩)
    · first
        | exact (grown_set w g i _).trans (grown_set _ g j _)
        | exact (grown_set w g j _).trans (grown_set _ g i _)
        | (have h := (grown_set w g i (.int .i64 (b : Int))).trans (grown_set _ g j (.int .i64 (a : Int))); exact ⟨h.os, h.tape, h.output, h.size, h.block⟩)
        | (have h := (grown_set w g j (.int .i64 (a : Int))).trans (grown_set _ g i (.int .i64 (b : Int))); exact ⟨h.os, h.tape, h.output, h.size, h.block⟩)
end Go.Proofs.Ytobpolmlblpmjaa
