/-
  What settle works on.
-/
import Derived.Test.YtobpolmlblpmjaaSetM
namespace Go.Proofs.Ytobpolmlblpmjaa
set_option linter.unusedVariables false
set_option linter.unusedSimpArgs false
open Go.RowKit

def SX (H : List Nat) (NB : List (List Nat)) (P : List Nat) : List Nat := P.flatMap fun w => (NB.getD w []).map fun v => H.getD v 0
theorem sx_step (H : List Nat) (Y l : List Nat) (j : Nat) (hj : j < l.length) : Y ++ (l.take (j + 1)).map (fun v => H.getD v 0) = (Y ++ (l.take j).map (fun v => H.getD v 0)) ++ [H.getD l[j] 0] := by
  rw [List.take_succ_eq_append_getElem hj, List.map_append, List.append_assoc]; rfl
theorem sx_next (H : List Nat) (NB : List (List Nat)) (P : List Nat) (i w : Nat) (hi : P[i]? = some w) : SX H NB (P.take (i + 1)) = SX H NB (P.take i) ++ (NB.getD w []).map (fun v => H.getD v 0) := by
  obtain ⟨h1, h2⟩ := List.getElem?_eq_some_iff.1 hi
  unfold SX
  rw [List.take_succ_eq_append_getElem h1, List.flatMap_append, h2]
  simp
theorem sx_pre (H : List Nat) (NB : List (List Nat)) (P : List Nat) (i w j : Nat) (hi : P[i]? = some w) : SX H NB (P.take i) ++ ((NB.getD w []).take j).map (fun v => H.getD v 0) <+: SX H NB P := by
  have h1 : SX H NB (P.take (i + 1)) <+: SX H NB P := by
    unfold SX
    refine ⟨(P.drop (i + 1)).flatMap fun w => (NB.getD w []).map fun v => H.getD v 0, ?_⟩
    rw [← List.flatMap_append, List.take_append_drop]
  rw [sx_next H NB P i w hi] at h1
  refine List.IsPrefix.trans ?_ h1
  refine ⟨((NB.getD w []).drop j).map (fun v => H.getD v 0), ?_⟩
  rw [List.append_assoc, ← List.map_append, List.take_append_drop]
/-- What the counts of a beginning are. -/
theorem pre_count {h : Nat} {O XS Y : List Nat} (hp : Y <+: XS) (hc : ∀ x, x ≠ h → XS.count x ≤ O.getD x 0) : ∀ x, x ≠ h → Y.count x ≤ O.getD x 0 := fun x hx => by
  obtain ⟨t, rfl⟩ := hp
  have := hc x hx
  rw [List.count_append] at this; omega
theorem pre_mem {n : Nat} {XS Y : List Nat} (hp : Y <+: XS) (hc : ∀ x ∈ XS, x < n) : ∀ x ∈ Y, x < n := fun x hx => by
  obtain ⟨t, rfl⟩ := hp
  exact hc x (by simp [hx])
theorem free_len {h n : Nat} {O XS Y : List Nat} (hp : Y <+: XS) (hc : ∀ x, x ≠ h → XS.count x ≤ O.getD x 0) (hx : ∀ x ∈ XS, x < n) : (foldS h O Y).2.length ≤ n := by
  have F := foldS_free h O Y (pre_count hp hc)
  exact nodup_le n _ F.nd (fun x hx2 => pre_mem hp hx x ((F.iff x).1 hx2).2.1)
theorem pre_pos {h : Nat} {O XS Y : List Nat} {x : Nat} (hp : Y ++ [x] <+: XS) (hc : ∀ x, x ≠ h → XS.count x ≤ O.getD x 0) (hx : x ≠ h) : 1 ≤ (foldS h O Y).1.getD x 0 := by
  have h1 := pre_count hp hc x hx
  rw [List.count_append, List.count_singleton, if_pos (by simp)] at h1
  rw [foldS_get, if_neg hx]; omega
theorem foldS_push {h : Nat} {O Y : List Nat} {x : Nat} (hx : x ≠ h) (hz : (foldS h O Y).1.getD x 0 = 1) : foldS h O (Y ++ [x]) = ((foldS h O Y).1.set x 0, (foldS h O Y).2 ++ [x]) := by
  rw [foldS_snoc]; unfold stepS
  rw [if_neg hx, hz]; rfl
theorem foldS_dec {h : Nat} {O Y : List Nat} {x : Nat} (hx : x ≠ h) (hz : (foldS h O Y).1.getD x 0 ≠ 1) (h1 : 1 ≤ (foldS h O Y).1.getD x 0) : foldS h O (Y ++ [x]) = ((foldS h O Y).1.set x ((foldS h O Y).1.getD x 0 - 1), (foldS h O Y).2) := by
  rw [foldS_snoc]; unfold stepS
  rw [if_neg hx, if_neg (by omega)]
/-- The memory of a division. -/
structure DivAt (w : World) (base gh gn go n : Nat) (H : List Nat) (vs : List Value) (P : List (List Nat)) (O : List Nat) : Prop where
  h : OwnI w base (.slice (some ⟨gh, 0, none⟩) n n) (zi H)
  p : Nest w base gn vs (P.map zi)
  o : OwnI w base (.slice (some ⟨go, 0, none⟩) n n) (zi O)
  ho : gh ≠ go
  po : ∀ (i : Nat) (v : Value) (k : Nat), vs[i]? = some v → v.ownBlock = some k → k ≠ go
theorem DivAt.turn {w w' : World} {base gh gn go n : Nat} {H : List Nat} {vs : List Value} {P : List (List Nat)} {O O' : List Nat} (D : DivAt w base gh gn go n H vs P O) (hg : w.grownBy w' (some go)) (ho : OwnI w' base (.slice (some ⟨go, 0, none⟩) n n) (zi O')) : DivAt w' base gh gn go n H vs P O' :=
  ⟨D.h.kept hg (.inr (fun e => by injection e with e; exact D.ho e)), D.p.kept hg (D.p.not_own D.o) (fun i v k h1 h2 e => by injection e with e; exact D.po i v k h1 h2 e.symm), ho, D.ho, D.po⟩
theorem DivAt.kept {w w' : World} {base gh gn go n : Nat} {H : List Nat} {vs : List Value} {P : List (List Nat)} {O : List Nat} (D : DivAt w base gh gn go n H vs P O) (hg : Below w.heap.size w w') : DivAt w' base gh gn go n H vs P O :=
  ⟨D.h.below hg, D.p.below hg, D.o.below hg, D.ho, D.po⟩
def SetPost (h base go n : Nat) (O X : List Nat) (w : World) (e : Ending) (w' : World) : Prop := ∃ u, e = .returned u ∧ OwnI w' w.heap.size u (zi (foldS h O X).2) ∧ OwnI w' base (.slice (some ⟨go, 0, none⟩) n n) (zi (foldS h O X).1) ∧ w.grownBy w' (some go)
def SRel (h base go n : Nat) (H : List Nat) (NB : List (List Nat)) (P O : List Nat) (w0 : World) (fv i : Value) (wl : World) : Prop := ∃ k, i = .int .i64 ((k : Nat) : Int) ∧ k ≤ P.length ∧ OwnI wl w0.heap.size fv (zi (foldS h O (SX H NB (P.take k))).2) ∧ OwnI wl base (.slice (some ⟨go, 0, none⟩) n n) (zi (foldS h O (SX H NB (P.take k))).1) ∧ w0.grownBy wl (some go)
def SRel1 (h base go n m : Nat) (H : List Nat) (Y l O : List Nat) (w0 : World) (fv i : Value) (wl : World) : Prop := ∃ j, i = .int .i64 ((j : Nat) : Int) ∧ j ≤ m ∧ OwnI wl w0.heap.size fv (zi (foldS h O (Y ++ (l.take j).map (fun v => H.getD v 0))).2) ∧ OwnI wl base (.slice (some ⟨go, 0, none⟩) n n) (zi (foldS h O (Y ++ (l.take j).map (fun v => H.getD v 0))).1) ∧ w0.grownBy wl (some go)
end Go.Proofs.Ytobpolmlblpmjaa
