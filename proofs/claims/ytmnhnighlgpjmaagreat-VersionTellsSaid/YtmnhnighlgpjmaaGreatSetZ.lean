/-
  What settle does to the counts.
  What settle works on.
-/
import Derived.Test.YtmnhnighlgpjmaaGreatHeapZ
namespace Go.Proofs.YtmnhnighlgpjmaaGreat
set_option linter.unusedVariables false
set_option linter.unusedSimpArgs false

theorem snocInd {P : List Nat → Prop} (X : List Nat) (nil : P []) (snoc : ∀ X x, P X → P (X ++ [x])) : P X := by
  have key : ∀ Y : List Nat, P Y.reverse := by
    intro Y
    induction Y with
    | nil => exact nil
    | cons a Y ih => rw [List.reverse_cons]; exact snoc _ _ ih
  have := key X.reverse
  rwa [List.reverse_reverse] at this
def stepS (h : Nat) (s : List Nat × List Nat) (x : Nat) : List Nat × List Nat :=
  if x = h then s else (s.1.set x (s.1.getD x 0 - 1), if s.1.getD x 0 - 1 = 0 then s.2 ++ [x] else s.2)
def foldS (h : Nat) (o X : List Nat) : List Nat × List Nat := X.foldl (stepS h) (o, [])
theorem foldS_nil (h : Nat) (o : List Nat) : foldS h o [] = (o, []) := rfl
theorem foldS_snoc (h : Nat) (o X : List Nat) (x : Nat) : foldS h o (X ++ [x]) = stepS h (foldS h o X) x := by
  unfold foldS; rw [List.foldl_append]; rfl
theorem foldS_skip (h : Nat) (o X : List Nat) : foldS h o (X ++ [h]) = foldS h o X := by
  rw [foldS_snoc]; unfold stepS; rw [if_pos rfl]
theorem foldS_len (h : Nat) (o X : List Nat) : (foldS h o X).1.length = o.length := by
  induction X using snocInd with
  | nil => rfl
  | snoc X x ih =>
    rw [foldS_snoc]; unfold stepS
    split
    · exact ih
    · simp only [List.length_set]; exact ih
theorem foldS_get (h : Nat) (o X : List Nat) (y : Nat) : (foldS h o X).1.getD y 0 = if y = h then o.getD y 0 else o.getD y 0 - X.count y := by
  induction X using snocInd with
  | nil => rw [foldS_nil]; simp
  | snoc X x ih =>
    rw [foldS_snoc, List.count_append, List.count_singleton]; unfold stepS
    by_cases e : x = h
    · rw [if_pos e, ih]
      by_cases e2 : y = h
      · rw [if_pos e2, if_pos e2]
      · rw [if_neg e2, if_neg e2, if_neg (by intro h2; apply e2; rw [← e]; have := h2; simp at this; exact this.symm)]; omega
    · rw [if_neg e]
      simp only
      by_cases e3 : x = y
      · subst e3
        by_cases hl : x < o.length
        · rw [getD_set_self _ _ _ _ (by rw [foldS_len]; exact hl), ih, if_neg e, if_neg e]; simp; omega
        · rw [List.getD_eq_getElem?_getD, List.getElem?_eq_none (by rw [List.length_set, foldS_len]; omega), if_neg e, List.getD_eq_getElem?_getD, List.getElem?_eq_none (by omega)]; simp
      · rw [getD_set_ne _ _ _ _ _ e3, ih]
        have : (x == y) = false := by simp [e3]
        simp [this]
structure FreeOk (h : Nat) (o X F : List Nat) : Prop where
  iff : ∀ x, x ∈ F ↔ x ≠ h ∧ x ∈ X ∧ o.getD x 0 ≤ X.count x
  nd : F.Nodup
theorem foldS_free (h : Nat) (o : List Nat) : ∀ X : List Nat, (∀ x, x ≠ h → X.count x ≤ o.getD x 0) → FreeOk h o X (foldS h o X).2 := by
  intro X
  induction X using snocInd with
  | nil => intro _; exact ⟨by simp [foldS_nil], by simp [foldS_nil]⟩
  | snoc X x ih =>
    intro hc
    have hc' : ∀ y, y ≠ h → X.count y ≤ o.getD y 0 := fun y hy => by
      have := hc y hy
      rw [List.count_append] at this; omega
    have I := ih hc'
    by_cases e : x = h
    · subst e
      rw [foldS_skip]
      refine ⟨fun y => ?_, I.nd⟩
      rw [I.iff, List.mem_append, List.mem_singleton, List.count_append, List.count_singleton]
      constructor
      · rintro ⟨h1, h2, h3⟩; exact ⟨h1, .inl h2, by omega⟩
      · rintro ⟨h1, h2, h3⟩
        rcases h2 with h2 | h2
        · refine ⟨h1, h2, ?_⟩
          rw [if_neg (by intro h5; exact h1 (by have := h5; simp at this; exact this.symm))] at h3; omega
        · exact absurd h2 h1
    · have hcx := hc x e
      rw [List.count_append, List.count_singleton, if_pos (by simp)] at hcx
      rw [foldS_snoc]
      unfold stepS
      rw [if_neg e, foldS_get, if_neg e]
      simp only
      by_cases hz : o.getD x 0 - X.count x - 1 = 0
      · rw [if_pos hz]
        have hnx : x ∉ (foldS h o X).2 := fun hx => by have := ((I.iff x).1 hx).2.2; omega
        refine ⟨fun y => ?_, ?_⟩
        · rw [List.mem_append, List.mem_singleton, I.iff, List.mem_append, List.mem_singleton, List.count_append, List.count_singleton]
          by_cases e3 : y = x
          · subst e3
            rw [if_pos (by simp)]
            exact ⟨fun _ => ⟨e, .inr rfl, by omega⟩, fun _ => .inr rfl⟩
          · rw [if_neg (by intro h5; exact e3 (by have := h5; simp at this; exact this.symm))]
            constructor
            · rintro (⟨h1, h2, h3⟩ | h4)
              · exact ⟨h1, .inl h2, by omega⟩
              · exact absurd h4 e3
            · rintro ⟨h1, h2, h3⟩
              rcases h2 with h2 | h2
              · exact .inl ⟨h1, h2, by omega⟩
              · exact absurd h2 e3
        · rw [List.nodup_append]
          refine ⟨I.nd, by simp, fun a ha b hb e4 => ?_⟩
          rw [List.mem_singleton] at hb
          subst hb; subst e4
          exact hnx ha
      · rw [if_neg hz]
        refine ⟨fun y => ?_, I.nd⟩
        rw [I.iff, List.mem_append, List.mem_singleton, List.count_append, List.count_singleton]
        by_cases e3 : y = x
        · subst e3
          rw [if_pos (by simp)]
          constructor
          · rintro ⟨h1, h2, h3⟩; omega
          · rintro ⟨h1, h2, h3⟩; omega
        · rw [if_neg (by intro h5; exact e3 (by have := h5; simp at this; exact this.symm))]
          constructor
          · rintro ⟨h1, h2, h3⟩
            exact ⟨h1, .inl h2, by omega⟩
          · rintro ⟨h1, h2, h3⟩
            rcases h2 with h2 | h2
            · exact ⟨h1, h2, by omega⟩
            · exact absurd h2 e3
end Go.Proofs.YtmnhnighlgpjmaaGreat

namespace Go.Proofs.YtmnhnighlgpjmaaGreat
set_option linter.unusedVariables false
set_option linter.unusedSimpArgs false
open Go.RowKit

def SX (H : List Nat) (NB : List (List Nat)) (P : List Nat) : List Nat := P.flatMap fun w => (NB.getD w []).map fun v => H.getD v 0
theorem sx_step (H : List Nat) (Y l : List Nat) (j : Nat) (hj : j < l.length) : Y ++ (l.take (j + 1)).map (fun v => H.getD v 0) = (Y ++ (l.take j).map (fun v => H.getD v 0)) ++ [H.getD l[j] 0] := by
  rw [List.take_succ_eq_append_getElem hj, List.map_append, List.append_assoc]; rfl
theorem sx_next (H : List Nat) (NB : List (List Nat)) (P : List Nat) (i w : Nat) (hi : P[i]? = some w) : SX H NB (P.take (i + 1)) = SX H NB (P.take i) ++ (NB.getD w []).map (fun v => H.getD v 0) := by
  obtain ⟨h1, h2⟩ := List.getElem?_eq_some_iff.1 hi
  unfold SX
  rw [List.take_succ_eq_append_getElem h1, List.flatMap_append, h2]
  simp
theorem sx_pre (H : List Nat) (NB : List (List Nat)) (P : List Nat) (i w j : Nat) (hi : P[i]? = some w) : SX H NB (P.take i) ++ ((NB.getD w []).take j).map (fun v => H.getD v 0) <+: SX H NB P := by
  have h1 : SX H NB (P.take (i + 1)) <+: SX H NB P := by
    unfold SX
    refine ⟨(P.drop (i + 1)).flatMap fun w => (NB.getD w []).map fun v => H.getD v 0, ?_⟩
    rw [← List.flatMap_append, List.take_append_drop]
  rw [sx_next H NB P i w hi] at h1
  refine List.IsPrefix.trans ?_ h1
  refine ⟨((NB.getD w []).drop j).map (fun v => H.getD v 0), ?_⟩
  rw [List.append_assoc, ← List.map_append, List.take_append_drop]
/-- What the counts of a beginning are. -/
theorem pre_count {h : Nat} {O XS Y : List Nat} (hp : Y <+: XS) (hc : ∀ x, x ≠ h → XS.count x ≤ O.getD x 0) : ∀ x, x ≠ h → Y.count x ≤ O.getD x 0 := fun x hx => by
  obtain ⟨t, rfl⟩ := hp
  have := hc x hx
  rw [List.count_append] at this; omega
theorem pre_mem {n : Nat} {XS Y : List Nat} (hp : Y <+: XS) (hc : ∀ x ∈ XS, x < n) : ∀ x ∈ Y, x < n := fun x hx => by
  obtain ⟨t, rfl⟩ := hp
  exact hc x (by simp [hx])
theorem free_len {h n : Nat} {O XS Y : List Nat} (hp : Y <+: XS) (hc : ∀ x, x ≠ h → XS.count x ≤ O.getD x 0) (hx : ∀ x ∈ XS, x < n) : (foldS h O Y).2.length ≤ n := by
  have F := foldS_free h O Y (pre_count hp hc)
  exact nodup_le n _ F.nd (fun x hx2 => pre_mem hp hx x ((F.iff x).1 hx2).2.1)
theorem pre_pos {h : Nat} {O XS Y : List Nat} {x : Nat} (hp : Y ++ [x] <+: XS) (hc : ∀ x, x ≠ h → XS.count x ≤ O.getD x 0) (hx : x ≠ h) : 1 ≤ (foldS h O Y).1.getD x 0 := by
  have h1 := pre_count hp hc x hx
  rw [List.count_append, List.count_singleton, if_pos (by simp)] at h1
  rw [foldS_get, if_neg hx]; omega
theorem foldS_push {h : Nat} {O Y : List Nat} {x : Nat} (hx : x ≠ h) (hz : (foldS h O Y).1.getD x 0 = 1) : foldS h O (Y ++ [x]) = ((foldS h O Y).1.set x 0, (foldS h O Y).2 ++ [x]) := by
  rw [foldS_snoc]; unfold stepS
  rw [if_neg hx, hz]; rfl
theorem foldS_dec {h : Nat} {O Y : List Nat} {x : Nat} (hx : x ≠ h) (hz : (foldS h O Y).1.getD x 0 ≠ 1) (h1 : 1 ≤ (foldS h O Y).1.getD x 0) : foldS h O (Y ++ [x]) = ((foldS h O Y).1.set x ((foldS h O Y).1.getD x 0 - 1), (foldS h O Y).2) := by
  rw [foldS_snoc]; unfold stepS
  rw [if_neg hx, if_neg (by omega)]
/-- The memory of a division. -/
structure DivAt (w : World) (base gh gn go n : Nat) (H : List Nat) (vs : List Value) (P : List (List Nat)) (O : List Nat) : Prop where
  h : OwnI w base (.slice (some ⟨gh, 0, none⟩) n n) (zi H)
  p : Nest w base gn vs (P.map zi)
  o : OwnI w base (.slice (some ⟨go, 0, none⟩) n n) (zi O)
  ho : gh ≠ go
  po : ∀ (i : Nat) (v : Value) (k : Nat), vs[i]? = some v → v.ownBlock = some k → k ≠ go
theorem DivAt.turn {w w' : World} {base gh gn go n : Nat} {H : List Nat} {vs : List Value} {P : List (List Nat)} {O O' : List Nat} (D : DivAt w base gh gn go n H vs P O) (hg : w.grownBy w' (some go)) (ho : OwnI w' base (.slice (some ⟨go, 0, none⟩) n n) (zi O')) : DivAt w' base gh gn go n H vs P O' :=
  ⟨D.h.kept hg (.inr (fun e => by injection e with e; exact D.ho e)), D.p.kept hg (D.p.not_own D.o) (fun i v k h1 h2 e => by injection e with e; exact D.po i v k h1 h2 e.symm), ho, D.ho, D.po⟩
theorem DivAt.kept {w w' : World} {base gh gn go n : Nat} {H : List Nat} {vs : List Value} {P : List (List Nat)} {O : List Nat} (D : DivAt w base gh gn go n H vs P O) (hg : Below w.heap.size w w') : DivAt w' base gh gn go n H vs P O :=
  ⟨D.h.below hg, D.p.below hg, D.o.below hg, D.ho, D.po⟩
def SetPost (h base go n : Nat) (O X : List Nat) (w : World) (e : Ending) (w' : World) : Prop := ∃ u, e = .returned u ∧ OwnI w' w.heap.size u (zi (foldS h O X).2) ∧ OwnI w' base (.slice (some ⟨go, 0, none⟩) n n) (zi (foldS h O X).1) ∧ w.grownBy w' (some go)
def SRel (h base go n : Nat) (H : List Nat) (NB : List (List Nat)) (P O : List Nat) (w0 : World) (fv i : Value) (wl : World) : Prop := ∃ k, i = .int .i64 ((k : Nat) : Int) ∧ k ≤ P.length ∧ OwnI wl w0.heap.size fv (zi (foldS h O (SX H NB (P.take k))).2) ∧ OwnI wl base (.slice (some ⟨go, 0, none⟩) n n) (zi (foldS h O (SX H NB (P.take k))).1) ∧ w0.grownBy wl (some go)
def SRel1 (h base go n m : Nat) (H : List Nat) (Y l O : List Nat) (w0 : World) (fv i : Value) (wl : World) : Prop := ∃ j, i = .int .i64 ((j : Nat) : Int) ∧ j ≤ m ∧ OwnI wl w0.heap.size fv (zi (foldS h O (Y ++ (l.take j).map (fun v => H.getD v 0))).2) ∧ OwnI wl base (.slice (some ⟨go, 0, none⟩) n n) (zi (foldS h O (Y ++ (l.take j).map (fun v => H.getD v 0))).1) ∧ w0.grownBy wl (some go)
end Go.Proofs.YtmnhnighlgpjmaaGreat
