/-
  What divide makes.
-/
import Derived.Test.YtobpolmlblpmjaaSet
import Derived.Test.YtobpolmlblpmjaaHeads
namespace Go.Proofs.Ytobpolmlblpmjaa
set_option linter.unusedVariables false
set_option linter.unusedSimpArgs false
open Go.RowKit

theorem mk_nest (X : World) (base n g : Nat) {Z : Array Value} (hZ : Z = (List.replicate n (Value.slice none 0 0)).toArray) (hb : base ≤ X.heap.size) (hg : X.heap.size = g) : Nest (X.alloc (.cells Z 23)) base g (List.replicate n (.slice none 0 0)) ((List.replicate n ([] : List Nat)).map zi) := by
  subst hZ; subst hg
  refine ⟨by simp, hb, heap_alloc_new X _, fun i v l h1 h2 => ?_, fun i j u v k h1 _ h3 _ => ?_⟩
  · simp [List.getElem?_replicate, zi] at h1 h2
    rw [← h1.2, h2.2]
    exact OwnI.nil _ _
  · simp [List.getElem?_replicate] at h1
    rw [← h1.2] at h3
    simp [Value.ownBlock] at h3
theorem mk_own (X : World) (base n g : Nat) {Z : Array Value} (hZ : Z = (List.replicate n (Value.int .i64 0)).toArray) (hb : base ≤ X.heap.size) (hg : X.heap.size = g) (hn : n ≤ 900) : OwnI (X.alloc (.cells Z 3)) base (.slice (some ⟨g, 0, none⟩) n n) (zi (List.replicate n 0)) := by
  subst hZ; subst hg
  have e : (zi (List.replicate n 0)).length = n := by rw [zi_length, List.length_replicate]
  refine ⟨?_, .inr ⟨X.heap.size, n, _, by rw [e], hb, heap_alloc_new X _, by rw [e]; exact Nat.le_refl _, by unfold maxLen; omega, by simp, ?_⟩⟩
  · rw [iv_length]; omega
  · rw [e]
    simp [iv, zi]
theorem own_alloc {X : World} {base : Nat} {v : Value} {l : List Int} (h : OwnI X base v l) (o : Obj) : OwnI (X.alloc o) base v l := h.below (below_new X o)
theorem own_drew {X : World} {base : Nat} {v : Value} {l : List Int} (h : OwnI X base v l) : OwnI X.drew base v l := h
theorem nest_alloc {X : World} {base g : Nat} {vs : List Value} {L : List (List Int)} (h : Nest X base g vs L) (o : Obj) : Nest (X.alloc o) base g vs L := h.below (below_new X o)
theorem nest_drew {X : World} {base g : Nat} {vs : List Value} {L : List (List Int)} (h : Nest X base g vs L) : Nest X.drew base g vs L := ⟨h.len, h.hb, h.blk, h.row, h.apart⟩
theorem blk_alloc {X : World} {g : Nat} {t : TypeId} {cs : Array Value} (h : Blk X g t cs) (o : Obj) : Blk (X.alloc o) g t cs := h.below (below_new X o) h.lt
theorem blk_drew {X : World} {g : Nat} {t : TypeId} {cs : Array Value} (h : Blk X g t cs) : Blk X.drew g t cs := h
theorem blk_mk (X : World) (g : Nat) (t : TypeId) (cs : Array Value) (hg : X.heap.size = g) : Blk (X.alloc (.cells cs t)) g t cs := by subst hg; exact Blk.new X t cs
theorem blk_set {X : World} {g i : Nat} {t : TypeId} {cs : Array Value} (h : Blk X g t cs) (v : Value) : Blk (X.setCell ⟨g, i, none⟩ v) g t (cs.setIfInBounds i v) := by
  unfold Blk
  rw [setCell_eq_setRow X g i cs t (0, 0) v h]
  exact setRow_heap X g cs _ t (0, 0) h
/-- What divide begins with. -/
structure DivSt (w : World) (gb gh gn go n : Nat) (H : List Nat) (vs : List Value) (P : List (List Nat)) (O : List Nat) (W : World) : Prop where
  at_ : DivAt W w.heap.size gh gn go n H vs P O
  hb : ∀ k, k = gh ∨ k = gn ∨ k = go ∨ (∃ (i : Nat) (v : Value), vs[i]? = some v ∧ v.ownBlock = some k) → k ≠ gb
  nh : ∀ (i : Nat) (v : Value) (k : Nat), vs[i]? = some v → v.ownBlock = some k → k ≠ gh
  gbb : w.heap.size ≤ gb
  box : Blk W gb 46 #[.slice (some ⟨gh, 0, none⟩) n n, .slice (some ⟨gn, 0, none⟩) n n, .slice (some ⟨go, 0, none⟩) n n]
  below : Below w.heap.size w W
theorem div_made {w F : World} {gb gh gn go n : Nat} {H : List Nat} (hB : Blk F gb 46 #[.slice none 0 0, .slice none 0 0, .slice none 0 0])
    (h1 : OwnI F w.heap.size (.slice (some ⟨gh, 0, none⟩) n n) (zi H)) (h2 : Nest F w.heap.size gn (List.replicate n (.slice none 0 0)) ((List.replicate n ([] : List Nat)).map zi)) (h3 : OwnI F w.heap.size (.slice (some ⟨go, 0, none⟩) n n) (zi (List.replicate n 0)))
    (hne : gh ≠ go) (hbl : Below w.heap.size w F) (hgb : w.heap.size ≤ gb) :
    DivSt w gb gh gn go n H (List.replicate n (.slice none 0 0)) (List.replicate n []) (List.replicate n 0) (((F.setCell ⟨gb, 0, none⟩ (.slice (some ⟨gh, 0, none⟩) n n)).setCell ⟨gb, 1, none⟩ (.slice (some ⟨gn, 0, none⟩) n n)).setCell ⟨gb, 2, none⟩ (.slice (some ⟨go, 0, none⟩) n n)) := by
  have hg := ((grown_set F gb 0 (.slice (some ⟨gh, 0, none⟩) n n)).trans (grown_set _ gb 1 (.slice (some ⟨gn, 0, none⟩) n n))).trans (grown_set _ gb 2 (.slice (some ⟨go, 0, none⟩) n n))
  have n1 := not_blk h1 hB (by decide)
  have n3 := not_blk h3 hB (by decide)
  have n2 : gn ≠ gb := fun e => by
    have a1 := h2.blk
    have a2 : F.heap[gb]? = some (.cells #[.slice none 0 0, .slice none 0 0, .slice none 0 0] 46 (0, 0)) := hB
    rw [e, a2] at a1
    injection a1 with a1
    injection a1 with _ a1
    exact absurd a1 (by decide)
  have nil : ∀ (i : Nat) (v : Value) (k : Nat), (List.replicate n (Value.slice none 0 0))[i]? = some v → v.ownBlock = some k → False := fun i v k e1 e2 => by
    simp [List.getElem?_replicate] at e1
    rw [← e1.2] at e2
    simp [Value.ownBlock] at e2
  have m1 : gh ≠ gb := fun e => n1 (by rw [e]; rfl)
  have m3 : go ≠ gb := fun e => n3 (by rw [e]; rfl)
  refine ⟨⟨h1.kept hg (.inr (fun e => n1 e.symm)), h2.kept hg (fun e => by injection e with e; exact n2 e) (fun i v k e1 e2 => (nil i v k e1 e2).elim), h3.kept hg (.inr (fun e => n3 e.symm)), hne, fun i v k e1 e2 => (nil i v k e1 e2).elim⟩, ?_, fun i v k e1 e2 => (nil i v k e1 e2).elim, hgb, ?_, hbl.grown hg hbl.size (fun k hk => by injection hk with hk; omega)⟩
  · rintro k (rfl | rfl | rfl | ⟨i, v, e1, e2⟩)
    · exact m1
    · exact n2
    · exact m3
    · exact (nil i v k e1 e2).elim
  · exact ((blk_set (blk_set (blk_set hB _) _) _) : Blk _ gb 46 _)
theorem own_set {X : World} {base gb i g n c : Nat} {l : List Int} (h : OwnI X base (.slice (some ⟨g, 0, none⟩) n c) l) (hne : g ≠ gb) (u : Value) : OwnI (X.setCell ⟨gb, i, none⟩ u) base (.slice (some ⟨g, 0, none⟩) n c) l :=
  h.kept (grown_set X gb i u) (.inr (fun e => by simp [Value.ownBlock] at e; exact hne e))
theorem nest_set {X : World} {base gb i g n : Nat} {L : List (List Int)} (h : Nest X base g (List.replicate n (.slice none 0 0)) L) (hne : g ≠ gb) (u : Value) : Nest (X.setCell ⟨gb, i, none⟩ u) base g (List.replicate n (.slice none 0 0)) L :=
  h.kept (grown_set X gb i u) (fun e => by injection e with e; exact hne e) (fun j v k e1 e2 => by
    simp [List.getElem?_replicate] at e1
    rw [← e1.2] at e2
    simp [Value.ownBlock] at e2)
theorem own_call {X Y : World} {base : Nat} {v : Value} {l : List Int} (hb : Below X.heap.size X Y) (h : OwnI X base v l) : OwnI Y base v l := h.below hb
theorem nest_call {X Y : World} {base g : Nat} {vs : List Value} {L : List (List Int)} (hb : Below X.heap.size X Y) (h : Nest X base g vs L) : Nest Y base g vs L := h.below hb
theorem blk_call {X Y : World} {g : Nat} {t : TypeId} {cs : Array Value} (hb : Below X.heap.size X Y) (h : Blk X g t cs) : Blk Y g t cs := h.below hb h.lt
theorem blk_full {X : World} {gb : Nat} {t : TypeId} {a b c : Value} (h : Blk X gb t #[.slice none 0 0, .slice none 0 0, .slice none 0 0]) : Blk (((X.setCell ⟨gb, 0, none⟩ a).setCell ⟨gb, 1, none⟩ b).setCell ⟨gb, 2, none⟩ c) gb t #[a, b, c] := ((blk_set (blk_set (blk_set h _) _) _) : Blk _ gb t _)
theorem below_set {w X : World} {B gb i : Nat} {u : Value} (h : Below B w X) (hb : B ≤ gb) : Below B w (X.setCell ⟨gb, i, none⟩ u) := h.setCell (p := ⟨gb, i, none⟩) hb u
theorem below_call {w X Y : World} {B : Nat} (h : Below B w X) (hb : Below X.heap.size X Y) (hB : B ≤ X.heap.size) : Below B w Y := h.trans (hb.mono hB)
theorem div_mk {w F : World} {gb gh gn go n : Nat} {H : List Nat} (hB : Blk F gb 46 #[.slice (some ⟨gh, 0, none⟩) n n, .slice (some ⟨gn, 0, none⟩) n n, .slice (some ⟨go, 0, none⟩) n n])
    (h1 : OwnI F w.heap.size (.slice (some ⟨gh, 0, none⟩) n n) (zi H)) (h2 : Nest F w.heap.size gn (List.replicate n (.slice none 0 0)) ((List.replicate n ([] : List Nat)).map zi)) (h3 : OwnI F w.heap.size (.slice (some ⟨go, 0, none⟩) n n) (zi (List.replicate n 0)))
    (hne : gh ≠ go) (hbl : Below w.heap.size w F) (hgb : w.heap.size ≤ gb) :
    DivSt w gb gh gn go n H (List.replicate n (.slice none 0 0)) (List.replicate n []) (List.replicate n 0) F := by
  have n1 := not_blk h1 hB (by decide)
  have n3 := not_blk h3 hB (by decide)
  have n2 : gn ≠ gb := fun e => by
    have a1 := h2.blk
    have a2 : F.heap[gb]? = some (.cells #[.slice (some ⟨gh, 0, none⟩) n n, .slice (some ⟨gn, 0, none⟩) n n, .slice (some ⟨go, 0, none⟩) n n] 46 (0, 0)) := hB
    rw [e, a2] at a1
    injection a1 with a1
    injection a1 with _ a1
    exact absurd a1 (by decide)
  have nil : ∀ (i : Nat) (v : Value) (k : Nat), (List.replicate n (Value.slice none 0 0))[i]? = some v → v.ownBlock = some k → False := fun i v k e1 e2 => by
    simp [List.getElem?_replicate] at e1
    rw [← e1.2] at e2
    simp [Value.ownBlock] at e2
  have m1 : gh ≠ gb := fun e => n1 (by rw [e]; rfl)
  have m3 : go ≠ gb := fun e => n3 (by rw [e]; rfl)
  refine ⟨⟨h1, h2, h3, hne, fun i v k e1 e2 => (nil i v k e1 e2).elim⟩, ?_, fun i v k e1 e2 => (nil i v k e1 e2).elim, hgb, hB, hbl⟩
  rintro k (rfl | rfl | rfl | ⟨i, v, e1, e2⟩)
  · exact m1
  · exact n2
  · exact m3
  · exact (nil i v k e1 e2).elim
end Go.Proofs.Ytobpolmlblpmjaa
