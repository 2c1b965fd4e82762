/-
  Parts: what its rounds keep in memory.
-/
import Derived.Test.YtmnhnighlgpjmaaGreatHeapZ
import Derived.Test.YtmnhnighlgpjmaaGreatSet
import Derived.Test.YtmnhnighlgpjmaaGreatDivZ
import Derived.Test.YtmnhnighlgpjmaaGreatReachP
namespace Go.Proofs.YtmnhnighlgpjmaaGreat
set_option linter.unusedVariables false
set_option linter.unusedSimpArgs false
open Go.RowKit

theorem row_eq {w w' : World} {base n s : Nat} {e : TypeId} {v : Value} {xs : List Value} (h : w.ownsRow base e s v n xs) (he : ∀ g, v.ownBlock = some g → w'.heap[g]? = w.heap[g]?) : w'.ownsRow base e s v n xs := by
  refine ⟨h.1, ?_⟩
  rcases h.2 with hn | ⟨g, cap, cur, hv, hb, hg, rest⟩
  · exact .inl hn
  · exact .inr ⟨g, cap, cur, hv, hb, (he g (by rw [hv]; rfl)).trans hg, rest⟩
theorem row_base {w : World} {base base' n s : Nat} {e : TypeId} {v : Value} {xs : List Value} (h : w.ownsRow base e s v n xs) (hb : base' ≤ base) : w.ownsRow base' e s v n xs := by
  refine ⟨h.1, ?_⟩
  rcases h.2 with hn | ⟨g, cap, cur, hv, hbg, rest⟩
  · exact .inl hn
  · exact .inr ⟨g, cap, cur, hv, Nat.le_trans hb hbg, rest⟩
def DivLt (B gh gn go : Nat) (vs : List Value) : Prop := gh < B ∧ gn < B ∧ go < B ∧ ∀ (i : Nat) (v : Value) (k : Nat), vs[i]? = some v → v.ownBlock = some k → k < B
theorem DivAt.lows {w : World} {base gh gn go n : Nat} {H O : List Nat} {vs : List Value} {P : List (List Nat)} (D : DivAt w base gh gn go n H vs P O) : DivLt w.heap.size gh gn go vs :=
  ⟨(World.ownsRow.lt D.h gh rfl).2, D.p.lt, (World.ownsRow.lt D.o go rfl).2, fun i v k hv hk => by
    have hi := (List.getElem?_eq_some_iff.1 hv).1
    rw [D.p.len] at hi
    exact (World.ownsRow.lt (D.p.row i v _ hv (List.getElem?_eq_getElem hi)) k hk).2⟩
theorem DivAt.same {w w' : World} {base B gh gn go n : Nat} {H O : List Nat} {vs : List Value} {P : List (List Nat)} (D : DivAt w base gh gn go n H vs P O) (hl : DivLt B gh gn go vs) (he : ∀ k, k < B → w'.heap[k]? = w.heap[k]?) : DivAt w' base gh gn go n H vs P O := by
  obtain ⟨h1, h2, h3, h4⟩ := hl
  refine ⟨row_eq D.h (fun g hg => ?_), ⟨D.p.len, D.p.hb, (he _ h2).trans D.p.blk, fun i v l hv hl => row_eq (D.p.row i v l hv hl) (fun g hg => he g (h4 i v g hv hg)), D.p.apart⟩, row_eq D.o (fun g hg => ?_), D.ho, D.po⟩
  · injection hg with hg; subst hg; exact he _ h1
  · injection hg with hg; subst hg; exact he _ h3

/-- The memory of Parts: the division, its box, the heap. -/
structure PMem (f b0 base gh gn go hb db n : Nat) (H : List Nat) (vs : List Value) (P : List (List Nat)) (W1 : World) (O h : List Nat) (sl : Value) (w : World) : Prop where
  d : DivAt w b0 gh gn go n H vs P O
  lt : DivLt base gh gn go vs
  dlt : db < base
  bk : Blk w db 62 #[.slice (some ⟨gh, 0, none⟩) n n, .slice (some ⟨gn, 0, none⟩) n n, .slice (some ⟨go, 0, none⟩) n n]
  dgo : db ≠ go
  hp : HeapAt f w base hb sl h
  ok : Heap h h.length
  hb0 : base ≤ w.heap.size
  bel : Below b0 W1 w
  b0b : b0 ≤ base
theorem PMem.heap {f b0 base gh gn go hb db n : Nat} {H O h h2 : List Nat} {vs : List Value} {P : List (List Nat)} {W1 w w' : World} {sl sl2 : Value} (M : PMem f b0 base gh gn go hb db n H vs P W1 O h sl w) (K : HKeep f base w w') (H2 : HeapAt f w' base hb sl2 h2) (ok : Heap h2 h2.length) :
    PMem f b0 base gh gn go hb db n H vs P W1 O h2 sl2 w' :=
  ⟨M.d.same M.lt (fun k hk => K.below.block k hk), M.lt, M.dlt, (K.below.block db M.dlt).trans M.bk, M.dgo, H2, ok, Nat.le_trans M.hb0 K.below.size, M.bel.trans (K.below.mono M.b0b), M.b0b⟩
theorem PMem.focus {f f' b0 base gh gn go hb db n : Nat} {H O h : List Nat} {vs : List Value} {P : List (List Nat)} {W1 w : World} {sl : Value} (M : PMem f b0 base gh gn go hb db n H vs P W1 O h sl w) (hf : f' < w.heap.size ∧ f' ≠ hb ∧ sl.ownBlock ≠ some f') :
    PMem f' b0 base gh gn go hb db n H vs P W1 O h sl w :=
  ⟨M.d, M.lt, M.dlt, M.bk, M.dgo, ⟨M.hp.hbb, M.hp.bx, M.hp.own, hf⟩, M.ok, M.hb0, M.bel, M.b0b⟩
theorem HeapAt.go {f go base hb : Nat} {w : World} {sl : Value} {h : List Nat} (H : HeapAt f w base hb sl h) (hgo : go < base) (hw : base ≤ w.heap.size) : go < w.heap.size ∧ go ≠ hb ∧ sl.ownBlock ≠ some go :=
  ⟨by omega, by have := H.hbb; omega, fun e => by have := (World.ownsRow.lt H.own go e).1; omega⟩
/-- A row of slices behind base grows, or a block is made. -/
theorem PMem.grow {f b0 base gh gn go hb db n : Nat} {H O h : List Nat} {vs : List Value} {P : List (List Nat)} {W1 w w' : World} {sl : Value} {r : Option Nat} (M : PMem f b0 base gh gn go hb db n H vs P W1 O h sl w) (hg : w.grownBy w' r) (hr : ∀ k, r = some k → base ≤ k ∧ k ≠ hb ∧ sl.ownBlock ≠ some k) :
    PMem f b0 base gh gn go hb db n H vs P W1 O h sl w' := by
  have he : ∀ k, k < base → w'.heap[k]? = w.heap[k]? := fun k hk => hg.block k (Nat.lt_of_lt_of_le hk M.hb0) (fun e => by have := (hr k e.symm).1; omega)
  have hbel : Below base w w' := (Below.refl base w).grown hg M.hb0 (fun k hk => (hr k hk).1)
  refine ⟨M.d.same M.lt he, M.lt, M.dlt, (he db M.dlt).trans M.bk, M.dgo, ⟨M.hp.hbb, M.hp.bx.kept hg (fun e => (hr hb e.symm).2.1 rfl), M.hp.own.kept hg ?_, ⟨Nat.lt_of_lt_of_le M.hp.nf.1 hg.size, M.hp.nf.2⟩⟩, M.ok, Nat.le_trans M.hb0 hg.size, M.bel.trans (hbel.mono M.b0b), M.b0b⟩
  cases e : sl.ownBlock with
  | none => exact .inl rfl
  | some k => exact .inr (fun e2 => (hr k e2.symm).2.2 e)
theorem PMem.settle {b0 base gh gn go hb db n : Nat} {H O O' h : List Nat} {vs : List Value} {P : List (List Nat)} {W1 w w' : World} {sl : Value} (M : PMem go b0 base gh gn go hb db n H vs P W1 O h sl w) (hg : w.grownBy w' (some go)) (ho : OwnI w' b0 (.slice (some ⟨go, 0, none⟩) n n) (zi O')) :
    PMem go b0 base gh gn go hb db n H vs P W1 O' h sl w' := by
  have hgo := M.lt.2.2.1
  have hog := (World.ownsRow.lt M.d.o go rfl).1
  have nf := M.hp.nf
  refine ⟨M.d.turn hg ho, M.lt, M.dlt, M.bk.grown hg (fun e => by injection e with e; exact M.dgo e), M.dgo, ⟨M.hp.hbb, M.hp.bx.kept hg (fun e => by injection e with e; exact nf.2.1 e.symm), M.hp.own.kept hg ?_, ⟨Nat.lt_of_lt_of_le nf.1 hg.size, nf.2⟩⟩, M.ok, Nat.le_trans M.hb0 hg.size, M.bel.grown hg (Nat.le_trans M.b0b M.hb0) (fun k hk => by injection hk with hk; omega), M.b0b⟩
  exact .inr (fun e => nf.2.2 e)

/-- The row of the parts that are listed. -/
def PRow (w : World) (base : Nat) (vs : List Value) (pv : Value) (ms : List Nat) : Prop := w.ownsRow base 33 1 pv ms.length (ms.map fun m => vs.getD m (.slice none 0 0))
theorem PRow.heap {f base : Nat} {w w' : World} {vs : List Value} {pv : Value} {ms : List Nat} (h : PRow w base vs pv ms) (K : HKeep f base w w') : PRow w' base vs pv ms := by
  refine ⟨h.1, ?_⟩
  rcases h.2 with hn | ⟨g, cap, cur, hv, hb, hg, rest⟩
  · exact .inl hn
  · exact .inr ⟨g, cap, cur, hv, hb, K.rows g cur hg, rest⟩
theorem PRow.settle {go base : Nat} {w w' : World} {vs : List Value} {pv : Value} {ms : List Nat} (h : PRow w base vs pv ms) (hg : w.grownBy w' (some go)) (hgo : go < base) : PRow w' base vs pv ms := own_keep h hg hgo
theorem PRow.far {f base hb : Nat} {w : World} {vs : List Value} {pv sl : Value} {ms h : List Nat} (p : PRow w base vs pv ms) (H : HeapAt f w base hb sl h) : ∀ k, pv.ownBlock = some k → base ≤ k ∧ k ≠ hb ∧ sl.ownBlock ≠ some k := fun k hk => by
  have h1 := (World.ownsRow.lt p k hk).1
  have h2 : ∃ cs, w.heap[k]? = some (.cells cs 33 (0, 0)) := by
    rcases p.2 with ⟨hn, _⟩ | ⟨g, cap, cur, hv, hb, hg, rest⟩
    · rw [hn] at hk; simp [Value.ownBlock] at hk
    · rw [hv] at hk; simp [Value.ownBlock] at hk; subst hk; exact ⟨cur, hg⟩
  obtain ⟨cs, h3⟩ := h2
  refine ⟨h1, fun e => ?_, fun e => ?_⟩
  · subst e
    have h4 : w.heap[k]? = some (.cells #[sl] 65 (0, 0)) := H.bx
    rw [h3] at h4; injection h4 with h4; injection h4 with _ h5
    exact absurd h5 (by decide)
  · exact not_blk H.own (show Blk w k 33 cs from h3) (by decide) e.symm
/-- The rows of the parts, read. -/
theorem PRow.lists {w : World} {base b0 gn n : Nat} {vs : List Value} {P : List (List Nat)} {pv : Value} {ms : List Nat} (p : PRow w base vs pv ms) (N : Nest w b0 gn vs (P.map zi)) (hP : P.length = n) (hm : ∀ m ∈ ms, m < n) (hl : ∀ m, (P.getD m []).length ≤ 1000000) : OwnL w base pv (ms.map fun m => zi (P.getD m [])) := by
  refine ⟨ms.map fun m => vs.getD m (.slice none 0 0), by rw [List.length_map]; exact p, fun i u l hu hl2 => ?_⟩
  rw [List.getElem?_map] at hu hl2
  cases e : ms[i]? with
  | none => rw [e] at hu; simp at hu
  | some m =>
    rw [e] at hu hl2
    simp only [Option.map_some, Option.some.injEq] at hu hl2
    subst hu; subst hl2
    have hmn := hm m (List.mem_of_getElem? e)
    obtain ⟨v, h1, _, h3⟩ := N.at m (by rw [List.length_map]; omega)
    have h4 : vs.getD m (.slice none 0 0) = v := by rw [List.getD_eq_getElem?_getD, h1]; rfl
    have h5 : (P.map zi)[m]'(by rw [List.length_map]; omega) = zi (P.getD m []) := by
      rw [List.getElem_map, List.getD_eq_getElem?_getD, List.getElem?_eq_getElem (by omega)]; rfl
    rw [h5] at h3
    rw [h4]
    exact h3.irow (by rw [zi_length]; exact hl m)
theorem backOf_eq (A : Arcs) (n : Nat) : backOf (nextOf n A) = backA A n := by unfold backOf backA; rw [nextOf_length]
def nodesA (A : Arcs) (n : Nat) : List (List Nat) := addA n (byHead (hdL A n) n)
def openA (A : Arcs) (n : Nat) : List Nat := openL (hdL A n) n (pairs (nextOf n A))
theorem nodesA_get {A : Arcs} {n m : Nat} (hm : m < n) (he : hd A n m = m) : (nodesA A n).getD m [] = partOf A n m := nodes_head hm he
theorem partsGo_len (A : Arcs) (n : Nat) : ∀ (k : Nat) (D : List Nat), (partsGo A n k D).length ≤ k
  | 0, _ => by simp [partsGo]
  | k + 1, D => by
    rw [partsGo]
    cases (List.range n).find? (readyB A n D) with
    | none => simp
    | some v => simp only [List.length_cons]; have := partsGo_len A n k (D ++ partOf A n v); omega
theorem ToCome.len {A : Arcs} {n : Nat} {D : List Nat} {L : List (List Nat)} (T : ToCome A n D L) : L.length ≤ n := by
  obtain ⟨k, h1, _⟩ := T.ex
  have := partsGo_len A n n []
  have h2 : (partsOf A n).length = L.length + (partsGo A n k D).length := by rw [h1, List.length_append]
  unfold partsOf at h2
  omega
/-- The state of Parts at the head of its second loop. -/
structure PState (b0 base gh gn go hb db n : Nat) (A : Arcs) (vs : List Value) (W1 : World) (D ms O h : List Nat) (sl pv : Value) (w : World) : Prop where
  m : PMem go b0 base gh gn go hb db n (hdL A n) vs (nodesA A n) W1 O h sl w
  p : PRow w base vs pv ms
  r : Rdy A n D h O
  t : ToCome A n D (ms.map (partOf A n))
  ms : ∀ m ∈ ms, m < n ∧ hd A n m = m
  ol : O.length = n
  o9 : ∀ x, O.getD x 0 ≤ 100000000
def PRel (b0 base gh gn go hb db n : Nat) (A : Arcs) (vs : List Value) (W1 : World) (pv : Value) (w : World) : Prop := ∃ D ms O h sl, PState b0 base gh gn go hb db n A vs W1 D ms O h sl pv w
def P1Rel (b0 base gh gn go hb db n : Nat) (A : Arcs) (vs : List Value) (W1 : World) (i : Value) (w : World) : Prop := ∃ (k : Nat) (h : List Nat) (sl : Value), i = .int .i64 k ∧ k ≤ n ∧ h.Perm ((List.range k).filter (firstB A n)) ∧ PMem go b0 base gh gn go hb db n (hdL A n) vs (nodesA A n) W1 (openA A n) h sl w
def P3Rel (f b0 base gh gn go hb db n : Nat) (A : Arcs) (vs : List Value) (W1 : World) (O ms F h1 : List Nat) (u pv : Value) (i : Value) (w : World) : Prop := ∃ (k : Nat) (h : List Nat) (sl : Value), i = .int .i64 k ∧ k ≤ F.length ∧ h.Perm (h1 ++ F.take k) ∧ PMem f b0 base gh gn go hb db n (hdL A n) vs (nodesA A n) W1 O h sl w ∧ PRow w base vs pv ms ∧ OwnI w base u (zi F)
def PartsPost (A : Arcs) (n : Nat) (w : World) (e : Ending) (w' : World) : Prop := ∃ u, e = .returned u ∧ OwnL w' w.heap.size u ((partsOf A n).map zi) ∧ Below w.heap.size w w'
theorem PartsPost.mk {A : Arcs} {n : Nat} {w w' : World} {e : Ending} (u : Value) (h1 : e = .returned u) (h2 : OwnL w' w.heap.size u ((partsOf A n).map zi)) (h3 : Below w.heap.size w w') : PartsPost A n w e w' := ⟨u, h1, h2, h3⟩
theorem PState.done {b0 base gh gn go hb db n : Nat} {A : Arcs} {vs : List Value} {W1 w0 w : World} {D ms O h : List Nat} {sl pv : Value} (S : PState b0 base gh gn go hb db n A vs W1 D ms O h sl pv w) (hA : ∀ a ∈ A, a.1 < n ∧ a.2 < n) (h0 : h = []) (hn : n ≤ 900) (hb0 : w0.heap.size ≤ base) : OwnL w w0.heap.size pv ((partsOf A n).map zi) := by
  have hP : (nodesA A n).length = n := addA_length _ _
  have h1 := S.p.lists S.m.d.p hP (fun m hm => (S.ms m hm).1) (fun m => Nat.le_trans (addA_len _ _ _) (by simp [byHead]; omega))
  subst h0
  have h2 := S.t.done S.r hA
  rw [← h2, List.map_map]
  have h3 : (ms.map fun m => zi ((nodesA A n).getD m [])) = ms.map (zi ∘ partOf A n) := List.map_congr_left fun m hm => by rw [nodesA_get (S.ms m hm).1 (S.ms m hm).2]; rfl
  rw [h3] at h1
  obtain ⟨us, h4, h5⟩ := h1
  exact ⟨us, row_base h4 hb0, h5⟩
theorem prow_slice {w : World} {base : Nat} {vs : List Value} {pv : Value} {ms : List Nat} (h : PRow w base vs pv ms) : ∃ A cap, pv = .slice A ms.length cap := by
  rcases h.2 with ⟨hv, h0⟩ | ⟨g, cap, cur, hv, _⟩
  · exact ⟨none, 0, by rw [hv, h0]⟩
  · exact ⟨_, cap, hv⟩
theorem Rdy.perm {A : Arcs} {n : Nat} {D h h' O : List Nat} (R : Rdy A n D h O) (hp : h'.Perm h) : Rdy A n D h' O := ⟨R.lis, hp.nodup_iff.2 R.nd, fun x => by rw [hp.mem_iff]; exact R.iff x, R.op⟩
theorem Rdy.len {A : Arcs} {n : Nat} {D h O : List Nat} (R : Rdy A n D h O) : h.length ≤ n := nodup_le n h R.nd (fun x hx => ((R.iff x).1 hx).1)
theorem PMem.split {b0 base gh gn go hb db n : Nat} {H O O' h : List Nat} {vs : List Value} {P : List (List Nat)} {W1 w w6 : World} {sl u : Value} {l : List Int} (M : PMem go b0 base gh gn go hb db n H vs P W1 O h sl w) (M6 : PMem go b0 base gh gn go hb db n H vs P W1 O' h sl w6) (hu : OwnI w w6.heap.size u l) :
    ∃ f, (∀ k, u.ownBlock = some k → k = f) ∧ PMem f b0 base gh gn go hb db n H vs P W1 O h sl w := by
  cases e : u.ownBlock with
  | none => exact ⟨go, (fun k hk => by cases hk), M⟩
  | some k =>
    have h1 := World.ownsRow.lt hu k e
    refine ⟨k, fun j hj => by injection hj with hj; exact hj.symm, M.focus ⟨h1.2, fun e2 => ?_, fun e2 => ?_⟩⟩
    · have h2 : hb < w6.heap.size := by
        have h3 : w6.heap[hb]? = some (.cells #[sl] 65 (0, 0)) := M6.hp.bx
        exact (Array.getElem?_eq_some_iff.1 h3).1
      omega
    · have h2 := (World.ownsRow.lt M6.hp.own k e2).2
      omega
theorem PMem.start {w3 w4 : World} {gh gn go n : Nat} {H O : List Nat} {vs : List Value} {P : List (List Nat)} (D : DivAt w4 w3.heap.size gh gn go n H vs P O) (hb : Below w3.heap.size w3 w4) :
    PMem go w3.heap.size (w4.heap.size + 1) gh gn go (w4.heap.size + 1 + 1) w4.heap.size n H vs P w3 O [] (.slice (some ⟨w4.heap.size + 1, 0, none⟩) 0 0) (((w4.alloc (.cells #[.slice (some ⟨gh, 0, none⟩) n n, .slice (some ⟨gn, 0, none⟩) n n, .slice (some ⟨go, 0, none⟩) n n] 62)).alloc (.cells #[] 3)).alloc (.cells #[.slice (some ⟨w4.heap.size + 1, 0, none⟩) 0 0] 65)) := by
  have hl := D.lows
  have hgo := hl.2.2.1
  have k1 := below_new w4 (.cells #[.slice (some ⟨gh, 0, none⟩) n n, .slice (some ⟨gn, 0, none⟩) n n, .slice (some ⟨go, 0, none⟩) n n] 62)
  have k2 := below_new (w4.alloc (.cells #[.slice (some ⟨gh, 0, none⟩) n n, .slice (some ⟨gn, 0, none⟩) n n, .slice (some ⟨go, 0, none⟩) n n] 62)) (.cells #[] 3)
  have k3 := below_new ((w4.alloc (.cells #[.slice (some ⟨gh, 0, none⟩) n n, .slice (some ⟨gn, 0, none⟩) n n, .slice (some ⟨go, 0, none⟩) n n] 62)).alloc (.cells #[] 3)) (.cells #[.slice (some ⟨w4.heap.size + 1, 0, none⟩) 0 0] 65)
  have hs := hb.size
  refine ⟨((D.kept k1).kept k2).kept k3, ⟨by have := hl.1; omega, by have := hl.2.1; omega, by omega, fun i v k h1 h2 => by have := hl.2.2.2 i v k h1 h2; omega⟩, by omega, blk_alloc (blk_alloc (Blk.new w4 _ _) _) _, by omega, ⟨by omega, ?_, ?_, ⟨by simp; omega, by omega, fun e => by injection e with e; have e' : w4.heap.size + 1 = go := e; omega⟩⟩, fun k h0 hk => by simp at hk, by simp, hb.trans (((k1.mono hs).trans (k2.mono (by simp; omega))).trans (k3.mono (by simp; omega))), by omega⟩
  · have := Blk.new ((w4.alloc (.cells #[.slice (some ⟨gh, 0, none⟩) n n, .slice (some ⟨gn, 0, none⟩) n n, .slice (some ⟨go, 0, none⟩) n n] 62)).alloc (.cells #[] 3)) 65 #[.slice (some ⟨w4.heap.size + 1, 0, none⟩) 0 0]
    have h3 : ((w4.alloc (.cells #[.slice (some ⟨gh, 0, none⟩) n n, .slice (some ⟨gn, 0, none⟩) n n, .slice (some ⟨go, 0, none⟩) n n] 62)).alloc (.cells #[] 3)).heap.size = w4.heap.size + 1 + 1 := by simp
    rw [h3] at this
    exact this
  · have h1 := Blk.new (w4.alloc (.cells #[.slice (some ⟨gh, 0, none⟩) n n, .slice (some ⟨gn, 0, none⟩) n n, .slice (some ⟨go, 0, none⟩) n n] 62)) 3 #[]
    have h2 := blk_alloc h1 (.cells #[.slice (some ⟨w4.heap.size + 1, 0, none⟩) 0 0] 65)
    have h3 : (w4.alloc (.cells #[.slice (some ⟨gh, 0, none⟩) n n, .slice (some ⟨gn, 0, none⟩) n n, .slice (some ⟨go, 0, none⟩) n n] 62)).heap.size = w4.heap.size + 1 := by simp
    rw [h3] at h2
    exact ⟨rfl, .inr ⟨w4.heap.size + 1, 0, #[], rfl, Nat.le_refl _, h2, Nat.le_refl _, by decide, rfl, rfl⟩⟩
theorem succ_nodesA {A : Arcs} {n : Nat} : Succ n (nodesA A n) := succ_addA fun a ha => by
  obtain ⟨v, hv, rfl⟩ := List.mem_map.1 ha
  have hvn := List.mem_range.1 hv
  refine ⟨?_, hvn⟩
  show (hdL A n).getD v 0 < n
  rw [show (hdL A n).getD v 0 = hd A n v from getD_hd A n v hvn]
  exact (hd_mem hvn).1
end Go.Proofs.YtmnhnighlgpjmaaGreat
