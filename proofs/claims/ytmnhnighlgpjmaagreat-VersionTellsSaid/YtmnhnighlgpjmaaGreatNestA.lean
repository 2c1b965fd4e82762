/-
  Lists of successors, as mathematics.
  Appending to one row of many; the program's turned.
-/
import Derived.Test.YtmnhnighlgpjmaaGreatMathA
import Derived.Test.YtmnhnighlgpjmaaGreatMemA
namespace Go.Proofs.YtmnhnighlgpjmaaGreat
set_option linter.unusedVariables false
set_option linter.unusedSimpArgs false

/-- The lists of successors of n nodes by the arcs l, in their order. -/
def addA (n : Nat) (l : List (Nat × Nat)) : List (List Nat) := l.foldl (fun L a => L.set a.1 (L.getD a.1 [] ++ [a.2])) (List.replicate n [])
theorem addA_snoc (n : Nat) (l : List (Nat × Nat)) (a : Nat × Nat) : addA n (l ++ [a]) = (addA n l).set a.1 ((addA n l).getD a.1 [] ++ [a.2]) := by simp [addA]
theorem snoc_ind {α : Type} {p : List α → Prop} (h0 : p []) (h1 : ∀ l a, p l → p (l ++ [a])) (l : List α) : p l := by
  suffices H : ∀ k (l : List α), l.length = k → p l from H _ l rfl
  intro k
  induction k with
  | zero => intro l hl; rw [List.eq_nil_of_length_eq_zero hl]; exact h0
  | succ k ih =>
    intro l hl
    rcases List.eq_nil_or_concat l with rfl | ⟨m, x, rfl⟩
    · simp at hl
    · rw [List.concat_eq_append] at hl ⊢
      exact h1 m x (ih m (by simpa using hl))
theorem addA_length (n : Nat) (l : List (Nat × Nat)) : (addA n l).length = n := by
  induction l using snoc_ind with
  | h0 => simp [addA]
  | h1 l a ih => rw [addA_snoc, List.length_set, ih]
theorem addA_count (n : Nat) (l : List (Nat × Nat)) (v w : Nat) (hv : v < n) : ((addA n l).getD v []).count w = l.count (v, w) := by
  induction l using snoc_ind with
  | h0 => simp [addA, List.getD_eq_getElem?_getD, List.getElem?_replicate, hv]
  | h1 l a ih =>
    obtain ⟨x, y⟩ := a
    rw [addA_snoc, List.count_append]
    by_cases e : x = v
    · subst e
      rw [List.getD_eq_getElem?_getD, List.getElem?_set_self (by rw [addA_length]; exact hv), Option.getD_some, List.count_append, ih]
      congr 1
      by_cases e2 : y = w
      · subst e2; simp
      · simp [e2]
    · rw [List.getD_eq_getElem?_getD, List.getElem?_set_ne e, ← List.getD_eq_getElem?_getD, ih]
      have : List.count (v, w) [(x, y)] = 0 := by
        rw [List.count_eq_zero]; simp; intro h; exact absurd h.symm e
      omega
theorem addA_mem (n : Nat) (l : List (Nat × Nat)) (v w : Nat) (hv : v < n) : w ∈ (addA n l).getD v [] ↔ (v, w) ∈ l := by
  rw [← List.count_pos_iff, addA_count n l v w hv, List.count_pos_iff]
theorem addA_len (n : Nat) (l : List (Nat × Nat)) (v : Nat) : ((addA n l).getD v []).length ≤ l.length := by
  induction l using snoc_ind with
  | h0 => simp [addA, List.getD_eq_getElem?_getD, List.getElem?_replicate]; split <;> simp
  | h1 l a ih =>
    rw [addA_snoc, List.length_append, List.length_singleton, List.getD_eq_getElem?_getD, List.getElem?_set]
    split
    · rename_i h
      split
      · subst h; rw [Option.getD_some, List.length_append, List.length_singleton]; omega
      · simp
    · rw [← List.getD_eq_getElem?_getD]; omega
/-- The arcs that lists of successors state. -/
def pairs (N : List (List Nat)) : List (Nat × Nat) := (List.range N.length).flatMap fun v => (N.getD v []).map fun w => (v, w)
theorem mem_pairs {N : List (List Nat)} {v w : Nat} : (v, w) ∈ pairs N ↔ w ∈ N.getD v [] := by
  unfold pairs
  simp only [List.mem_flatMap, List.mem_range, List.mem_map, Prod.mk.injEq]
  constructor
  · rintro ⟨a, _, b, h1, rfl, rfl⟩; exact h1
  · intro h
    refine ⟨v, ?_, w, h, rfl, rfl⟩
    apply Classical.byContradiction
    intro h2
    rw [List.getD_eq_getElem?_getD, List.getElem?_eq_none (by omega)] at h
    simp at h
/-- The first arcs: those of the nodes below i, and k of those of i. -/
def pairsTo (N : List (List Nat)) (i k : Nat) : List (Nat × Nat) := ((List.range i).flatMap fun v => (N.getD v []).map fun w => (v, w)) ++ ((N.getD i []).take k).map fun w => (i, w)
theorem pairsTo_step (N : List (List Nat)) (i k : Nat) (h : k < (N.getD i []).length) : pairsTo N i (k + 1) = pairsTo N i k ++ [(i, (N.getD i [])[k])] := by
  unfold pairsTo
  rw [List.take_succ_eq_append_getElem h, List.map_append, ← List.append_assoc]; rfl
theorem pairsTo_next (N : List (List Nat)) (i k : Nat) (h : (N.getD i []).length ≤ k) : pairsTo N i k = pairsTo N (i + 1) 0 := by
  unfold pairsTo
  rw [List.take_of_length_le h, List.range_succ, List.flatMap_append]
  simp
theorem pairsTo_zero (N : List (List Nat)) : pairsTo N 0 0 = [] := by simp [pairsTo]
theorem pairsTo_all (N : List (List Nat)) : pairsTo N N.length 0 = pairs N := by simp [pairsTo, pairs]
theorem pairsTo_len (N : List (List Nat)) (m : Nat) (hm : ∀ l ∈ N, l.length ≤ m) (i k : Nat) (hi : i ≤ N.length) (hk : k ≤ m) : (pairsTo N i k).length ≤ i * m + m := by
  unfold pairsTo
  rw [List.length_append, List.length_map, List.length_take]
  have : ((List.range i).flatMap fun v => (N.getD v []).map fun w => (v, w)).length ≤ i * m := by
    clear hk
    induction i with
    | zero => simp
    | succ i ih =>
      rw [List.range_succ, List.flatMap_append, List.length_append]
      have h1 := ih (by omega)
      have h2 : (N.getD i []).length ≤ m := by
        rw [List.getD_eq_getElem?_getD, List.getElem?_eq_getElem (by omega)]
        exact hm _ (List.getElem_mem _)
      simp only [List.flatMap_cons, List.flatMap_nil, List.append_nil, List.length_map]
      rw [Nat.add_mul]; omega
  omega
def swp (a : Nat × Nat) : Nat × Nat := (a.2, a.1)
/-- All arcs turned round. -/
def backOf (N : List (List Nat)) : List (List Nat) := addA N.length ((pairs N).map swp)
theorem mem_backOf {N : List (List Nat)} {v w : Nat} (hw : w < N.length) : v ∈ (backOf N).getD w [] ↔ w ∈ N.getD v [] := by
  unfold backOf
  rw [addA_mem _ _ _ _ hw, List.mem_map, ← mem_pairs]
  constructor
  · rintro ⟨⟨a, b⟩, h, e⟩
    unfold swp at e
    injection e with e1 e2
    subst e1; subst e2; exact h
  · intro h; exact ⟨(v, w), h, rfl⟩
/-- The lists of successors, ascending. -/
def srt (l : List Nat) : List Nat := l.mergeSort (fun x y => decide (x ≤ y))
theorem srt_perm (l : List Nat) : (srt l).Perm l := List.mergeSort_perm _ _
theorem srt_asc (l : List Nat) : (srt l).Pairwise (· ≤ ·) := by
  have h := List.pairwise_mergeSort (le := fun x y : Nat => decide (x ≤ y)) (fun a b c h1 h2 => by simp at *; omega) (fun a b => by simp; omega) l
  exact h.imp (fun h => by simpa using h)
theorem srt_len (l : List Nat) : (srt l).length = l.length := (srt_perm l).length_eq
def nextOf (n : Nat) (A : List (Nat × Nat)) : List (List Nat) := (addA n A).map srt
theorem nextOf_length (n : Nat) (A : List (Nat × Nat)) : (nextOf n A).length = n := by simp [nextOf, addA_length]
theorem nextOf_get (n : Nat) (A : List (Nat × Nat)) (v : Nat) : (nextOf n A).getD v [] = srt ((addA n A).getD v []) := by
  unfold nextOf
  simp only [List.getD_eq_getElem?_getD, List.getElem?_map]
  cases (addA n A)[v]? with
  | none => simp [srt]
  | some l => rfl
theorem mem_nextOf {n : Nat} {A : List (Nat × Nat)} {v w : Nat} (hv : v < n) : w ∈ (nextOf n A).getD v [] ↔ (v, w) ∈ A := by
  rw [nextOf_get, (srt_perm _).mem_iff, addA_mem _ _ _ _ hv]
theorem zi_srt (l : List Nat) : (zi l).mergeSort (fun x y => decide (x ≤ y)) = zi (srt l) := by
  have h1 : ((zi l).mergeSort (fun x y => decide (x ≤ y))).Pairwise (· ≤ ·) :=
    (List.pairwise_mergeSort (le := fun x y : Int => decide (x ≤ y)) (fun a b c h1 h2 => by simp at *; omega) (fun a b => by simp; omega) (zi l)).imp (fun h => by simpa using h)
  have h2 : (zi (srt l)).Pairwise (· ≤ ·) := by
    unfold zi
    rw [List.pairwise_map]
    exact (srt_asc l).imp (fun h => by omega)
  have h3 : ((zi l).mergeSort (fun x y => decide (x ≤ y))).Perm (zi (srt l)) := (List.mergeSort_perm _ _).trans ((srt_perm l).symm.map _)
  exact h3.eq_of_pairwise (fun a b _ _ h4 h5 => by omega) h1 h2

/-- What the lists of successors are, of a graph with n nodes. -/
structure Succ (n : Nat) (N : List (List Nat)) : Prop where
  len : N.length = n
  lt : ∀ l ∈ N, ∀ w ∈ l, w < n
theorem Succ.get {n : Nat} {N : List (List Nat)} (h : Succ n N) {v : Nat} : ∀ w ∈ N.getD v [], w < n := by
  intro w hw
  rw [List.getD_eq_getElem?_getD] at hw
  cases e : N[v]? with
  | none => rw [e] at hw; simp at hw
  | some l => rw [e] at hw; exact h.lt l (List.mem_of_getElem? e) w hw
theorem succ_addA {n : Nat} {l : List (Nat × Nat)} (h : ∀ a ∈ l, a.1 < n ∧ a.2 < n) : Succ n (addA n l) := by
  refine ⟨addA_length n l, fun m hm w hw => ?_⟩
  obtain ⟨v, hv, rfl⟩ := List.getElem_of_mem hm
  have hv2 : v < n := by rw [addA_length] at hv; exact hv
  have h1 : w ∈ (addA n l).getD v [] := by rw [List.getD_eq_getElem?_getD, List.getElem?_eq_getElem hv]; exact hw
  exact (h _ ((addA_mem n l v w hv2).1 h1)).2
theorem succ_nextOf {n : Nat} {l : List (Nat × Nat)} (h : ∀ a ∈ l, a.1 < n ∧ a.2 < n) : Succ n (nextOf n l) := by
  refine ⟨nextOf_length n l, fun m hm w hw => ?_⟩
  obtain ⟨x, hx, rfl⟩ := List.mem_map.1 hm
  exact (succ_addA h).lt x hx w ((srt_perm x).mem_iff.1 hw)
theorem succ_backOf {n : Nat} {N : List (List Nat)} (h : Succ n N) : Succ n (backOf N) := by
  unfold backOf
  rw [h.len]
  refine succ_addA fun a ha => ?_
  obtain ⟨⟨v, w⟩, h1, rfl⟩ := List.mem_map.1 ha
  have h2 := mem_pairs.1 h1
  refine ⟨h.get w h2, ?_⟩
  show v < n
  rw [← h.len]
  apply Classical.byContradiction
  intro h3
  rw [List.getD_eq_getElem?_getD, List.getElem?_eq_none (by omega)] at h2
  simp at h2
end Go.Proofs.YtmnhnighlgpjmaaGreat

namespace Go.Proofs.YtmnhnighlgpjmaaGreat
set_option linter.unusedVariables false
set_option linter.unusedSimpArgs false
open Go.RowKit

theorem map_zi_get (L : List (List Nat)) (i : Nat) (h : i < L.length) : (L.map zi)[i]? = some (zi (L.getD i [])) := by
  rw [List.getElem?_map, List.getElem?_eq_getElem h, List.getD_eq_getElem?_getD, List.getElem?_eq_getElem h]; rfl
theorem addA_zi (n : Nat) (l : List (Nat × Nat)) (a : Nat × Nat) : (addA n (l ++ [a])).map zi = ((addA n l).map zi).set a.1 (zi ((addA n l).getD a.1 []) ++ [(a.2 : Int)]) := by
  rw [addA_snoc, List.map_set, zi_append]; rfl
/-- One more arc. -/
theorem Nest.added {w w0 w2 : World} {base g n : Nat} {vs : List Value} {l : List (Nat × Nat)} (h : Nest w base g vs ((addA n l).map zi)) (a : Nat × Nat) (ha : a.1 < n) {u v' : Value} (hu : vs[a.1]? = some u) (o : Obj)
    (hown' : w2.ownsRow base 3 1 v' (((addA n l).getD a.1 []).length + 1) (iv (zi ((addA n l).getD a.1 [])) ++ [.int .i64 (a.2 : Int)])) (hgrow : (w.alloc o).grownBy w2 u.ownBlock) (hat : v'.ownBlock = u.ownBlock ∨ v'.ownBlock = some (w.alloc o).heap.size)
    (hB : Below base w0 w) (hbase : base ≤ w.heap.size) :
    w2.cell? ⟨g, a.1, none⟩ = some u ∧ w2.frozen? ⟨g, a.1, none⟩ = false ∧ Nest (w2.setCell ⟨g, a.1, none⟩ v') base g (vs.set a.1 v') ((addA n (l ++ [a])).map zi) ∧ Below base w0 (w2.setCell ⟨g, a.1, none⟩ v') := by
  have hl : ((addA n l).map zi)[a.1]? = some (zi ((addA n l).getD a.1 [])) := map_zi_get _ _ (by rw [addA_length]; exact ha)
  have h1 := h.below (below_new w o)
  have hu1 := h1.row a.1 u _ hu hl
  have hgo : some g ≠ u.ownBlock := h1.not_own hu1
  have hb2 : w2.heap[g]? = some (.cells vs.toArray 33 (0, 0)) := (hgrow.block g h1.lt hgo).trans h1.blk
  refine ⟨?_, by simp [World.frozen?, hb2], ?_, ?_⟩
  · rw [cell_of_row _ _ _ _ _ _ hb2]; simpa using hu
  · rw [addA_zi]
    refine h1.push hu hl hgrow ?_ ?_
    · unfold OwnI
      rw [List.length_append, zi_length, iv_append]
      exact hown'
    · rcases hat with h5 | h5
      · exact .inl h5
      · exact .inr ⟨_, h5, Nat.le_refl _⟩
  · refine ((hB.alloc hbase o).grown hgrow (by simp; omega) (fun k hk => ?_)).setCell (p := ⟨g, a.1, none⟩) h.hb _
    exact (World.ownsRow.lt hu1 k hk).1
/-- Rows of nodes, read. -/
theorem LRow.rd {w : World} {B : Nat} {v : Value} {N : List (List Nat)} {n : Nat} (h : LRow w B v (N.map zi)) (hN : N.length = n) : ∃ A cap, v = .slice A n cap ∧
    ∀ k, k < n → ∃ b off u A2 cap2, A = some ⟨b, off, none⟩ ∧ b < B ∧ w.cell? ⟨b, off + k, none⟩ = some u ∧ u = .slice A2 (N.getD k []).length cap2 ∧ (0 < (N.getD k []).length → ∃ b2 off2, A2 = some ⟨b2, off2, none⟩ ∧ b2 < B ∧ ∀ j (h : j < (N.getD k []).length), w.cell? ⟨b2, off2 + j, none⟩ = some (.int .i64 ((N.getD k [])[j] : Nat))) := by
  obtain ⟨_, A, cap, hv, hA⟩ := h
  refine ⟨A, cap, by rw [hv, List.length_map, hN], fun k hk => ?_⟩
  have hk2 : k < (N.map zi).length := by rw [List.length_map, hN]; exact hk
  obtain ⟨b, off, h1, h2, h3⟩ := hA (by omega)
  obtain ⟨u, h4, _, A2, cap2, h5, _, _, _, h6⟩ := h3 k hk2
  have e : (N.map zi)[k]'hk2 = zi (N.getD k []) := by
    rw [List.getElem_map, List.getD_eq_getElem?_getD, List.getElem?_eq_getElem (by rw [hN]; exact hk)]; rfl
  simp only [e] at h5 h6
  rw [zi_length] at h5
  refine ⟨b, off, u, A2, cap2, h1, h2, h4, h5, fun h0 => ?_⟩
  obtain ⟨b2, off2, h7, h8, h9⟩ := h6 (by rw [zi_length]; exact h0)
  refine ⟨b2, off2, h7, h8, fun j hj => ?_⟩
  rw [h9 j (by rw [zi_length]; exact hj)]
  simp [zi]
theorem own_succ {W : World} {base : Nat} {e : TypeId} {v : Value} {k : Nat} {xs : List Value} (h : W.ownsRow base e 1 v (k + 1) xs) : ∃ g cap, v = .slice (some ⟨g, 0, none⟩) (k + 1) cap := by
  rcases h.2 with ⟨_, h0⟩ | ⟨g, cap, cur, hv, _⟩
  · omega
  · exact ⟨g, cap, hv⟩
/-- Rows of nodes that were made. -/
def NestPost (n : Nat) (L : List (List Nat)) (w : World) (e : Ending) (w' : World) : Prop := ∃ g vs, e = .returned (.slice (some ⟨g, 0, none⟩) n n) ∧ Nest w' w.heap.size g vs (L.map zi) ∧ Below w.heap.size w w'
theorem NestPost.mk {n : Nat} {L : List (List Nat)} {w w' : World} {e : Ending} (g : Nat) (vs : List Value) (h1 : e = .returned (.slice (some ⟨g, 0, none⟩) n n)) (h2 : Nest w' w.heap.size g vs (L.map zi)) (h3 : Below w.heap.size w w') : NestPost n L w e w' := ⟨g, vs, h1, h2, h3⟩
def TurnRel (N : List (List Nat)) (n g m k : Nat) (w0 : World) (i : Value) (wl : World) : Prop := ∃ (j : Nat) (vs : List Value), i = .int .i64 j ∧ j ≤ m ∧ Nest wl w0.heap.size g vs ((addA n ((pairsTo N k j).map swp)).map zi) ∧ Below w0.heap.size w0 wl
def TurnRel0 (N : List (List Nat)) (n g : Nat) (w0 : World) (i : Value) (wl : World) : Prop := ∃ (k : Nat) (vs : List Value), i = .int .i64 k ∧ k ≤ n ∧ Nest wl w0.heap.size g vs ((addA n ((pairsTo N k 0).map swp)).map zi) ∧ Below w0.heap.size w0 wl
theorem rep_zi (n : Nat) : List.replicate n ([] : List Int) = (addA n []).map zi := by simp [addA, zi]

set_option maxRecDepth 100000 in
set_option maxHeartbeats 4000000 in
theorem turnedP (v : Value) (N : List (List Nat)) (n : Nat) (w : World) (hN : Succ n N) (hn : n ≤ 1000) (hl : ∀ l ∈ N, l.length ≤ 1000) (hr : LRow w w.heap.size v (N.map zi)) :
    Calls Tryz.prog 41 #[v] w (NestPost n (backOf N) w) := by
  obtain ⟨i0, hi, hz0, hz1, hz2⟩ := info_parts infoI
  obtain ⟨A, cap, hv, hA⟩ := hr.rd hN.len
  subst hv
  obtain ⟨w1, hmk, hnest, hb1⟩ := run_mkL w n (by omega)
  rw [rep_zi] at hnest
  have HA := Lib.hid hA
  have HL : Hid (∀ k, (N.getD k []).length ≤ 1000) := fun k => by
    rw [List.getD_eq_getElem?_getD]
    cases e : N[k]? with
    | none => simp
    | some l => exact hl l (List.mem_of_getElem? e)
  have HN := Lib.hid hN
  have HLL := Lib.hid hl
  have HNE := Lib.hid hnest
  have HB1 := Lib.hid hb1
  clear hl hnest hb1 hA
  go_enter Tryz.func41, Tryz.ntmps41
  go_wp2_with fail
  clear hmk
  go_loopw [13] (fun i wl => TurnRel0 N n w.heap.size w i wl) (fun i _ => n - (intOf i).toNat)
  case atStart => exact ⟨0, _, rfl, by omega, by rw [pairsTo_zero]; exact HNE.out, HB1.out⟩
  case round =>
    obtain ⟨k, vs, rfl, hk, hne, hB⟩ := hrel
    by_cases hlt : k < n
    · obtain ⟨b, off, u, A2, cap2, rfl, hb, hu, rfl, hin⟩ := HA.out k hlt
      have c1 := (hB.cell (p := ⟨b, off + k, none⟩) hb).trans hu
      have HIN := Lib.hid hin
      have hm := HL.out k
      have HNX : Hid (∀ x ∈ N.getD k [], x < n) := HN.out.get
      obtain ⟨m, hmm⟩ : ∃ m, (N.getD k []).length = m := ⟨_, rfl⟩
      rw [hmm] at c1 hm
      have HM := Lib.hid hmm
      have HNE2 := Lib.hid hne
      have HB2 := Lib.hid hB
      clear hmm hin hne hB hu
      obtain ⟨wo, rfl⟩ : ∃ wo : World, wo = wr := ⟨_, rfl⟩
      go_wp2_with fail
      go_loopw [20] (fun i wl => TurnRel N n w.heap.size m k w i wl) (fun i _ => m - (intOf i).toNat)
      case atStart => exact ⟨0, vs, rfl, by omega, HNE2.out, HB2.out⟩
      case round =>
        obtain ⟨j, vs2, rfl, hj, hne, hB⟩ := hrel
        by_cases hlt2 : j < m
        · have hjl : j < (N.getD k []).length := by rw [HM.out]; exact hlt2
          obtain ⟨b2, off2, rfl, hb2, hc⟩ := HIN.out (by omega)
          have c2 := (hB.cell (p := ⟨b2, off2 + j, none⟩) hb2).trans (hc j hjl)
          have hx := HNX.out _ (List.getElem_mem hjl)
          have HST := Lib.hid (pairsTo_step N k j hjl)
          obtain ⟨x, hxx⟩ : ∃ x, (N.getD k [])[j] = x := ⟨_, rfl⟩
          rw [hxx] at c2 hx HST
          have hlen : (addA n ((pairsTo N k j).map swp)).length = n := addA_length _ _
          obtain ⟨u, hu1, hu2, hu3⟩ := hne.at x (by rw [List.length_map, hlen]; exact hx)
          have hown : wr.ownsRow w.heap.size 3 1 u ((addA n ((pairsTo N k j).map swp)).getD x []).length (iv (zi ((addA n ((pairsTo N k j).map swp)).getD x []))) := by
            have e : ((addA n ((pairsTo N k j).map swp)).map zi)[x]'(by rw [List.length_map, hlen]; exact hx) = zi ((addA n ((pairsTo N k j).map swp)).getD x []) := by
              rw [List.getElem_map, List.getD_eq_getElem?_getD, List.getElem?_eq_getElem (by rw [hlen]; exact hx)]; rfl
            rw [e] at hu3
            unfold OwnI at hu3
            rw [zi_length] at hu3
            exact hu3
          have hle : ((addA n ((pairsTo N k j).map swp)).getD x []).length ≤ 2000000 := by
            have h1 := addA_len n ((pairsTo N k j).map swp) x
            have h2 := pairsTo_len N 1000 HLL.out k j (by rw [HN.out.len]; omega) (by omega)
            rw [List.length_map] at h1
            omega
          have HAD := Lib.hid (fun (v' : Value) (w2 : World) h1 h2 h3 => hne.added (w0 := w) (x, k) hx hu1 (.cells #[.int .i64 (k : Int)] 3) (v' := v') (w2 := w2) h1 h2 h3 hB hB.size)
          have HSP : Hid ((pairsTo N k (j + 1)).map swp = (pairsTo N k j).map swp ++ [(x, k)]) := by
            show _ = _
            rw [HST.out, List.map_append]; rfl
          have hbs := hB.size
          have HOW := Lib.hid hown
          have l1 : ((addA n ((pairsTo N k j).map swp)).getD x []).length + 1 ≤ maxLen := by unfold maxLen; omega
          have l2 : (((addA n ((pairsTo N k j).map swp)).getD x []).length + 1) * 8 ≤ 140737488355328 := by omega
          have l3 : w.heap.size ≤ (wr.alloc (.cells #[.int .i64 (k : Int)] 3)).heap.size := by simp; omega
          have HL1 := Lib.hid l1
          have HL2 := Lib.hid l2
          have HL3 := Lib.hid l3
          clear hxx hlen hown hne hB hc hu1 hu3 l1 l2 l3 hle
          go_wp2_with (at_builtin; refine wpList_append_own_at _ rfl _ _ 33 rfl w.heap.size 3 i0 (.int .i64 0) 1 8 Tryz.underlying33 hi hz0 hz1 hz2 rfl (by decide) _ _ _ rfl (HOW.out.alloc _) ⟨wr.heap.size, 0, none⟩ 1 1 [.int .i64 (k : Int)] rfl rfl (cell_one_new _ _ _) (by simp [Value.oneCell']) HL1.out HL2.out HL3.out ?_; intro v' w2 hown' hgrow _ hat; obtain ⟨g', cap', rfl⟩ := own_succ hown'; obtain ⟨hc2, hf2, hn2, hb3⟩ := HAD.out _ w2 hown' hgrow hat; have HN2 := Lib.hid hn2; have HB3 := Lib.hid hb3; clear hown' hgrow hat hn2 hb3)
          go_roundw
          case rel => exact ⟨j + 1, _, by go_num, by omega, by rw [HSP.out]; exact HN2.out, HB3.out⟩
          case measure => simp [intOf]; omega
        · have hjm : j = m := by omega
          have HNE3 : Hid (Nest wr w.heap.size w.heap.size vs2 ((addA n ((pairsTo N (k + 1) 0).map swp)).map zi)) := by
            rw [pairsTo_next N k j (by rw [HM.out]; omega)] at hne; exact hne
          have HB3 := Lib.hid hB
          have hge : ¬ ((j : Int) < m) := by omega
          clear hjm hne hB
          go_wp2_with fail
          go_roundw
          case rel => exact ⟨k + 1, vs2, by go_num, by omega, HNE3.out, HB3.out⟩
          case measure => simp [intOf]; omega
    · have hkn : k = n := by omega
      have HF : Hid (Nest wr w.heap.size w.heap.size vs ((backOf N).map zi)) := by
        have e := HN.out.len
        rw [hkn] at hne
        unfold backOf
        rw [e, ← pairsTo_all, e]
        exact hne
      have HB3 := Lib.hid hB
      have hge : ¬ ((k : Int) < n) := by omega
      clear hkn hne hB
      go_wp2_with fail
      go_ret
      exact NestPost.mk _ vs rfl HF.out HB3.out
end Go.Proofs.YtmnhnighlgpjmaaGreat
