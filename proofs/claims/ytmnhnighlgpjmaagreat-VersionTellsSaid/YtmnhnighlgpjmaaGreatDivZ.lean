/-
  What divide makes.
  What divide counts and collects.
  The counts of divide and settle, and what is open.
  What the rounds of Parts keep.
  A node is laid to its head's nodes.
  Divide's rows are the parts.
  Parts' first heap.
-/
import Derived.Test.YtmnhnighlgpjmaaGreatSet
import Derived.Test.YtmnhnighlgpjmaaGreatHeads
namespace Go.Proofs.YtmnhnighlgpjmaaGreat
set_option linter.unusedVariables false
set_option linter.unusedSimpArgs false
open Go.RowKit

theorem mk_nest (X : World) (base n g : Nat) {Z : Array Value} (hZ : Z = (List.replicate n (Value.slice none 0 0)).toArray) (hb : base ≤ X.heap.size) (hg : X.heap.size = g) : Nest (X.alloc (.cells Z 33)) base g (List.replicate n (.slice none 0 0)) ((List.replicate n ([] : List Nat)).map zi) := by
  subst hZ; subst hg
  refine ⟨by simp, hb, heap_alloc_new X _, fun i v l h1 h2 => ?_, fun i j u v k h1 _ h3 _ => ?_⟩
  · simp [List.getElem?_replicate, zi] at h1 h2
    rw [← h1.2, h2.2]
    exact OwnI.nil _ _
  · simp [List.getElem?_replicate] at h1
    rw [← h1.2] at h3
    simp [Value.ownBlock] at h3
theorem mk_own (X : World) (base n g : Nat) {Z : Array Value} (hZ : Z = (List.replicate n (Value.int .i64 0)).toArray) (hb : base ≤ X.heap.size) (hg : X.heap.size = g) (hn : n ≤ 900) : OwnI (X.alloc (.cells Z 3)) base (.slice (some ⟨g, 0, none⟩) n n) (zi (List.replicate n 0)) := by
  subst hZ; subst hg
  have e : (zi (List.replicate n 0)).length = n := by rw [zi_length, List.length_replicate]
  refine ⟨?_, .inr ⟨X.heap.size, n, _, by rw [e], hb, heap_alloc_new X _, by rw [e]; exact Nat.le_refl _, by unfold maxLen; omega, by simp, ?_⟩⟩
  · rw [iv_length]; omega
  · rw [e]
    simp [iv, zi]
theorem own_alloc {X : World} {base : Nat} {v : Value} {l : List Int} (h : OwnI X base v l) (o : Obj) : OwnI (X.alloc o) base v l := h.below (below_new X o)
theorem own_drew {X : World} {base : Nat} {v : Value} {l : List Int} (h : OwnI X base v l) : OwnI X.drew base v l := h
theorem nest_alloc {X : World} {base g : Nat} {vs : List Value} {L : List (List Int)} (h : Nest X base g vs L) (o : Obj) : Nest (X.alloc o) base g vs L := h.below (below_new X o)
theorem nest_drew {X : World} {base g : Nat} {vs : List Value} {L : List (List Int)} (h : Nest X base g vs L) : Nest X.drew base g vs L := ⟨h.len, h.hb, h.blk, h.row, h.apart⟩
theorem blk_alloc {X : World} {g : Nat} {t : TypeId} {cs : Array Value} (h : Blk X g t cs) (o : Obj) : Blk (X.alloc o) g t cs := h.below (below_new X o) h.lt
theorem blk_drew {X : World} {g : Nat} {t : TypeId} {cs : Array Value} (h : Blk X g t cs) : Blk X.drew g t cs := h
theorem blk_mk (X : World) (g : Nat) (t : TypeId) (cs : Array Value) (hg : X.heap.size = g) : Blk (X.alloc (.cells cs t)) g t cs := by subst hg; exact Blk.new X t cs
theorem blk_set {X : World} {g i : Nat} {t : TypeId} {cs : Array Value} (h : Blk X g t cs) (v : Value) : Blk (X.setCell ⟨g, i, none⟩ v) g t (cs.setIfInBounds i v) := by
  unfold Blk
  rw [setCell_eq_setRow X g i cs t (0, 0) v h]
  exact setRow_heap X g cs _ t (0, 0) h
/-- What divide begins with. -/
structure DivSt (w : World) (gb gh gn go n : Nat) (H : List Nat) (vs : List Value) (P : List (List Nat)) (O : List Nat) (W : World) : Prop where
  at_ : DivAt W w.heap.size gh gn go n H vs P O
  hb : ∀ k, k = gh ∨ k = gn ∨ k = go ∨ (∃ (i : Nat) (v : Value), vs[i]? = some v ∧ v.ownBlock = some k) → k ≠ gb
  nh : ∀ (i : Nat) (v : Value) (k : Nat), vs[i]? = some v → v.ownBlock = some k → k ≠ gh
  gbb : w.heap.size ≤ gb
  box : Blk W gb 62 #[.slice (some ⟨gh, 0, none⟩) n n, .slice (some ⟨gn, 0, none⟩) n n, .slice (some ⟨go, 0, none⟩) n n]
  below : Below w.heap.size w W
theorem div_made {w F : World} {gb gh gn go n : Nat} {H : List Nat} (hB : Blk F gb 62 #[.slice none 0 0, .slice none 0 0, .slice none 0 0])
    (h1 : OwnI F w.heap.size (.slice (some ⟨gh, 0, none⟩) n n) (zi H)) (h2 : Nest F w.heap.size gn (List.replicate n (.slice none 0 0)) ((List.replicate n ([] : List Nat)).map zi)) (h3 : OwnI F w.heap.size (.slice (some ⟨go, 0, none⟩) n n) (zi (List.replicate n 0)))
    (hne : gh ≠ go) (hbl : Below w.heap.size w F) (hgb : w.heap.size ≤ gb) :
    DivSt w gb gh gn go n H (List.replicate n (.slice none 0 0)) (List.replicate n []) (List.replicate n 0) (((F.setCell ⟨gb, 0, none⟩ (.slice (some ⟨gh, 0, none⟩) n n)).setCell ⟨gb, 1, none⟩ (.slice (some ⟨gn, 0, none⟩) n n)).setCell ⟨gb, 2, none⟩ (.slice (some ⟨go, 0, none⟩) n n)) := by
  have hg := ((grown_set F gb 0 (.slice (some ⟨gh, 0, none⟩) n n)).trans (grown_set _ gb 1 (.slice (some ⟨gn, 0, none⟩) n n))).trans (grown_set _ gb 2 (.slice (some ⟨go, 0, none⟩) n n))
  have n1 := not_blk h1 hB (by decide)
  have n3 := not_blk h3 hB (by decide)
  have n2 : gn ≠ gb := fun e => by
    have a1 := h2.blk
    have a2 : F.heap[gb]? = some (.cells #[.slice none 0 0, .slice none 0 0, .slice none 0 0] 62 (0, 0)) := hB
    rw [e, a2] at a1
    injection a1 with a1
    injection a1 with _ a1
    exact absurd a1 (by decide)
  have nil : ∀ (i : Nat) (v : Value) (k : Nat), (List.replicate n (Value.slice none 0 0))[i]? = some v → v.ownBlock = some k → False := fun i v k e1 e2 => by
    simp [List.getElem?_replicate] at e1
    rw [← e1.2] at e2
    simp [Value.ownBlock] at e2
  have m1 : gh ≠ gb := fun e => n1 (by rw [e]; rfl)
  have m3 : go ≠ gb := fun e => n3 (by rw [e]; rfl)
  refine ⟨⟨h1.kept hg (.inr (fun e => n1 e.symm)), h2.kept hg (fun e => by injection e with e; exact n2 e) (fun i v k e1 e2 => (nil i v k e1 e2).elim), h3.kept hg (.inr (fun e => n3 e.symm)), hne, fun i v k e1 e2 => (nil i v k e1 e2).elim⟩, ?_, fun i v k e1 e2 => (nil i v k e1 e2).elim, hgb, ?_, hbl.grown hg hbl.size (fun k hk => by injection hk with hk; omega)⟩
  · rintro k (rfl | rfl | rfl | ⟨i, v, e1, e2⟩)
    · exact m1
    · exact n2
    · exact m3
    · exact (nil i v k e1 e2).elim
  · exact ((blk_set (blk_set (blk_set hB _) _) _) : Blk _ gb 62 _)
theorem own_set {X : World} {base gb i g n c : Nat} {l : List Int} (h : OwnI X base (.slice (some ⟨g, 0, none⟩) n c) l) (hne : g ≠ gb) (u : Value) : OwnI (X.setCell ⟨gb, i, none⟩ u) base (.slice (some ⟨g, 0, none⟩) n c) l :=
  h.kept (grown_set X gb i u) (.inr (fun e => by simp [Value.ownBlock] at e; exact hne e))
theorem nest_set {X : World} {base gb i g n : Nat} {L : List (List Int)} (h : Nest X base g (List.replicate n (.slice none 0 0)) L) (hne : g ≠ gb) (u : Value) : Nest (X.setCell ⟨gb, i, none⟩ u) base g (List.replicate n (.slice none 0 0)) L :=
  h.kept (grown_set X gb i u) (fun e => by injection e with e; exact hne e) (fun j v k e1 e2 => by
    simp [List.getElem?_replicate] at e1
    rw [← e1.2] at e2
    simp [Value.ownBlock] at e2)
theorem own_call {X Y : World} {base : Nat} {v : Value} {l : List Int} (hb : Below X.heap.size X Y) (h : OwnI X base v l) : OwnI Y base v l := h.below hb
theorem nest_call {X Y : World} {base g : Nat} {vs : List Value} {L : List (List Int)} (hb : Below X.heap.size X Y) (h : Nest X base g vs L) : Nest Y base g vs L := h.below hb
theorem blk_call {X Y : World} {g : Nat} {t : TypeId} {cs : Array Value} (hb : Below X.heap.size X Y) (h : Blk X g t cs) : Blk Y g t cs := h.below hb h.lt
theorem blk_full {X : World} {gb : Nat} {t : TypeId} {a b c : Value} (h : Blk X gb t #[.slice none 0 0, .slice none 0 0, .slice none 0 0]) : Blk (((X.setCell ⟨gb, 0, none⟩ a).setCell ⟨gb, 1, none⟩ b).setCell ⟨gb, 2, none⟩ c) gb t #[a, b, c] := ((blk_set (blk_set (blk_set h _) _) _) : Blk _ gb t _)
theorem below_set {w X : World} {B gb i : Nat} {u : Value} (h : Below B w X) (hb : B ≤ gb) : Below B w (X.setCell ⟨gb, i, none⟩ u) := h.setCell (p := ⟨gb, i, none⟩) hb u
theorem below_call {w X Y : World} {B : Nat} (h : Below B w X) (hb : Below X.heap.size X Y) (hB : B ≤ X.heap.size) : Below B w Y := h.trans (hb.mono hB)
theorem div_mk {w F : World} {gb gh gn go n : Nat} {H : List Nat} (hB : Blk F gb 62 #[.slice (some ⟨gh, 0, none⟩) n n, .slice (some ⟨gn, 0, none⟩) n n, .slice (some ⟨go, 0, none⟩) n n])
    (h1 : OwnI F w.heap.size (.slice (some ⟨gh, 0, none⟩) n n) (zi H)) (h2 : Nest F w.heap.size gn (List.replicate n (.slice none 0 0)) ((List.replicate n ([] : List Nat)).map zi)) (h3 : OwnI F w.heap.size (.slice (some ⟨go, 0, none⟩) n n) (zi (List.replicate n 0)))
    (hne : gh ≠ go) (hbl : Below w.heap.size w F) (hgb : w.heap.size ≤ gb) :
    DivSt w gb gh gn go n H (List.replicate n (.slice none 0 0)) (List.replicate n []) (List.replicate n 0) F := by
  have n1 := not_blk h1 hB (by decide)
  have n3 := not_blk h3 hB (by decide)
  have n2 : gn ≠ gb := fun e => by
    have a1 := h2.blk
    have a2 : F.heap[gb]? = some (.cells #[.slice (some ⟨gh, 0, none⟩) n n, .slice (some ⟨gn, 0, none⟩) n n, .slice (some ⟨go, 0, none⟩) n n] 62 (0, 0)) := hB
    rw [e, a2] at a1
    injection a1 with a1
    injection a1 with _ a1
    exact absurd a1 (by decide)
  have nil : ∀ (i : Nat) (v : Value) (k : Nat), (List.replicate n (Value.slice none 0 0))[i]? = some v → v.ownBlock = some k → False := fun i v k e1 e2 => by
    simp [List.getElem?_replicate] at e1
    rw [← e1.2] at e2
    simp [Value.ownBlock] at e2
  have m1 : gh ≠ gb := fun e => n1 (by rw [e]; rfl)
  have m3 : go ≠ gb := fun e => n3 (by rw [e]; rfl)
  refine ⟨⟨h1, h2, h3, hne, fun i v k e1 e2 => (nil i v k e1 e2).elim⟩, ?_, fun i v k e1 e2 => (nil i v k e1 e2).elim, hgb, hB, hbl⟩
  rintro k (rfl | rfl | rfl | ⟨i, v, e1, e2⟩)
  · exact m1
  · exact n2
  · exact m3
  · exact (nil i v k e1 e2).elim
end Go.Proofs.YtmnhnighlgpjmaaGreat

namespace Go.Proofs.YtmnhnighlgpjmaaGreat
set_option linter.unusedVariables false
set_option linter.unusedSimpArgs false

def openL (H : List Nat) (n : Nat) (L : List (Nat × Nat)) : List Nat := (List.range n).map fun x => L.countP fun a => H.getD a.1 0 == x && H.getD a.2 0 != x
theorem openL_length (H : List Nat) (n : Nat) (L : List (Nat × Nat)) : (openL H n L).length = n := by simp [openL]
theorem openL_get (H : List Nat) (n : Nat) (L : List (Nat × Nat)) (x : Nat) (hx : x < n) : (openL H n L).getD x 0 = L.countP fun a => H.getD a.1 0 == x && H.getD a.2 0 != x := by
  unfold openL
  rw [List.getD_eq_getElem?_getD, List.getElem?_map, List.getElem?_range hx]; rfl
theorem openL_nil (H : List Nat) (n : Nat) : openL H n [] = List.replicate n 0 := by
  apply List.ext_getElem
  · simp [openL]
  · intro i h1 h2; simp [openL]
theorem getD_ext {l m : List Nat} (hl : l.length = m.length) (h : ∀ x, x < l.length → l.getD x 0 = m.getD x 0) : l = m := by
  apply List.ext_getElem hl
  intro i h1 h2
  have := h i h1
  rw [List.getD_eq_getElem?_getD, List.getElem?_eq_getElem h1, List.getD_eq_getElem?_getD, List.getElem?_eq_getElem h2] at this
  exact this
theorem openL_in {H : List Nat} {n : Nat} {L : List (Nat × Nat)} {v w : Nat} (h : H.getD w 0 = H.getD v 0) : openL H n (L ++ [(v, w)]) = openL H n L := by
  apply getD_ext (by rw [openL_length, openL_length])
  intro x hx
  rw [openL_length] at hx
  rw [openL_get _ _ _ _ hx, openL_get _ _ _ _ hx, List.countP_append, List.countP_singleton]
  simp only [h]
  by_cases e : H.getD v 0 = x
  · rw [e]; simp
  · simp [e]
theorem openL_out {H : List Nat} {n : Nat} {L : List (Nat × Nat)} {v w : Nat} (h : H.getD w 0 ≠ H.getD v 0) (hv : H.getD v 0 < n) : openL H n (L ++ [(v, w)]) = (openL H n L).set (H.getD v 0) ((openL H n L).getD (H.getD v 0) 0 + 1) := by
  apply getD_ext (by rw [openL_length, List.length_set, openL_length])
  intro x hx
  rw [openL_length] at hx
  rw [openL_get _ _ _ _ hx, List.countP_append, List.countP_singleton]
  by_cases e : H.getD v 0 = x
  · subst e
    rw [getD_set_self _ _ _ _ (by rw [openL_length]; exact hx), openL_get _ _ _ _ hx]
    have h2 : (H.getD w 0 != H.getD v 0) = true := by simp only [bne_iff_ne]; exact h
    simp only [h2, beq_self_eq_true, Bool.and_self, if_true]
  · rw [getD_set_ne _ _ _ _ _ e, openL_get _ _ _ _ hx]
    have h2 : (H.getD v 0 == x) = false := by simp only [beq_eq_false_iff_ne]; exact e
    simp only [h2, Bool.false_and, Bool.false_eq_true, if_false, Nat.add_zero]
theorem openL_le (H : List Nat) (n : Nat) (L : List (Nat × Nat)) (x : Nat) : (openL H n L).getD x 0 ≤ L.length := by
  by_cases hx : x < n
  · rw [openL_get _ _ _ _ hx]; exact List.countP_le_length
  · rw [List.getD_eq_getElem?_getD, List.getElem?_eq_none (by rw [openL_length]; omega)]; simp
theorem addA_get (n : Nat) (l : List (Nat × Nat)) (x : Nat) (hx : x < n) : (addA n l).getD x [] = (l.filter (fun a => a.1 == x)).map (·.2) := by
  induction l using snoc_ind with
  | h0 => simp [addA, List.getElem?_replicate, hx]
  | h1 l a ih =>
    rw [addA_snoc, List.filter_append, List.map_append, ← ih]
    by_cases e : a.1 = x
    · have h2 : (a.1 == x) = true := by simp [e]
      rw [e]
      rw [List.getD_eq_getElem?_getD, List.getElem?_set_self (by rw [addA_length]; exact hx)]
      simp [h2, List.filter_cons]
    · have h2 : (a.1 == x) = false := by simp [e]
      rw [List.getD_eq_getElem?_getD, List.getElem?_set_ne e, ← List.getD_eq_getElem?_getD]
      simp [h2, List.filter_cons]
/-- The nodes by their heads. -/
def byHead (H : List Nat) (k : Nat) : List (Nat × Nat) := (List.range k).map fun v => (H.getD v 0, v)
theorem byHead_zero (H : List Nat) : byHead H 0 = [] := rfl
theorem byHead_succ (H : List Nat) (k : Nat) : byHead H (k + 1) = byHead H k ++ [(H.getD k 0, k)] := by simp [byHead, List.range_succ]
theorem byHead_get (H : List Nat) (n k x : Nat) (hx : x < n) : (addA n (byHead H k)).getD x [] = (List.range k).filter (fun v => H.getD v 0 == x) := by
  rw [addA_get n _ x hx]
  unfold byHead
  rw [List.filter_map, List.map_map]
  simp [Function.comp_def]
end Go.Proofs.YtmnhnighlgpjmaaGreat

namespace Go.Proofs.YtmnhnighlgpjmaaGreat
set_option linter.unusedVariables false
set_option linter.unusedSimpArgs false

theorem pairs_count (N : List (List Nat)) (v w : Nat) : (pairs N).count (v, w) = (N.getD v []).count w := by
  unfold pairs
  have key : ∀ m, ((List.range m).flatMap fun u => (N.getD u []).map fun x => (u, x)).count (v, w) = if v < m then (N.getD v []).count w else 0 := by
    intro m
    induction m with
    | zero => simp
    | succ m ih =>
      rw [List.range_succ, List.flatMap_append, List.count_append, ih]
      simp only [List.flatMap_cons, List.flatMap_nil, List.append_nil]
      by_cases e : v = m
      · subst e
        rw [if_neg (by omega), if_pos (by omega)]
        have : ∀ l : List Nat, (l.map fun x => (v, x)).count (v, w) = l.count w := by
          intro l
          induction l with
          | nil => rfl
          | cons a l ih => rw [List.map_cons, List.count_cons, List.count_cons, ih]; simp
        rw [this]; omega
      · have : ∀ l : List Nat, (l.map fun x => (m, x)).count (v, w) = 0 := by
          intro l
          rw [List.count_eq_zero]
          intro h
          obtain ⟨x, _, h2⟩ := List.mem_map.1 h
          injection h2 with h2 _
          exact e h2.symm
        rw [this]
        by_cases e2 : v < m
        · rw [if_pos e2, if_pos (by omega)]; rfl
        · rw [if_neg e2, if_neg (by omega)]
  rw [key]
  by_cases e : v < N.length
  · rw [if_pos e]
  · rw [if_neg e, List.getD_eq_getElem?_getD, List.getElem?_eq_none (by omega)]; simp
theorem pairs_perm {A : List (Nat × Nat)} {n : Nat} (hA : ∀ a ∈ A, a.1 < n ∧ a.2 < n) : (pairs (nextOf n A)).Perm A := by
  rw [List.perm_iff_count]
  rintro ⟨v, w⟩
  rw [pairs_count, nextOf_get, (srt_perm _).count_eq]
  by_cases e : v < n
  · exact addA_count n A v w e
  · rw [List.getD_eq_getElem?_getD, List.getElem?_eq_none (by rw [addA_length]; omega)]
    have : A.count (v, w) = 0 := List.count_eq_zero.2 (fun h => e (hA _ h).1)
    rw [this]; simp
theorem countP_or {α : Type} (p q r : α → Bool) (h : ∀ a, r a = (p a || q a)) (hd : ∀ a, ¬ (p a = true ∧ q a = true)) (L : List α) : L.countP r = L.countP p + L.countP q := by
  induction L with
  | nil => rfl
  | cons a L ih =>
    rw [List.countP_cons, List.countP_cons, List.countP_cons, ih, h a]
    have := hd a
    cases hp : p a <;> cases hq : q a <;> simp_all <;> omega
theorem sx_count (H : List Nat) (n : Nat) (L : List (Nat × Nat)) (x : Nat) : ∀ P : List Nat, P.Nodup → (∀ w ∈ P, w < n) → (SX H (addA n (L.map swp)) P).count x = L.countP fun a => P.contains a.2 && H.getD a.1 0 == x := by
  intro P
  induction P with
  | nil => intro _ _; simp [SX]
  | cons w P ih =>
    intro nd hn
    have nd2 := List.nodup_cons.1 nd
    have e : SX H (addA n (L.map swp)) (w :: P) = ((addA n (L.map swp)).getD w []).map (fun v => H.getD v 0) ++ SX H (addA n (L.map swp)) P := by simp [SX]
    rw [e, List.count_append, ih nd2.2 (fun y hy => hn y (by simp [hy])), addA_get n _ w (hn w (by simp))]
    have e2 : ((((L.map swp).filter (fun a => a.1 == w)).map (·.2)).map (fun v => H.getD v 0)).count x = L.countP fun a => a.2 == w && H.getD a.1 0 == x := by
      clear e ih nd nd2 hn
      induction L with
      | nil => rfl
      | cons a L ih =>
        rw [List.countP_cons, ← ih]
        simp only [List.map_cons, swp, List.filter_cons]
        by_cases h1 : a.2 = w
        · simp only [h1, beq_self_eq_true, if_true, List.map_cons, List.count_cons, Bool.true_and]
        · have : (a.2 == w) = false := by simp [h1]
          simp [this]
    rw [e2]
    refine (countP_or _ _ _ (fun a => ?_) (fun a => ?_) L).symm
    · simp only [List.contains_cons]
      cases a.2 == w <;> cases P.contains a.2 <;> simp
    · rintro ⟨h1, h2⟩
      simp only [Bool.and_eq_true, beq_iff_eq, List.contains_eq_mem, decide_eq_true_iff] at h1 h2
      exact nd2.1 (h1.1 ▸ h2.1)
theorem getD_hd (A : Arcs) (n x : Nat) (hx : x < n) : ((List.range n).map (hd A n)).getD x 0 = hd A n x := by
  rw [List.getD_eq_getElem?_getD, List.getElem?_map, List.getElem?_range hx]; rfl
theorem countP_congr' {α : Type} {p q : α → Bool} {L : List α} (h : ∀ a ∈ L, p a = q a) : L.countP p = L.countP q := List.countP_congr (fun a ha => by rw [h a ha])
/-- What divide counts is what is open at the beginning. -/
theorem openL_open {A : Arcs} {n x : Nat} (hA : ∀ a ∈ A, a.1 < n ∧ a.2 < n) (hx : x < n) : (openL ((List.range n).map (hd A n)) n (pairs (nextOf n A))).getD x 0 = openOf A n [] x := by
  rw [openL_get _ _ _ _ hx, (pairs_perm hA).countP_eq]
  unfold openOf
  refine countP_congr' (fun a ha => ?_)
  have h := hA a ha
  rw [getD_hd A n _ h.1, getD_hd A n _ h.2]; simp
/-- What settle takes away is what is no longer open. -/
theorem open_settle {A : Arcs} {n h x : Nat} {D : List Nat} (hA : ∀ a ∈ A, a.1 < n ∧ a.2 < n) (hh : h < n) (hhd : hd A n h = h) (hx : x ≠ h) (hD : ∀ y ∈ partOf A n h, y ∉ D) :
    openOf A n D x = openOf A n (D ++ partOf A n h) x + (SX ((List.range n).map (hd A n)) (addA n ((pairs (nextOf n A)).map swp)) (partOf A n h)).count x := by
  rw [sx_count _ n _ x _ ((partOf_asc A n h).imp (fun h => by omega)) (fun w hw => (mem_partOf.1 hw).1), (pairs_perm hA).countP_eq]
  unfold openOf
  have e : A.countP (fun a => (partOf A n h).contains a.2 && ((List.range n).map (hd A n)).getD a.1 0 == x) = A.countP (fun a => (partOf A n h).contains a.2 && hd A n a.1 == x) :=
    countP_congr' (fun a ha => by rw [getD_hd A n _ (hA a ha).1])
  rw [e]
  have e3 : A.countP (fun a => hd A n a.1 == x && hd A n a.2 != x && !D.contains a.2) = A.countP (fun a => (hd A n a.1 == x && hd A n a.2 != x && !(D ++ partOf A n h).contains a.2) || ((partOf A n h).contains a.2 && hd A n a.1 == x)) := by
    refine countP_congr' (fun a ha => ?_)
    have ha2 := (hA a ha).2
    by_cases hm : a.2 ∈ partOf A n h
    · have hd2 : hd A n a.2 = h := by rw [← hhd]; exact ((hd_iff ha2 hh).2 ⟨(mem_partOf.1 hm).2.2, (mem_partOf.1 hm).2.1⟩)
      have h1 : (D.contains a.2) = false := by simp; exact hD _ hm
      have h2 : ((partOf A n h).contains a.2) = true := by simp; exact hm
      have h3 : (hd A n a.2 != x) = true := by simp only [bne_iff_ne, hd2]; exact fun h => hx h.symm
      have h4 : ((D ++ partOf A n h).contains a.2) = true := by simp; exact .inr hm
      rw [h1, h2, h3, h4]; simp
    · have h2 : ((partOf A n h).contains a.2) = false := by simp; exact hm
      have h4 : ((D ++ partOf A n h).contains a.2) = D.contains a.2 := by
        rw [Bool.eq_iff_iff]; simp; exact fun h => absurd h hm
      rw [h2, h4]; simp
  rw [e3]
  refine countP_or _ _ _ (fun a => rfl) (fun a => ?_) A
  rintro ⟨h1, h2⟩
  simp only [Bool.and_eq_true, Bool.not_eq_true', List.contains_eq_mem, decide_eq_true_iff, decide_eq_false_iff_not, List.mem_append, not_or] at h1 h2
  exact h1.2.2 h2.1
end Go.Proofs.YtmnhnighlgpjmaaGreat

namespace Go.Proofs.YtmnhnighlgpjmaaGreat
set_option linter.unusedVariables false
set_option linter.unusedSimpArgs false

def hdL (A : Arcs) (n : Nat) : List Nat := (List.range n).map (hd A n)
def backA (A : Arcs) (n : Nat) : List (List Nat) := addA n ((pairs (nextOf n A)).map swp)
theorem sx_mem {A : Arcs} {n m x : Nat} (hA : ∀ a ∈ A, a.1 < n ∧ a.2 < n) : x ∈ SX (hdL A n) (backA A n) (partOf A n m) → ∃ a b, (a, b) ∈ A ∧ b ∈ partOf A n m ∧ hd A n a = x := by
  intro h
  unfold SX at h
  obtain ⟨b, hb, h2⟩ := List.mem_flatMap.1 h
  obtain ⟨a, ha, h3⟩ := List.mem_map.1 h2
  have hbn := (mem_partOf.1 hb).1
  have h4 : (a, b) ∈ A := by
    rw [backA, addA_mem n _ b a hbn] at ha
    obtain ⟨c, hc, he⟩ := List.mem_map.1 ha
    obtain ⟨c1, c2⟩ := c
    unfold swp at he
    injection he with e1 e2
    simp only at e1 e2
    subst e1; subst e2
    exact (pairs_perm hA).mem_iff.1 hc
  refine ⟨a, b, h4, hb, ?_⟩
  rw [← h3]; exact (getD_hd A n a (hA _ h4).1).symm
/-- The state of Parts between two rounds. -/
structure Rdy (A : Arcs) (n : Nat) (D h O : List Nat) : Prop where
  lis : Listed A n D
  nd : h.Nodup
  iff : ∀ x, x ∈ h ↔ Next A n D x
  op : ∀ x, x < n → x ∉ D → O.getD x 0 = openOf A n D x
theorem part_out {A : Arcs} {n m : Nat} {D : List Nat} (hL : Listed A n D) (hm : m < n) (hmD : m ∉ D) : ∀ y ∈ partOf A n m, y ∉ D := fun y hy hd => hmD (hL.down y m hd hm (mem_partOf.1 hy).2.2)
theorem sx_out {A : Arcs} {n m x : Nat} {D : List Nat} (hA : ∀ a ∈ A, a.1 < n ∧ a.2 < n) (hL : Listed A n D) (hm : m < n) (hmD : m ∉ D) (hx : x ∈ SX (hdL A n) (backA A n) (partOf A n m)) : x < n ∧ x ∉ D ∧ hd A n x = x := by
  obtain ⟨a, b, h1, h2, h3⟩ := sx_mem hA hx
  have ha := (hA _ h1).1
  have hb := (hA _ h1).2
  have h4 := hd_mem (A := A) ha
  rw [h3] at h4
  refine ⟨h4.1, fun hd => ?_, by rw [← h3]; exact hd_idem ha⟩
  exact part_out hL hm hmD b h2 (hL.down x b hd hb (h4.2.2.trans (.one h1)))
theorem Rdy.cnt {A : Arcs} {n m : Nat} {D h O : List Nat} (R : Rdy A n D h O) (hA : ∀ a ∈ A, a.1 < n ∧ a.2 < n) (hm : Next A n D m) : ∀ x, x ≠ m → (SX (hdL A n) (backA A n) (partOf A n m)).count x ≤ O.getD x 0 := fun x hx => by
  by_cases hs : x ∈ SX (hdL A n) (backA A n) (partOf A n m)
  · have h1 := sx_out hA R.lis hm.1 hm.2.2.1 hs
    rw [R.op x h1.1 h1.2.1, open_settle hA hm.1 hm.2.1 hx (part_out R.lis hm.1 hm.2.2.1)]
    unfold hdL backA
    omega
  · rw [List.count_eq_zero.2 hs]; omega
/-- The least of the heap is listed: what settle leaves is the next state. -/
theorem Rdy.next {A : Arcs} {n m : Nat} {D h h' O : List Nat} (R : Rdy A n D h O) (hA : ∀ a ∈ A, a.1 < n ∧ a.2 < n) (hp : (m :: h').Perm h) :
    Rdy A n (D ++ partOf A n m) (h' ++ (foldS m O (SX (hdL A n) (backA A n) (partOf A n m))).2) (foldS m O (SX (hdL A n) (backA A n) (partOf A n m))).1 := by
  have hmh : m ∈ h := hp.mem_iff.1 (by simp)
  have hm := (R.iff m).1 hmh
  have hnd := List.nodup_cons.1 (hp.nodup_iff.2 R.nd)
  have F := foldS_free m O _ (R.cnt hA hm)
  have hout := part_out R.lis hm.1 hm.2.2.1
  have hos : ∀ x, x ≠ m → openOf A n D x = openOf A n (D ++ partOf A n m) x + (SX (hdL A n) (backA A n) (partOf A n m)).count x := fun x hx => open_settle hA hm.1 hm.2.1 hx hout
  have hself : m ∈ partOf A n m := mem_partOf.2 ⟨hm.1, eqv.refl A m⟩
  have hpart : ∀ x, x < n → hd A n x = x → x ∈ partOf A n m → x = m := fun x hx he hx2 => by
    have := (hd_iff hx hm.1).2 ⟨(mem_partOf.1 hx2).2.2, (mem_partOf.1 hx2).2.1⟩
    rw [he, hm.2.1] at this; exact this
  have hrest : ∀ x, x ∈ h' → x ≠ m ∧ Next A n D x := fun x hx => ⟨fun e => hnd.1 (e ▸ hx), (R.iff x).1 (hp.mem_iff.1 (List.mem_cons_of_mem _ hx))⟩
  refine ⟨R.lis.snoc hm.1 (find_next hA R.lis hm), ?_, fun x => ?_, fun x hx hxD => ?_⟩
  · rw [List.nodup_append]
    refine ⟨hnd.2, F.nd, fun a ha b hb e => ?_⟩
    subst e
    have h1 := (hrest a ha).2
    have h2 := (F.iff a).1 hb
    rw [R.op a h1.1 h1.2.2.1] at h2
    have h3 : 0 < (SX (hdL A n) (backA A n) (partOf A n m)).count a := List.count_pos_iff.2 h2.2.1
    have h4 := hos a h2.1
    have h5 := h1.2.2.2
    omega
  · rw [List.mem_append]
    constructor
    · rintro (hx | hx)
      · obtain ⟨h1, h2⟩ := hrest x hx
        refine ⟨h2.1, h2.2.1, ?_, ?_⟩
        · rw [List.mem_append]
          rintro (h3 | h3)
          · exact h2.2.2.1 h3
          · exact h1 (hpart x h2.1 h2.2.1 h3)
        · have h3 := hos x h1
          have h4 := h2.2.2.2
          omega
      · have h1 := (F.iff x).1 hx
        have h2 := sx_out hA R.lis hm.1 hm.2.2.1 h1.2.1
        refine ⟨h2.1, h2.2.2, ?_, ?_⟩
        · rw [List.mem_append]
          rintro (h3 | h3)
          · exact h2.2.1 h3
          · exact h1.1 (hpart x h2.1 h2.2.2 h3)
        · have h3 := hos x h1.1
          have h4 := h1.2.2
          rw [R.op x h2.1 h2.2.1] at h4
          omega
    · intro hx
      have hxm : x ≠ m := fun e => hx.2.2.1 (by rw [e, List.mem_append]; exact .inr hself)
      have hxD : x ∉ D := fun h => hx.2.2.1 (List.mem_append_left _ h)
      have h3 := hos x hxm
      have h4 := hx.2.2.2
      by_cases h5 : openOf A n D x = 0
      · have h6 : x ∈ h := (R.iff x).2 ⟨hx.1, hx.2.1, hxD, h5⟩
        rcases List.mem_cons.1 (hp.mem_iff.2 h6) with h7 | h7
        · exact absurd h7 hxm
        · exact .inl h7
      · refine .inr ((F.iff x).2 ⟨hxm, ?_, ?_⟩)
        · exact List.count_pos_iff.1 (by omega)
        · rw [R.op x hx.1 hxD]; omega
  · have hxm : x ≠ m := fun e => hxD (by rw [e, List.mem_append]; exact .inr hself)
    rw [foldS_get, if_neg hxm, R.op x hx (fun h => hxD (List.mem_append_left _ h)), hos x hxm]
    omega
/-- What is still to come. -/
structure ToCome (A : Arcs) (n : Nat) (D : List Nat) (L : List (List Nat)) : Prop where
  ex : ∃ k, partsOf A n = L ++ partsGo A n k D ∧ n ≤ D.length + k
theorem ToCome.start (A : Arcs) (n : Nat) : ToCome A n [] [] := ⟨⟨n, rfl, by simp⟩⟩
theorem ToCome.next {A : Arcs} {n m : Nat} {D h h' O : List Nat} {L : List (List Nat)} (T : ToCome A n D L) (R : Rdy A n D h O) (hA : ∀ a ∈ A, a.1 < n ∧ a.2 < n) (hp : (m :: h').Perm h) (hmin : ∀ x ∈ h, m ≤ x) : ToCome A n (D ++ partOf A n m) (L ++ [partOf A n m]) := by
  obtain ⟨k, h1, h2⟩ := T.ex
  have hm := (R.iff m).1 (hp.mem_iff.1 (by simp))
  have hf := next_find hA R.lis hm (fun x hx => hmin x ((R.iff x).2 hx))
  have hself : m ∈ partOf A n m := mem_partOf.2 ⟨hm.1, eqv.refl A m⟩
  have hlen := List.length_pos_of_mem hself
  cases k with
  | zero => exact absurd (R.lis.full (by omega) hm.1) hm.2.2.1
  | succ k =>
    refine ⟨⟨k, ?_, by rw [List.length_append]; omega⟩⟩
    rw [h1]
    show L ++ partsGo A n (k + 1) D = _
    rw [partsGo, hf]
    simp
theorem ToCome.done {A : Arcs} {n : Nat} {D O : List Nat} {L : List (List Nat)} (T : ToCome A n D L) (R : Rdy A n D [] O) (hA : ∀ a ∈ A, a.1 < n ∧ a.2 < n) : L = partsOf A n := by
  obtain ⟨k, h1, h2⟩ := T.ex
  have hf := next_none hA R.lis (fun x hx => by have := (R.iff x).2 hx; simp at this)
  rw [h1]
  cases k with
  | zero => simp [partsGo]
  | succ k => rw [partsGo, hf]; simp
end Go.Proofs.YtmnhnighlgpjmaaGreat

namespace Go.Proofs.YtmnhnighlgpjmaaGreat
set_option linter.unusedVariables false
set_option linter.unusedSimpArgs false
open Go.RowKit

theorem set_own {vs : List Value} {h : Nat} {v' v : Value} {i k : Nat} (hi : (vs.set h v')[i]? = some v) (hk : v.ownBlock = some k) : v'.ownBlock = some k ∨ ∃ (j : Nat) (u : Value), vs[j]? = some u ∧ u.ownBlock = some k := by
  by_cases e : h = i
  · subst e
    by_cases hl : h < vs.length
    · rw [List.getElem?_set_self hl] at hi
      injection hi with hi
      subst hi; exact .inl hk
    · rw [List.getElem?_eq_none (by rw [List.length_set]; omega)] at hi; cases hi
  · rw [List.getElem?_set_ne e] at hi
    exact .inr ⟨i, v, hi, hk⟩
theorem DivSt.push {w W w2 : World} {gb gh gn go n : Nat} {H O : List Nat} {vs : List Value} {l : List (Nat × Nat)} {u v' : Value} (D : DivSt w gb gh gn go n H vs (addA n l) O W) (a : Nat × Nat) (ha : a.1 < n) (hu : vs[a.1]? = some u) (o : Obj)
    (hown' : w2.ownsRow w.heap.size 3 1 v' (((addA n l).getD a.1 []).length + 1) (iv (zi ((addA n l).getD a.1 [])) ++ [.int .i64 (a.2 : Int)])) (hgrow : (W.alloc o).grownBy w2 u.ownBlock) (hat : v'.ownBlock = u.ownBlock ∨ v'.ownBlock = some (W.alloc o).heap.size) :
    w2.cell? ⟨gn, a.1, none⟩ = some u ∧ w2.frozen? ⟨gn, a.1, none⟩ = false ∧ w2.cell? ⟨gb, 1, none⟩ = some (.slice (some ⟨gn, 0, none⟩) n n) ∧ DivSt w gb gh gn go n H (vs.set a.1 v') (addA n (l ++ [a])) O (w2.setCell ⟨gn, a.1, none⟩ v') := by
  obtain ⟨n1, n2, n3, n4⟩ := D.at_.p.added a ha hu o hown' hgrow hat D.below D.below.size
  have hho := World.ownsRow.lt D.at_.h gh rfl
  have hgo := World.ownsRow.lt D.at_.o go rfl
  have hgb := D.box.lt
  have hsz : (W.alloc o).heap.size = W.heap.size + 1 := by simp
  have hset := grown_set w2 gn a.1 v'
  have own : ∀ {g : Nat} {L : List Int}, OwnI W w.heap.size (.slice (some ⟨g, 0, none⟩) n n) L → (∀ k, u.ownBlock = some k → k ≠ g) → OwnI (w2.setCell ⟨gn, a.1, none⟩ v') w.heap.size (.slice (some ⟨g, 0, none⟩) n n) L := fun {g L} h1 h2 => by
    have h3 := (h1.below (below_new W o)).kept hgrow (by
      right
      intro e
      exact h2 g (e.symm.trans rfl) rfl)
    exact h3.kept hset (.inr (fun e => D.at_.p.not_own h1 e.symm))
  have fin : ∀ k, v'.ownBlock = some k → u.ownBlock = some k ∨ k = W.heap.size + 1 := fun k hk => by
    rcases hat with h1 | h1
    · exact .inl (h1 ▸ hk)
    · rw [h1, hsz] at hk; injection hk with hk; exact .inr hk.symm
  have hub : ∀ k, u.ownBlock = some k → k ≠ gb := fun k hk => D.hb k (.inr (.inr (.inr ⟨a.1, u, hu, hk⟩)))
  have b1 : Blk w2 gb 62 #[.slice (some ⟨gh, 0, none⟩) n n, .slice (some ⟨gn, 0, none⟩) n n, .slice (some ⟨go, 0, none⟩) n n] := (blk_alloc D.box o).grown hgrow (fun e => hub gb e.symm rfl)
  have hgnb : gn ≠ gb := D.hb gn (.inr (.inl rfl))
  refine ⟨n1, n2, b1.cell 1, ⟨⟨own D.at_.h (fun k hk => D.nh a.1 u k hu hk), n3, own D.at_.o (fun k hk => D.at_.po a.1 u k hu hk), D.at_.ho, fun i v k h1 h2 => ?_⟩, ?_, fun i v k h1 h2 => ?_, D.gbb, b1.grown hset (fun e => by injection e with e; exact hgnb e.symm), n4⟩⟩
  · rcases set_own h1 h2 with h3 | ⟨j, x, h3, h4⟩
    · rcases fin k h3 with h5 | h5
      · exact D.at_.po a.1 u k hu h5
      · omega
    · exact D.at_.po j x k h3 h4
  · rintro k (rfl | rfl | rfl | ⟨i, v, h1, h2⟩)
    · exact D.hb _ (.inl rfl)
    · exact hgnb
    · exact D.hb _ (.inr (.inr (.inl rfl)))
    · rcases set_own h1 h2 with h3 | ⟨j, x, h3, h4⟩
      · rcases fin k h3 with h5 | h5
        · exact hub k h5
        · omega
      · exact D.hb k (.inr (.inr (.inr ⟨j, x, h3, h4⟩)))
  · rcases set_own h1 h2 with h3 | ⟨j, x, h3, h4⟩
    · rcases fin k h3 with h5 | h5
      · exact D.nh a.1 u k hu h5
      · omega
    · exact D.nh j x k h3 h4
theorem DivSt.open {w W : World} {gb gh gn go n : Nat} {H O : List Nat} {vs : List Value} {P : List (List Nat)} (D : DivSt w gb gh gn go n H vs P O W) (x z : Nat) (hx : x < O.length) : DivSt w gb gh gn go n H vs P (O.set x z) (W.setCell ⟨go, x, none⟩ (.int .i64 (z : Int))) := by
  have hg := grown_set W go x (.int .i64 (z : Int))
  have hgo := World.ownsRow.lt D.at_.o go rfl
  have h1 := D.at_.o.store x (by rw [zi_length]; exact hx) (z : Int)
  rw [← zi_set] at h1
  have hgb : go ≠ gb := D.hb go (.inr (.inr (.inl rfl)))
  exact ⟨D.at_.turn hg h1, D.hb, D.nh, D.gbb, D.box.grown hg (fun e => by injection e with e; exact hgb e.symm), D.below.setCell (p := ⟨go, x, none⟩) hgo.1 _⟩
theorem DivAt.other {W W' : World} {base base' gh gn go n r : Nat} {H O : List Nat} {vs : List Value} {P : List (List Nat)} (D : DivAt W base gh gn go n H vs P O) (hg : W.grownBy W' (some r)) (hr : r < base) (hb : base' ≤ base) : DivAt W' base' gh gn go n H vs P O := by
  have ne : ∀ {v : Value} {l : List Int}, OwnI W base v l → v.ownBlock ≠ some r := fun h e => by
    have := (World.ownsRow.lt h r e).1; omega
  have hN : Nest W' base gn vs (P.map zi) := D.p.kept hg (fun e => by injection e with e; have := D.p.hb; omega) (fun i v k e1 e2 e3 => by
    injection e3 with e3
    have hi : i < (P.map zi).length := by rw [← D.p.len]; exact (List.getElem?_eq_some_iff.1 e1).1
    exact ne (D.p.row i v _ e1 (List.getElem?_eq_getElem hi)) (e3 ▸ e2))
  exact ⟨(D.h.kept hg (.inr (ne D.h))).base hb, ⟨hN.len, Nat.le_trans hb hN.hb, hN.blk, fun i v l h1 h2 => (hN.row i v l h1 h2).base hb, hN.apart⟩, (D.o.kept hg (.inr (ne D.o))).base hb, D.ho, D.po⟩
def DivPost (H : List Nat) (N : List (List Nat)) (n : Nat) (w : World) (e : Ending) (w' : World) : Prop := ∃ (gh gn go : Nat) (vs : List Value), e = .returned (.agg #[.slice (some ⟨gh, 0, none⟩) n n, .slice (some ⟨gn, 0, none⟩) n n, .slice (some ⟨go, 0, none⟩) n n]) ∧ DivAt w' w.heap.size gh gn go n H vs (addA n (byHead H n)) (openL H n (pairs N)) ∧ Below w.heap.size w w'
end Go.Proofs.YtmnhnighlgpjmaaGreat

namespace Go.Proofs.YtmnhnighlgpjmaaGreat
set_option linter.unusedVariables false
set_option linter.unusedSimpArgs false

theorem nodes_head {A : Arcs} {n h : Nat} (hh : h < n) (he : hd A n h = h) : (addA n (byHead (hdL A n) n)).getD h [] = partOf A n h := by
  rw [byHead_get _ n n h hh]
  unfold partOf
  apply List.filter_congr
  intro v hv
  have hvn := List.mem_range.1 hv
  rw [Bool.eq_iff_iff, beq_iff_eq, eqvB_iff, show (hdL A n).getD v 0 = hd A n v from getD_hd A n v hvn]
  constructor
  · intro h1
    have := (hd_iff hvn hh).1 (h1.trans he.symm)
    exact ⟨this.2, this.1⟩
  · intro h1
    rw [← he]
    exact (hd_iff hvn hh).2 ⟨h1.2, h1.1⟩
theorem nodes_other {A : Arcs} {n h : Nat} (hh : h < n) (he : hd A n h ≠ h) : (addA n (byHead (hdL A n) n)).getD h [] = [] := by
  rw [byHead_get _ n n h hh, List.filter_eq_nil_iff]
  intro v hv h1
  have hvn := List.mem_range.1 hv
  rw [beq_iff_eq, show (hdL A n).getD v 0 = hd A n v from getD_hd A n v hvn] at h1
  exact he (by rw [← h1]; exact hd_idem hvn)
theorem nodes_pos {A : Arcs} {n h : Nat} (hh : h < n) : 0 < ((addA n (byHead (hdL A n) n)).getD h []).length ↔ hd A n h = h := by
  by_cases he : hd A n h = h
  · rw [nodes_head hh he]
    exact ⟨fun _ => he, fun _ => List.length_pos_of_mem (mem_partOf.2 ⟨hh, eqv.refl A h⟩)⟩
  · rw [nodes_other hh he]; simp [he]
end Go.Proofs.YtmnhnighlgpjmaaGreat

namespace Go.Proofs.YtmnhnighlgpjmaaGreat
set_option linter.unusedVariables false
set_option linter.unusedSimpArgs false

/-- What the first loop asks of a node. -/
def firstB (A : Arcs) (n : Nat) (x : Nat) : Bool := decide (0 < ((addA n (byHead (hdL A n) n)).getD x []).length) && decide ((openL (hdL A n) n (pairs (nextOf n A))).getD x 0 = 0)
theorem Rdy.start {A : Arcs} {n : Nat} {h : List Nat} (hA : ∀ a ∈ A, a.1 < n ∧ a.2 < n) (hp : h.Perm ((List.range n).filter (firstB A n))) : Rdy A n [] h (openL (hdL A n) n (pairs (nextOf n A))) := by
  have hop : ∀ x, x < n → (openL (hdL A n) n (pairs (nextOf n A))).getD x 0 = openOf A n [] x := fun x hx => openL_open hA hx
  refine ⟨Listed.nil A n, hp.nodup_iff.2 (List.nodup_range.filter _), fun x => ?_, fun x hx _ => hop x hx⟩
  rw [hp.mem_iff, List.mem_filter, List.mem_range]
  unfold firstB Next
  simp only [Bool.and_eq_true, decide_eq_true_iff, List.not_mem_nil, not_false_iff, true_and]
  constructor
  · rintro ⟨h1, h2, h3⟩
    exact ⟨h1, (nodes_pos h1).1 h2, by rw [← hop x h1]; exact h3⟩
  · rintro ⟨h1, h2, h3⟩
    exact ⟨h1, (nodes_pos h1).2 h2, by rw [hop x h1]; exact h3⟩
theorem first_step (A : Arcs) (n k : Nat) : (List.range (k + 1)).filter (firstB A n) = (List.range k).filter (firstB A n) ++ if firstB A n k = true then [k] else [] := by
  rw [List.range_succ, List.filter_append]
  congr 1
  cases hb : firstB A n k <;> simp [List.filter_cons, hb]
end Go.Proofs.YtmnhnighlgpjmaaGreat
