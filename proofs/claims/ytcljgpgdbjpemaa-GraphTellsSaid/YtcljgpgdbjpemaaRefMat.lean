/-
  The reference's Parts, its first loop: the table of what is reached; what its rounds hold.
-/
import Derived.Test.YtcljgpgdbjpemaaRefZ
namespace Go.Proofs.Ytcljgpgdbjpemaa
set_option linter.unusedVariables false
set_option linter.unusedSimpArgs false
open Go.RowKit

def MRow (A : Arcs) (N : Nat) (w : World) (base : Nat) (s : Value) (k : Nat) : Prop := ∃ us : List Value, w.ownsRow base 64 1 s k us ∧ ∀ i, i < k → ∃ (gv cap : Nat) (R : List Bool), us[i]? = some (.slice (some ⟨gv, 0, none⟩) N cap) ∧ OwnB w base (.slice (some ⟨gv, 0, none⟩) N cap) R ∧ R.length = N ∧ ∀ x, x < N → R.getD x false = reachB A i x
theorem MRow.below {A : Arcs} {N : Nat} {w w' : World} {base k : Nat} {s : Value} (h : MRow A N w base s k) (hb : Below w.heap.size w w') : MRow A N w' base s k := by
  obtain ⟨us, h1, h2⟩ := h
  refine ⟨us, h1.kept (grown_below hb none) (by cases s.ownBlock <;> simp), fun i hi => ?_⟩
  obtain ⟨gv, cap, R, h3, h4, h5, h6⟩ := h2 i hi
  exact ⟨gv, cap, R, h3, h4.below hb, h5, h6⟩
theorem ownB_blk {w : World} {base N cap g : Nat} {R : List Bool} (h : OwnB w base (.slice (some ⟨g, 0, none⟩) N cap) R) : ∃ cs, Blk w g 4 cs := by
  rcases h.2 with ⟨hv, _⟩ | ⟨g2, c2, cur, hv, _, hg, _⟩
  · cases hv
  · injection hv with e1 _ _
    injection e1 with e1
    injection e1 with e1 _ _
    subst e1
    exact ⟨cur, hg⟩
theorem MRow.push {A : Arcs} {N : Nat} {w w' : World} {base k gv cap : Nat} {s s' : Value} {R : List Bool} {us : List Value} (h1 : w.ownsRow base 64 1 s k us) (h2 : ∀ i, i < k → ∃ (gv cap : Nat) (R : List Bool), us[i]? = some (.slice (some ⟨gv, 0, none⟩) N cap) ∧ OwnB w base (.slice (some ⟨gv, 0, none⟩) N cap) R ∧ R.length = N ∧ ∀ x, x < N → R.getD x false = reachB A i x) (hR : OwnB w base (.slice (some ⟨gv, 0, none⟩) N cap) R) (hl : R.length = N) (hr : ∀ x, x < N → R.getD x false = reachB A k x)
    (hg : w.grownBy w' s.ownBlock) (ho : w'.ownsRow base 64 1 s' (k + 1) (us ++ [.slice (some ⟨gv, 0, none⟩) N cap])) : MRow A N w' base s' (k + 1) := by
  have hul : us.length = k := by have := h1.1; omega
  have hkeep : ∀ {g c : Nat} {R : List Bool}, OwnB w base (.slice (some ⟨g, 0, none⟩) N c) R → OwnB w' base (.slice (some ⟨g, 0, none⟩) N c) R := fun {g c R} hR => by
    obtain ⟨cs, hb⟩ := ownB_blk hR
    exact hR.kept hg (.inr (own_not_blk h1 hb (by decide)))
  refine ⟨_, ho, fun i hi => ?_⟩
  by_cases e : i < k
  · obtain ⟨g, c, R2, h3, h4, h5, h6⟩ := h2 i e
    exact ⟨g, c, R2, by rw [List.getElem?_append_left (by omega)]; exact h3, hkeep h4, h5, h6⟩
  · have : i = k := by omega
    subst this
    exact ⟨gv, cap, R, by rw [List.getElem?_append_right (by omega), hul, Nat.sub_self]; rfl, hkeep hR, hl, hr⟩
/-- The table, read. -/
structure MTab (A : Arcs) (N : Nat) (w : World) (s : Value) : Prop where
  rd : ∀ i, i < N → ∃ gr gv c cap, s = .slice (some ⟨gr, 0, none⟩) N c ∧ gr < w.heap.size ∧ gv < w.heap.size ∧ w.cell? ⟨gr, i, none⟩ = some (.slice (some ⟨gv, 0, none⟩) N cap) ∧ ∀ x, x < N → w.cell? ⟨gv, x, none⟩ = some (.bool (reachB A i x))
theorem MRow.tab {A : Arcs} {N : Nat} {w : World} {base : Nat} {s : Value} (h : MRow A N w base s N) : MTab A N w s := by
  obtain ⟨us, h1, h2⟩ := h
  refine ⟨fun i hi => ?_⟩
  obtain ⟨gv, cap, R, h3, h4, h5, h6⟩ := h2 i hi
  obtain ⟨n, hn⟩ : ∃ n, N = n + 1 := ⟨N - 1, by omega⟩
  have h1' := h1
  rw [hn] at h1'
  obtain ⟨gr, c, hs⟩ := own_succ h1'
  rw [← hn] at hs
  subst hs
  refine ⟨gr, gv, c, cap, rfl, (World.ownsRow.lt h1 gr rfl).2, (World.ownsRow.lt h4 gv rfl).2, ?_, fun x hx => ?_⟩
  · rw [World.ownsRow.cellAt h1 i (by omega), h3]
  · rw [ownB_cell2 h4 h5 x hx, h6 x hx]
def M1Rel (A : Arcs) (N : Nat) (w : World) (s i : Value) (wl : World) : Prop := ∃ k : Nat, i = .int .i64 k ∧ k ≤ N ∧ MRow A N wl w.heap.size s k ∧ Below w.heap.size w wl
/-- The parts that are listed, each a row of the call's own. -/
def ORow (w : World) (base top : Nat) (ov : Value) (L : List (List Nat)) : Prop := ∃ us : List Value, w.ownsRow base 23 1 ov L.length us ∧ ∀ (i : Nat) (u : Value) (l : List Nat), us[i]? = some u → L[i]? = some l → OwnI w base u (zi l) ∧ ∀ k, u.ownBlock = some k → k < top
theorem ORow.nil (w : World) (base top : Nat) : ORow w base top (.slice none 0 0) [] := ⟨[], World.ownsRow_nil _ _ _ _, fun i u l h => by simp at h⟩
theorem ORow.top {w : World} {base top top' : Nat} {ov : Value} {L : List (List Nat)} (h : ORow w base top ov L) (ht : top ≤ top') : ORow w base top' ov L := by
  obtain ⟨us, h1, h2⟩ := h
  exact ⟨us, h1, fun i u l a b => ⟨(h2 i u l a b).1, fun k hk => Nat.lt_of_lt_of_le ((h2 i u l a b).2 k hk) ht⟩⟩
/-- A block is turned that is none of theirs. -/
theorem ORow.far {w w' : World} {base top : Nat} {ov : Value} {L : List (List Nat)} {r : Option Nat} (h : ORow w base top ov L) (hg : w.grownBy w' r) (h1 : ov.ownBlock = none ∨ ov.ownBlock ≠ r) (h2 : ∀ (u : Value) (l : List Nat), OwnI w base u (zi l) → (∀ k, u.ownBlock = some k → k < top) → u.ownBlock = none ∨ u.ownBlock ≠ r) : ORow w' base top ov L := by
  obtain ⟨us, h3, h4⟩ := h
  refine ⟨us, h3.kept hg h1, fun i u l a b => ?_⟩
  obtain ⟨h5, h6⟩ := h4 i u l a b
  exact ⟨h5.kept hg (h2 u l h5 h6), h6⟩
theorem ORow.bools {w : World} {base top g j N cap : Nat} {ov : Value} {L : List (List Nat)} {T : List Bool} (h : ORow w base top ov L) (hT : OwnB w base (.slice (some ⟨g, 0, none⟩) N cap) T) (v : Value) : ORow (w.setCell ⟨g, j, none⟩ v) base top ov L := by
  obtain ⟨cs, hb⟩ := ownB_blk hT
  have h0 := h
  obtain ⟨us, h3, _⟩ := h0
  exact h.far (grown_set w g j v) (.inr (fun e => own_not_blk h3 hb (by decide) e.symm)) (fun u l ho _ => .inr (fun e => not_blk ho hb (by decide) e.symm))
theorem ORow.below {w w' : World} {base top : Nat} {ov : Value} {L : List (List Nat)} (h : ORow w base top ov L) (hb : Below w.heap.size w w') : ORow w' base top ov L :=
  h.far (grown_below hb none) (by cases ov.ownBlock <;> simp) (fun u l _ _ => by cases u.ownBlock <;> simp)
theorem ORow.part {w w' : World} {base top bp : Nat} {ov pv : Value} {L : List (List Nat)} {p : List Int} (h : ORow w base top ov L) (hp : OwnI w bp pv p) (ht : top ≤ bp) (hg : w.grownBy w' pv.ownBlock) : ORow w' base top ov L := by
  have h0 := h
  obtain ⟨us, h3, _⟩ := h0
  refine h.far hg ?_ (fun u l _ hk => ?_)
  · cases hpo : pv.ownBlock with
    | none => cases ov.ownBlock <;> simp
    | some k =>
      right
      intro e
      have h5 : ∃ cs, Blk w k 3 cs := by
        rcases hp.form with ⟨rfl, _⟩ | ⟨g, c, cur, rfl, _, h6, _⟩
        · simp [Value.ownBlock] at hpo
        · simp [Value.ownBlock] at hpo
          subst hpo
          exact ⟨cur, h6⟩
      obtain ⟨cs, hb⟩ := h5
      exact own_not_blk h3 hb (by decide) e.symm
  · cases hu : u.ownBlock with
    | none => exact .inl rfl
    | some k =>
      right
      intro e
      have h5 := hk k hu
      have h6 := (World.ownsRow.lt hp k e.symm).1
      omega
theorem int_blk {w : World} {base k : Nat} {u : Value} {l : List Int} (h : OwnI w base u l) (hk : u.ownBlock = some k) : ∃ cs, Blk w k 3 cs := by
  rcases h.form with ⟨rfl, _⟩ | ⟨g, c, cur, rfl, _, h6, _⟩
  · simp [Value.ownBlock] at hk
  · simp [Value.ownBlock] at hk
    subst hk
    exact ⟨cur, h6⟩
theorem ORow.push {w w' : World} {base top bp : Nat} {ov v' pv : Value} {L : List (List Nat)} {p : List Nat} {us : List Value} (h3 : w.ownsRow base 23 1 ov L.length us) (h4 : ∀ (i : Nat) (u : Value) (l : List Nat), us[i]? = some u → L[i]? = some l → OwnI w base u (zi l) ∧ ∀ k, u.ownBlock = some k → k < top)
    (hp : OwnI w bp pv (zi p)) (hbp : base ≤ bp) (hg : w.grownBy w' ov.ownBlock) (ho : w'.ownsRow base 23 1 v' (L.length + 1) (us ++ [pv])) : ORow w' base w'.heap.size v' (L ++ [p]) := by
  have hul : us.length = L.length := by have := h3.1; omega
  have hkeep : ∀ {u : Value} {b : Nat} {l : List Int}, OwnI w b u l → OwnI w' b u l := fun {u b l} hu => hu.kept hg (by
    cases hk : u.ownBlock with
    | none => exact .inl rfl
    | some k =>
      obtain ⟨cs, hb⟩ := int_blk hu hk
      exact .inr (own_not_blk h3 hb (by decide)))
  refine ⟨us ++ [pv], by rw [List.length_append]; exact ho, fun i u l hu hl => ?_⟩
  have key : OwnI w' base u (zi l) := by
    by_cases e : i < L.length
    · rw [List.getElem?_append_left (by omega)] at hu hl
      exact hkeep (h4 i u l hu hl).1
    · have hi := (List.getElem?_eq_some_iff.1 hl).1
      rw [List.length_append, List.length_singleton] at hi
      have e2 : i = L.length := by omega
      subst e2
      rw [List.getElem?_append_right (by omega), hul, Nat.sub_self] at hu
      rw [List.getElem?_append_right (Nat.le_refl _), Nat.sub_self] at hl
      simp at hu hl
      subst hu; subst hl
      exact (hkeep hp).base hbp
  exact ⟨key, fun k hk => (World.ownsRow.lt key k hk).2⟩
theorem ORow.lists {w : World} {base top : Nat} {ov : Value} {L : List (List Nat)} (h : ORow w base top ov L) (h1 : L.length ≤ 1000000) (h2 : ∀ l ∈ L, l.length ≤ 1000000) : LRow w w.heap.size ov (L.map zi) := by
  obtain ⟨us, h3, h4⟩ := h
  have : OwnL w base ov (L.map zi) := ⟨us, by rw [List.length_map]; exact h3, fun i u l hu hl => by
    rw [List.getElem?_map] at hl
    cases e : L[i]? with
    | none => rw [e] at hl; simp at hl
    | some m =>
      rw [e] at hl
      simp only [Option.map_some, Option.some.injEq] at hl
      subst hl
      exact (h4 i u m hu e).1.irow (by rw [zi_length]; exact h2 m (List.mem_of_getElem? e))⟩
  exact this.lrow (by rw [List.length_map]; exact h1)
def rb (A : Arcs) (D : List Nat) (v k : Nat) : Bool := !D.contains v && (List.range k).all fun w => !reachB A v w || reachB A w v || D.contains w
theorem rb_all (A : Arcs) (n : Nat) (D : List Nat) (v : Nat) : rb A D v n = readyB A n D v := rfl
theorem rb_succ (A : Arcs) (D : List Nat) (v k : Nat) : rb A D v (k + 1) = (rb A D v k && (!reachB A v k || reachB A k v || D.contains k)) := by
  unfold rb
  rw [List.range_succ, List.all_append]
  simp [Bool.and_assoc]
theorem rb_mono {A : Arcs} {D : List Nat} {v k : Nat} : ∀ m, k ≤ m → rb A D v m = true → rb A D v k = true
  | 0, h, h2 => by have : k = 0 := by omega
                   rw [this]; exact h2
  | m + 1, h, h2 => by
    by_cases e : k = m + 1
    · rw [e]; exact h2
    · rw [rb_succ, Bool.and_eq_true] at h2
      exact rb_mono m (by omega) h2.1
def pt (A : Arcs) (v k : Nat) : List Nat := (List.range k).filter fun w => eqvB A v w
theorem pt_succ (A : Arcs) (v k : Nat) : pt A v (k + 1) = pt A v k ++ if (reachB A v k && reachB A k v) = true then [k] else [] := by
  unfold pt
  rw [List.range_succ, List.filter_append]
  congr 1
  by_cases h : (reachB A v k && reachB A k v) = true
  · rw [if_pos h]; simp [List.filter_cons, eqvB, h]
  · rw [if_neg h]; simp [List.filter_cons, eqvB, h]
theorem pt_len (A : Arcs) (v k : Nat) : (pt A v k).length ≤ k := by
  have := List.length_filter_le (fun w => eqvB A v w) (List.range k)
  rw [List.length_range] at this; exact this
/-- The state of the reference's Parts at the head of its second loop. -/
structure QSt (A : Arcs) (N g : Nat) (w7 : World) (D : List Nat) (L : List (List Nat)) (T : List Bool) (ov : Value) (wl : World) : Prop where
  lis : Listed A N D
  tc : ToCome A N D L
  tl : T.length = N
  td : ∀ x, x < N → T.getD x false = D.contains x
  ot : OwnB wl w7.heap.size (.slice (some ⟨g, 0, none⟩) N N) T
  oo : ORow wl w7.heap.size wl.heap.size ov L
  bel : Below w7.heap.size w7 wl
theorem sub_len : ∀ (l D : List Nat), l.Nodup → (∀ x ∈ l, x ∈ D) → l.length ≤ D.length
  | [], _, _, _ => by simp
  | x :: l, D, h, hs => by
    have hn := List.nodup_cons.1 h
    have hx := hs x (by simp)
    have ih := sub_len l (D.erase x) hn.2 (fun y hy => (List.mem_erase_of_ne (fun (e : y = x) => hn.1 (e ▸ hy))).2 (hs y (List.mem_cons_of_mem _ hy)))
    rw [List.length_erase_of_mem hx] at ih
    have := List.length_pos_of_mem hx
    rw [List.length_cons]
    omega
theorem QSt.find {A : Arcs} {N g : Nat} {w7 wl : World} {D : List Nat} {L : List (List Nat)} {T : List Bool} {ov : Value} (h : QSt A N g w7 D L T ov wl) (hl : D.length < N) : ∃ v, v < N ∧ (List.range N).find? (readyB A N D) = some v ∧ readyB A N D v = true ∧ ∀ x, x < v → readyB A N D x = false := by
  have hex : ∃ v, v < N ∧ v ∉ D := by
    apply Classical.byContradiction
    intro hn
    have : (List.range N).length ≤ D.length := by
      have h2 : ∀ x ∈ List.range N, x ∈ D := fun x hx => Classical.byContradiction fun h3 => hn ⟨x, List.mem_range.1 hx, h3⟩
      exact sub_len _ _ List.nodup_range h2
    rw [List.length_range] at this
    omega
  obtain ⟨v, hv, hvD⟩ := hex
  obtain ⟨w, hw, hr⟩ := h.lis.more _ v (Nat.le_refl _) hv hvD
  cases hf : (List.range N).find? (readyB A N D) with
  | none => exact absurd hr (by have := List.find?_eq_none.1 hf w (List.mem_range.2 hw); simpa using this)
  | some m =>
    obtain ⟨h1, h2⟩ := find_ready hf
    refine ⟨m, h1, rfl, h2, fun x hx => ?_⟩
    obtain ⟨_, l1, l2, he, hb⟩ := List.find?_eq_some_iff_append.1 hf
    have hlen : l1.length = m := by
      have h3 : (List.range N)[l1.length]? = some m := by rw [he, List.getElem?_append_right (Nat.le_refl _), Nat.sub_self]; rfl
      rw [List.getElem?_range] at h3
      · injection h3
      · have h4 := congrArg List.length he
        simp at h4; omega
    have h5 : x ∈ l1 := by
      have h6 : (List.range N)[x]? = some x := by rw [List.getElem?_range (by omega)]
      rw [he, List.getElem?_append_left (by omega)] at h6
      exact List.mem_of_getElem? h6
    have := hb x h5
    simpa using this
theorem ToCome.step {A : Arcs} {N v : Nat} {D : List Nat} {L : List (List Nat)} (T : ToCome A N D L) (hl : D.length < N) (hf : (List.range N).find? (readyB A N D) = some v) : ToCome A N (D ++ partOf A N v) (L ++ [partOf A N v]) := by
  obtain ⟨k, h1, h2⟩ := T.ex
  have hlen : 0 < (partOf A N v).length := List.length_pos_of_mem (mem_partOf.2 ⟨(find_ready hf).1, eqv.refl A v⟩)
  cases k with
  | zero => omega
  | succ k =>
    refine ⟨⟨k, ?_, by rw [List.length_append]; omega⟩⟩
    rw [h1]
    show L ++ partsGo A N (k + 1) D = _
    rw [partsGo, hf]
    simp
theorem ToCome.over {A : Arcs} {N : Nat} {D : List Nat} {L : List (List Nat)} (T : ToCome A N D L) (hD : Listed A N D) (hl : N ≤ D.length) : L = partsOf A N := by
  obtain ⟨k, h1, h2⟩ := T.ex
  rw [h1]
  cases k with
  | zero => simp [partsGo]
  | succ k =>
    have hf : (List.range N).find? (readyB A N D) = none := by
      rw [List.find?_eq_none]
      intro x hx h
      exact ((readyB_iff A N D x).1 (by simpa using h)).1 (hD.full hl (List.mem_range.1 hx))
    rw [partsGo, hf]; simp
end Go.Proofs.Ytcljgpgdbjpemaa
