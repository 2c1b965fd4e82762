/-
  Layer 8: what Order's list is.
-/
import Derived.Test.YtmnhnighlgpjmaaGreatVLawZ
namespace Go.Proofs.YtmnhnighlgpjmaaGreat
set_option linter.unusedVariables false
set_option linter.unusedSimpArgs false

theorem Gr.single {l : VL} (h : Gr l) (hac : Acy l) {v : Nat} (hv : v < l.length) : partOf (gA l) l.length v = [v] := by
  have hm : ∀ w, w ∈ partOf (gA l) l.length v ↔ w = v := fun w => by
    rw [mem_partOf]
    constructor
    · rintro ⟨hw, he⟩
      apply Classical.byContradiction
      intro hne
      exact (h.loop.2 hac) v hv (.inr ⟨w, hw, hne, he⟩)
    · rintro rfl
      exact ⟨hv, eqv.refl _ _⟩
  have hp := partOf_asc (gA l) l.length v
  match hP : partOf (gA l) l.length v with
  | [] => rw [hP] at hm; have := (hm v).2 rfl; cases this
  | [a] => rw [hP] at hm; rw [(hm a).1 (by simp)]
  | a :: b :: t =>
    rw [hP] at hm hp
    have h1 := (hm a).1 (by simp)
    have h2 := (hm b).1 (by simp)
    have := (List.pairwise_cons.1 hp).1 b (by simp)
    omega
theorem partsGo_adj {A : Arcs} {n : Nat} (hA : ∀ v, v < n → partOf A n v = [v]) : ∀ (k : Nat) (D : List Nat) (i : Nat) (p q : List Nat), (partsGo A n k D)[i]? = some p → (partsGo A n k D)[i + 1]? = some q → q.headD 0 < p.headD 0 → RT A (q.headD 0) (p.headD 0)
  | 0, D, i, p, q, h, _, _ => by simp [partsGo] at h
  | k + 1, D, i, p, q, h, g, hl => by
    unfold partsGo at h g
    cases hf : (List.range n).find? (readyB A n D) with
    | none => rw [hf] at h; simp at h
    | some v =>
      rw [hf] at h g
      simp only at h g
      obtain ⟨hv, hr⟩ := find_ready hf
      rw [hA v hv] at h g
      cases i with
      | succ i =>
        rw [List.getElem?_cons_succ] at h g
        exact partsGo_adj hA k _ i p q h g hl
      | zero =>
        simp only [List.getElem?_cons_zero, Option.some.injEq] at h
        subst h
        rw [List.getElem?_cons_succ] at g
        cases k with
        | zero => simp [partsGo] at g
        | succ k =>
          unfold partsGo at g
          cases hf2 : (List.range n).find? (readyB A n (D ++ [v])) with
          | none => rw [hf2] at g; simp at g
          | some v2 =>
            rw [hf2] at g
            simp only [List.getElem?_cons_zero, Option.some.injEq] at g
            obtain ⟨hv2, hr2⟩ := find_ready hf2
            rw [hA v2 hv2] at g
            subst g
            simp only [List.headD_cons] at hl ⊢
            have hn : readyB A n D v2 = false := by
              cases hb : readyB A n D v2 with
              | false => rfl
              | true =>
                rw [List.find?_range_eq_some] at hf
                exact absurd hb (by simpa using hf.2.2 v2 hl)
            obtain ⟨h1, h2⟩ := (readyB_iff A n (D ++ [v]) v2).1 hr2
            have h3 : ¬ (v2 ∉ D ∧ ∀ w, w < n → RT A v2 w → RT A w v2 ∨ w ∈ D) := fun h => by
              rw [(readyB_iff A n D v2).2 h] at hn; cases hn
            have h4 : v2 ∉ D := fun h => h1 (List.mem_append_left _ h)
            apply Classical.byContradiction
            intro hnr
            refine h3 ⟨h4, fun w hw hrw => ?_⟩
            rcases h2 w hw hrw with h | h
            · exact .inl h
            · rcases List.mem_append.1 h with h | h
              · exact .inr h
              · rw [List.mem_singleton.1 h] at hrw
                exact absurd hrw hnr
/-- The heads of the parts. -/
def hds (l : VL) : List Nat := (vparts l).map fun p => p.headD 0
theorem orderOf_eq (l : VL) : orderOf l = (hds l).map fun v => (nn l).getD v [] := by
  unfold orderOf vord hds; rw [List.map_map]; rfl
structure HdsOk (l : VL) : Prop where
  lt : ∀ v ∈ hds l, v < l.length
  nd : (hds l).Nodup
  all : ∀ v, v < l.length → v ∈ hds l
  len : (hds l).length = l.length
  down : ∀ i j (hi : i < (hds l).length) (hj : j < (hds l).length), i < j → ¬ RT (gA l) (hds l)[i] (hds l)[j]
  adj : ∀ i (hi : i + 1 < (hds l).length), (hds l)[i + 1] < (hds l)[i] → RT (gA l) (hds l)[i + 1] (hds l)[i]
theorem Gr.hdsOk {l : VL} (h : Gr l) (hac : Acy l) : HdsOk l := by
  have hA := fun v hv => h.single hac (v := v) hv
  have ok := partsOf_ok (gA l) l.length
  have hsing : ∀ p ∈ vparts l, p = [p.headD 0] ∧ p.headD 0 < l.length := fun p hp => by
    obtain ⟨v, hv, rfl⟩ := ok.each p hp
    rw [hA v hv]; exact ⟨rfl, hv⟩
  have hat : ∀ i (hi : i < (hds l).length), ∃ hi2 : i < (vparts l).length, (vparts l)[i] = [(hds l)[i]] := fun i hi => by
    have hi2 : i < (vparts l).length := by unfold hds at hi; rw [List.length_map] at hi; exact hi
    refine ⟨hi2, ?_⟩
    have h1 := (hsing _ (List.getElem_mem hi2)).1
    have h2 : (hds l)[i] = (vparts l)[i].headD 0 := by simp [hds]
    rw [h2]; exact h1
  have hlt : ∀ v ∈ hds l, v < l.length := fun v hv => by
    unfold hds at hv
    obtain ⟨p, hp, rfl⟩ := List.mem_map.1 hv
    exact (hsing p hp).2
  have hnd : (hds l).Nodup := by
    rw [List.nodup_iff_pairwise_ne, List.pairwise_iff_getElem]
    intro i j hi hj hij e
    obtain ⟨hi2, e1⟩ := hat i hi
    obtain ⟨hj2, e2⟩ := hat j hj
    have hp := List.pairwise_iff_getElem.1 ok.nd i j hi2 hj2 hij
    exact hp (hds l)[i] (by show _ ∈ (vparts l)[i]; rw [e1]; simp) (by show _ ∈ (vparts l)[j]; rw [e2, e]; simp)
  have hall : ∀ v, v < l.length → v ∈ hds l := fun v hv => by
    rcases ok.all v hv with h1 | ⟨p, hp, h1⟩
    · cases h1
    · have h2 := (hsing p hp).1
      rw [h2, List.mem_singleton] at h1
      unfold hds
      rw [h1]
      exact List.mem_map.2 ⟨p, hp, rfl⟩
  have hlen : (hds l).length = l.length := by
    have h1 := nodup_sub (hds l) (List.range l.length) hnd (fun v hv => List.mem_range.2 (hlt v hv))
    have h2 := nodup_sub (List.range l.length) (hds l) List.nodup_range (fun v hv => hall v (List.mem_range.1 hv))
    rw [List.length_range] at h1 h2
    omega
  refine ⟨hlt, hnd, hall, hlen, fun i j hi hj hij hr => ?_, fun i hi hl => ?_⟩
  · obtain ⟨hi2, e1⟩ := hat i hi
    have hvj := hlt _ (List.getElem_mem hj)
    rcases ok.down i _ (List.getElem?_eq_getElem hi2) (hds l)[i] (hds l)[j] (by show _ ∈ (vparts l)[i]; rw [e1]; simp) hvj hr with h1 | ⟨m, q, hm, hq, h1⟩
    · cases h1
    · obtain ⟨hm2, e3⟩ := List.getElem?_eq_some_iff.1 hq
      have hm3 : m < (hds l).length := by unfold hds; rw [List.length_map]; exact hm2
      obtain ⟨_, e4⟩ := hat m hm3
      rw [← e3] at h1
      have h5 : (hds l)[j] ∈ (vparts l)[m] := h1
      rw [e4, List.mem_singleton] at h5
      have := (List.nodup_iff_pairwise_ne.1 hnd)
      exact List.pairwise_iff_getElem.1 this m j hm3 hj (by omega) h5.symm
  · obtain ⟨hi2, e1⟩ := hat i (by omega)
    obtain ⟨hi3, e2⟩ := hat (i + 1) hi
    have h1 : (partsGo (gA l) l.length l.length [])[i]? = some ((vparts l)[i]) := List.getElem?_eq_getElem hi2
    have h2 : (partsGo (gA l) l.length l.length [])[i + 1]? = some ((vparts l)[i + 1]) := List.getElem?_eq_getElem hi3
    rw [e1] at h1
    rw [e2] at h2
    exact partsGo_adj hA l.length [] i _ _ h1 h2 hl
theorem nn_sorted (l : VL) : (nn l).Pairwise (fun x y => x ≤ y) := by
  have := List.pairwise_mergeSort (le := fun x y : Str => decide (x ≤ y)) (fun a b c h1 h2 => by
    simp only [decide_eq_true_eq] at h1 h2 ⊢
    exact List.le_trans h1 h2) str_total (names l)
  exact this.imp (fun h => by simpa using h)
structure OrdOk (l : VL) (X : List Str) : Prop where
  len : X.length = l.length
  mem : ∀ s ∈ X, s ∈ names l
  down : ∀ i j (hi : i < X.length) (hj : j < X.length), i < j → ¬ Sv l X[i] X[j]
  adj : ∀ i (hi : i + 1 < X.length), ¬ X[i] ≤ X[i + 1] → Sv l X[i + 1] X[i]
theorem Gr.ord {l : VL} (h : Gr l) (hac : Acy l) : OrdOk l (orderOf l) := by
  have hk := h.hdsOk hac
  have hlen : (orderOf l).length = (hds l).length := by rw [orderOf_eq, List.length_map]
  have hget : ∀ i (hi : i < (orderOf l).length), ∃ (hi2 : i < (hds l).length) (hi3 : (hds l)[i] < (nn l).length), (orderOf l)[i] = (nn l)[(hds l)[i]] := fun i hi => by
    have hi2 : i < (hds l).length := by omega
    have hi3 : (hds l)[i] < (nn l).length := by rw [nn_len]; exact hk.lt _ (List.getElem_mem hi2)
    refine ⟨hi2, hi3, ?_⟩
    simp only [orderOf_eq, List.getElem_map, List.getD_eq_getElem?_getD, List.getElem?_eq_getElem hi3, Option.getD_some]
  have hnode : ∀ i (hi : i < (nn l).length), nodeOf (nn l) (nn l)[i] = i := fun i hi => nodeOf_get (nn_nodup h.nd) i hi
  refine ⟨by rw [hlen, hk.len], fun s hs => ?_, fun i j hi hj hij hsv => ?_, fun i hi hgt => ?_⟩
  · obtain ⟨i, hi, rfl⟩ := List.getElem_of_mem hs
    obtain ⟨_, hi3, e⟩ := hget i hi
    rw [e]; exact nn_mem.1 (List.getElem_mem hi3)
  · obtain ⟨hi2, hi3, e1⟩ := hget i hi
    obtain ⟨hj2, hj3, e2⟩ := hget j hj
    rw [e1, e2] at hsv
    have := h.rt (List.getElem_mem hi3) hsv
    rw [hnode _ hi3, hnode _ hj3] at this
    exact hk.down i j hi2 hj2 hij this
  · obtain ⟨hi2, hi3, e1⟩ := hget i (by omega)
    obtain ⟨hj2, hj3, e2⟩ := hget (i + 1) hi
    rw [e1, e2] at hgt ⊢
    have hlt : (hds l)[i + 1] < (hds l)[i] := by
      apply Classical.byContradiction
      intro hn
      rcases Nat.lt_or_ge (hds l)[i] (hds l)[i + 1] with h1 | h1
      · exact hgt (List.pairwise_iff_getElem.1 (nn_sorted l) _ _ hi3 hj3 h1)
      · have h2 : (hds l)[i + 1] = (hds l)[i] := by omega
        exact hgt (by simp only [h2]; exact List.le_refl _)
    refine (h.sv_iff (List.getElem_mem hj3) (List.getElem_mem hi3)).2 ?_
    rw [hnode _ hi3, hnode _ hj3]
    exact hk.adj i hj2 hlt
theorem bytesLess_lt : ∀ (a b : Str), Op.bytesLess a b = decide (a < b)
  | _, [] => by simp [Op.bytesLess]
  | [], _ :: _ => by simp [Op.bytesLess]
  | a :: x, b :: y => by
    unfold Op.bytesLess
    rw [bytesLess_lt x y, Bool.eq_iff_iff]
    simp [List.cons_lt_cons_iff]
theorem toList_bs (s : Str) : (bs s).toList = s := by rw [Lib.toList_data]; simp [bs]
end Go.Proofs.YtmnhnighlgpjmaaGreat
