/-
  Layer 8: Order's list is what the least ready names give: plain mathematics.
-/
import Derived.Test.YtmnhnighlgpjmaaGreatVOrd
namespace Go.Proofs.YtmnhnighlgpjmaaGreat
set_option linter.unusedVariables false
set_option linter.unusedSimpArgs false

theorem partsGo_at {A : Arcs} {n : Nat} (hA : ∀ v, v < n → partOf A n v = [v]) : ∀ (k : Nat) (D : List Nat) (i : Nat) (p : List Nat), (partsGo A n k D)[i]? = some p →
    ∃ v, p = [v] ∧ (List.range n).find? (readyB A n (D ++ ((partsGo A n k D).take i).map fun q => q.headD 0)) = some v
  | 0, D, i, p, h => by simp [partsGo] at h
  | k + 1, D, i, p, h => by
    cases hf : (List.range n).find? (readyB A n D) with
    | none =>
      unfold partsGo at h
      rw [hf] at h; simp at h
    | some v =>
      obtain ⟨hv, hr⟩ := find_ready hf
      have e2 : partsGo A n (k + 1) D = [v] :: partsGo A n k (D ++ [v]) := by
        rw [partsGo, hf]; simp only [hA v hv]
      rw [e2] at h ⊢
      cases i with
      | zero =>
        simp only [List.getElem?_cons_zero, Option.some.injEq] at h
        refine ⟨v, h.symm, ?_⟩
        rw [List.take_zero, List.map_nil, List.append_nil]; exact hf
      | succ i =>
        rw [List.getElem?_cons_succ] at h
        obtain ⟨u, e, hu⟩ := partsGo_at hA k (D ++ [v]) i p h
        refine ⟨u, e, ?_⟩
        rw [List.take_succ_cons, List.map_cons]
        have e3 : D ++ ([v] : List Nat).headD 0 :: ((partsGo A n k (D ++ [v])).take i).map (fun q => q.headD 0) = D ++ [v] ++ ((partsGo A n k (D ++ [v])).take i).map (fun q => q.headD 0) := by simp
        rw [e3]; exact hu
/-- A name that could come next behind the names D. -/
def Ready (l : VL) (D : List Str) (s : Str) : Prop := s ∉ D ∧ ∀ p ∈ pars l s, p ∈ D
theorem Gr.ready {l : VL} (h : Gr l) (hac : Acy l) {k : Nat} (hk : k < (orderOf l).length) : (orderOf l)[k] ∈ names l ∧ Ready l ((orderOf l).take k) (orderOf l)[k] := by
  have ho := h.ord hac
  have hm := ho.mem _ (List.getElem_mem hk)
  refine ⟨hm, fun hin => ?_, fun p hp => ?_⟩
  · obtain ⟨i, hi, e⟩ := List.getElem_of_mem hin
    rw [List.length_take] at hi
    rw [List.getElem_take] at e
    exact ho.down i k (by omega) hk (by omega) (by rw [e]; exact .refl _)
  · obtain ⟨d, hd, hnm, hpd, _⟩ := mem_pars hp
    have hpn : p ∈ names l := h.cl d hd p hpd
    have hnd : (orderOf l).Nodup := by
      rw [List.nodup_iff_pairwise_ne, List.pairwise_iff_getElem]
      intro i j hi hj hij e
      exact ho.down i j hi hj hij (by rw [e]; exact .refl _)
    have hall : p ∈ orderOf l := by
      have h1 : ∀ x ∈ orderOf l, x ∈ names l := ho.mem
      apply Classical.byContradiction
      intro hno
      have h2 := nodup_sub (p :: orderOf l) (names l) (List.nodup_cons.2 ⟨hno, hnd⟩) (fun x hx => by
        rcases List.mem_cons.1 hx with rfl | hx
        · exact hpn
        · exact h1 x hx)
      rw [List.length_cons, ho.len] at h2
      unfold names at h2
      rw [List.length_map] at h2
      omega
    obtain ⟨j, hj, e⟩ := List.getElem_of_mem hall
    have hjk : j < k := by
      apply Classical.byContradiction
      intro hn
      by_cases hjk : j = k
      · subst hjk
        exact hac d hd p hpd (by rw [hnm, ← e]; exact .refl _)
      · exact ho.down k j hk hj (by omega) (by rw [e]; exact Sv.one hp)
    rw [← e]
    exact List.mem_of_getElem? (i := j) (by rw [List.getElem?_take, if_pos hjk, List.getElem?_eq_getElem hj])
theorem Gr.least {l : VL} (h : Gr l) (hac : Acy l) {k : Nat} (hk : k < (orderOf l).length) {y : Str} (hy : y ∈ names l) (hr : Ready l ((orderOf l).take k) y) : (orderOf l)[k] ≤ y := by
  have hkk := h.hdsOk hac
  have hA := fun v hv => h.single hac (v := v) hv
  have hlen : (orderOf l).length = (hds l).length := by rw [orderOf_eq, List.length_map]
  have hget : ∀ i (hi : i < (orderOf l).length), ∃ (hi2 : i < (hds l).length) (hi3 : (hds l)[i] < (nn l).length), (orderOf l)[i] = (nn l)[(hds l)[i]] := fun i hi => by
    have hi2 : i < (hds l).length := by omega
    have hi3 : (hds l)[i] < (nn l).length := by rw [nn_len]; exact hkk.lt _ (List.getElem_mem hi2)
    refine ⟨hi2, hi3, ?_⟩
    simp only [orderOf_eq, List.getElem_map, List.getD_eq_getElem?_getD, List.getElem?_eq_getElem hi3, Option.getD_some]
  have hnode : ∀ i (hi : i < (nn l).length), nodeOf (nn l) (nn l)[i] = i := fun i hi => nodeOf_get (nn_nodup h.nd) i hi
  obtain ⟨hk2, hk3, ek⟩ := hget k hk
  have hkv : k < (vparts l).length := by unfold hds at hk2; rw [List.length_map] at hk2; exact hk2
  obtain ⟨v, hpv, hfind⟩ := partsGo_at hA l.length [] k _ (List.getElem?_eq_getElem (l := partsGo (gA l) l.length l.length []) hkv)
  have hv : (hds l)[k] = v := by
    have : (hds l)[k] = (vparts l)[k].headD 0 := by simp [hds]
    rw [this]
    show ((partsGo (gA l) l.length l.length [])[k]).headD 0 = v
    rw [hpv]; rfl
  obtain ⟨D, hD⟩ : ∃ D, D = (hds l).take k := ⟨_, rfl⟩
  have hDe : ([] : List Nat) ++ ((partsGo (gA l) l.length l.length []).take k).map (fun q => q.headD 0) = D := by
    rw [List.nil_append, hD]
    unfold hds
    rw [← List.map_take]
    rfl
  rw [hDe] at hfind
  have hyn : y ∈ nn l := nn_mem.2 hy
  obtain ⟨j, hj, ej⟩ := List.getElem_of_mem hyn
  have hjn : j < l.length := by rw [nn_len] at hj; exact hj
  have hdown : ∀ i, i < k → ∀ w, w < l.length → ∀ (hi : i < (hds l).length), RT (gA l) (hds l)[i] w → w ∈ D := fun i hik w hw hi hrt => by
    obtain ⟨m, hm, em⟩ := List.getElem_of_mem (hkk.all w hw)
    have hmi : m ≤ i := by
      apply Classical.byContradiction
      intro hn
      exact hkk.down i m hi hm (by omega) (by rw [em]; exact hrt)
    rw [hD, ← em]
    exact List.mem_of_getElem? (i := m) (by rw [List.getElem?_take, if_pos (by omega), List.getElem?_eq_getElem hm])
  have hrdy : readyB (gA l) l.length D j = true := by
    rw [readyB_iff]
    refine ⟨fun hin => ?_, fun w hw hrt => ?_⟩
    · rw [hD] at hin
      obtain ⟨i, hi, e⟩ := List.getElem_of_mem hin
      rw [List.length_take] at hi
      rw [List.getElem_take] at e
      obtain ⟨_, hi3, e2⟩ := hget i (by omega)
      refine hr.1 (List.mem_of_getElem? (i := i) ?_)
      rw [List.getElem?_take, if_pos (by omega), List.getElem?_eq_getElem (by omega), e2]
      simp only [e, ej]
    · rcases hrt.head with rfl | ⟨a, ha, hra⟩
      · exact .inl .refl
      · obtain ⟨d, hd, p, hp, e1, e2⟩ := mem_gA.1 ha
        have hdy : d.nm = y := by
          have hdn : d.nm ∈ nn l := nn_mem.2 (List.mem_map.2 ⟨d, hd, rfl⟩)
          obtain ⟨q, hq, eq⟩ := List.getElem_of_mem hdn
          have := hnode q hq
          rw [eq, ← e1] at this
          rw [← eq, ← ej]
          simp only [← this]
        have hpp : p ∈ (orderOf l).take k := hr.2 p (by rw [← hdy, pars_mem h.nd hd]; exact hp)
        obtain ⟨i, hi, e⟩ := List.getElem_of_mem hpp
        rw [List.length_take] at hi
        rw [List.getElem_take] at e
        obtain ⟨hi2, hi3, e3⟩ := hget i (by omega)
        have hai : a = (hds l)[i] := by
          rw [e2, ← e, e3]; exact hnode _ hi3
        rw [hai] at hra
        exact .inr (hdown i (by omega) w hw hi2 hra)
  have hvj : v ≤ j := by
    apply Classical.byContradiction
    intro hn
    rw [List.find?_range_eq_some] at hfind
    have := hfind.2.2 j (by omega)
    rw [hrdy] at this
    simp at this
  rw [ek, ← ej]
  rcases Nat.lt_or_ge v j with h1 | h1
  · exact List.pairwise_iff_getElem.1 (nn_sorted l) _ _ hk3 hj (by rw [hv]; exact h1)
  · have h2 : (hds l)[k] = j := by omega
    simp only [h2]
    exact List.le_refl _
end Go.Proofs.YtmnhnighlgpjmaaGreat
