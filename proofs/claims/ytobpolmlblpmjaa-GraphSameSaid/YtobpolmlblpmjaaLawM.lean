/-
  What the laws ask of reaching and of ways.
-/
import Derived.Test.YtobpolmlblpmjaaSmall
import Derived.Test.YtobpolmlblpmjaaWayP
import Derived.Test.YtobpolmlblpmjaaReachP
namespace Go.Proofs.Ytobpolmlblpmjaa
set_option linter.unusedVariables false
set_option linter.unusedSimpArgs false
open Go.RowKit

theorem mem_zi {l : List Nat} {v : Nat} : (v : Int) ∈ zi l ↔ v ∈ l := by
  unfold zi
  rw [List.mem_map]
  constructor
  · rintro ⟨x, h1, h2⟩
    have : x = v := by omega
    exact this ▸ h1
  · intro h; exact ⟨v, h, rfl⟩
theorem inB_zi {l : List Nat} {v : Nat} : inB (zi l) v = true ↔ v ∈ l := by rw [inB_iff, mem_zi]
theorem inB_false {l : List Nat} {v : Nat} : inB (zi l) v = false ↔ v ∉ l := by rw [Bool.eq_false_iff, ne_eq, inB_zi]
theorem arcB_mem {l : List Sp} {n x y : Nat} (h : rightB n l = true) : arcB l x y = true ↔ (x, y) ∈ toA l := by
  rw [arcB_iff]
  constructor
  · rintro ⟨i, hi, h1, h2⟩
    unfold toA
    refine List.mem_map.2 ⟨l[i], List.getElem_mem hi, ?_⟩
    rw [gt_get l i hi] at h1 h2
    rw [h1, h2]; rfl
  · intro hm
    unfold toA at hm
    obtain ⟨s, hs, he⟩ := List.mem_map.1 hm
    obtain ⟨i, hi, rfl⟩ := List.getElem_of_mem hs
    have hr := right_arc h i hi
    rw [gt_get l i hi] at hr
    injection he with e1 e2
    exact ⟨i, hi, by rw [gt_get l i hi]; omega, by rw [gt_get l i hi]; omega⟩
theorem mem_toA_get {l : List Sp} {n k x y : Nat} (h : rightB n l = true) (hk : k < l.length) (hx : (gt l k).p = x) (hy : (gt l k).n = y) : (x, y) ∈ toA l := (arcB_mem h).1 (arcB_iff.2 ⟨k, hk, hx, hy⟩)
theorem way_nil {A : Arcs} {R p : List Nat} {v : Nat} (h : WayOk A R v p) : p = [] ↔ ¬ ∃ r ∈ R, RT A r v := by
  rcases h with ⟨h1, h2⟩ | ⟨h1, h2, ⟨r, h3, h4⟩, h5, _⟩
  · exact ⟨fun _ ⟨r, h3, h4⟩ => h2 r h3 h4, fun _ => h1⟩
  · exact ⟨fun e => absurd e h1, fun hn => absurd ⟨r, h3, h5 ▸ h2.rtl h4⟩ hn⟩
theorem way_in {A : Arcs} {R p : List Nat} {n v : Nat} (hv : v < n) (h : WayOk A R v p) : inB (zi (reachOf A n R)) v = decide (0 < p.length) := by
  rw [Bool.eq_iff_iff, inB_zi, mem_reachOf, decide_eq_true_iff]
  have h1 := way_nil h
  constructor
  · rintro ⟨_, h2⟩
    apply List.length_pos_iff.2
    intro e
    exact h1.1 e h2
  · intro h2
    exact ⟨hv, Classical.byContradiction fun h3 => absurd (h1.2 h3) (List.length_pos_iff.1 h2)⟩
theorem reach_root {A : Arcs} {n : Nat} {rs : List Int} {z : Int} (h : z ∈ rs) (h0 : 0 ≤ z) (h1 : z < n) : inB (zi (reachOf A n (rootsN n rs))) z = true := by
  obtain ⟨x, rfl⟩ : ∃ x : Nat, z = x := ⟨z.toNat, by omega⟩
  rw [inB_zi, mem_reachOf]
  exact ⟨by omega, x, mem_rootsN.2 ⟨h, by omega⟩, .refl⟩
theorem reach_arc {A : Arcs} {n : Nat} {R : List Nat} (hA : ∀ a ∈ A, a.1 < n ∧ a.2 < n) {x y : Nat} (h : (x, y) ∈ A) (hx : inB (zi (reachOf A n R)) x = true) : inB (zi (reachOf A n R)) y = true := by
  rw [inB_zi, mem_reachOf] at hx ⊢
  obtain ⟨_, r, h1, h2⟩ := hx
  exact ⟨(hA _ h).2, r, h1, h2.trans (.one h)⟩
theorem reachOf_len (A : Arcs) (n : Nat) (R : List Nat) : (reachOf A n R).length ≤ n := by
  unfold reachOf
  have := List.length_filter_le (fun v => R.any fun r => reachB A r v) (List.range n)
  rw [List.length_range] at this; exact this
theorem right_nat {n : Int} {l : List Sp} (h : rightB n l = true) : ∃ N : Nat, n = N := by
  unfold rightB at h
  simp only [Bool.and_eq_true, decide_eq_true_iff] at h
  exact ⟨n.toNat, by omega⟩
end Go.Proofs.Ytobpolmlblpmjaa
