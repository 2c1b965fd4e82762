/-
  The heads of the parts, one after the other.
-/
import Derived.Test.YtmnhnighlgpjmaaGreatGath
import Derived.Test.YtmnhnighlgpjmaaGreatHeapN
namespace Go.Proofs.YtmnhnighlgpjmaaGreat
set_option linter.unusedVariables false
set_option linter.unusedSimpArgs false

/-- The heads after the last k of the order of leaving. -/
structure Hds (A : Arcs) (n : Nat) (L : List Nat) (k : Nat) (H : List Int) : Prop where
  ok : ∀ x, x < n → H.getD x 0 = -1 ∨ H.getD x 0 = (hd A n x : Int)
  cl : ∀ x y, x < n → y < n → eqv A x y → H.getD x 0 ≠ -1 → H.getD y 0 ≠ -1
  done : ∀ x ∈ L.drop (L.length - k), H.getD x 0 ≠ -1
theorem Hds.start (A : Arcs) (n : Nat) (L : List Nat) : Hds A n L 0 (List.replicate n (-1)) := by
  refine ⟨fun x hx => .inl (getD_rep n x _ _ hx), fun x y hx _ _ h => absurd (getD_rep n x _ _ hx) h, fun x hx => ?_⟩
  rw [Nat.sub_zero, List.drop_length] at hx; simp at hx
theorem drop_back {L : List Nat} {k : Nat} (hk : k < L.length) : L.drop (L.length - (k + 1)) = L.getD (L.length - 1 - k) 0 :: L.drop (L.length - k) := by
  have e : L.length - (k + 1) = L.length - 1 - k := by omega
  rw [e, List.drop_eq_getElem_cons (by omega), List.getD_eq_getElem?_getD, List.getElem?_eq_getElem (by omega)]
  congr 2
  omega
theorem Hds.old {A : Arcs} {n : Nat} {L : List Nat} {k : Nat} {H : List Int} (h : Hds A n L k H) (hk : k < L.length) (hv : H.getD (L.getD (L.length - 1 - k) 0) 0 ≠ -1) : Hds A n L (k + 1) H := by
  refine { h with done := fun x hx => ?_ }
  rw [drop_back hk] at hx
  rcases List.mem_cons.1 hx with h1 | h1
  · rw [h1]; exact hv
  · exact h.done x h1
theorem Hds.new {A : Arcs} {n : Nat} {L : List Nat} {k v z : Nat} {H H2 : List Int} {G : List Nat} (hA : ∀ a ∈ A, a.1 < n ∧ a.2 < n) (hL : LeaveOk A n L) (h : Hds A n L k H) (hk : k < L.length) (hv : L.getD (L.length - 1 - k) 0 = v) (hf : H.getD v 0 = -1)
    (hG : ∀ x, x ∈ G ↔ Un A (fun x => H.getD x 0 = -1) v x) (hGn : ∀ x ∈ G, x < n) (hz : (∀ x ∈ G, z ≤ x) ∧ z ∈ G) (hM : HM n H2 H G z) : Hds A n L (k + 1) H2 := by
  have hvn : v < n := hL.lt v (by rw [← hv, List.getD_eq_getElem?_getD, List.getElem?_eq_getElem (by omega)]; exact List.getElem_mem _)
  have hsplit : L = L.take (L.length - 1 - k) ++ v :: L.drop (L.length - k) := by
    have h1 := drop_back hk
    rw [hv] at h1
    rw [← h1, show L.length - (k + 1) = L.length - 1 - k by omega, List.take_append_drop]
  have hpart : ∀ x, x ∈ G ↔ eqv A v x := fun x => by
    by_cases hx : x < n
    · rw [hG, Un.iff]
      have := Leave.part (A := A) (n := n) hA hL.leave hL.nd hL.all hsplit (H := fun x => H.getD x 0 ≠ -1) hvn h.done (fun a b hab ha => by
        by_cases han : a < n
        · by_cases hbn : b < n
          · exact h.cl a b han hbn hab ha
          · exact absurd (RT.lt hA han hab.1) hbn
        · by_cases hbn : b < n
          · exact absurd (RT.lt hA hbn hab.2) han
          · cases hab.1 with
            | refl => exact ha
            | step _ h5 => exact absurd (hA _ h5).2 hbn) (fun h1 => h1 hf) x hx
      simp only [Classical.not_not] at this
      exact this
    · constructor
      · intro h1; exact absurd (hGn x h1) hx
      · intro h1; exact absurd (RT.lt hA hvn h1.1) hx
  have hzh : z = hd A n v := by
    have h1 := hd_mem (A := A) hvn
    have h2 := hz.1 _ ((hpart _).2 h1.2)
    have h3 := hd_le (A := A) (hGn z hz.2) ((hpart z).1 hz.2)
    omega
  have hval : ∀ x, x < n → x ∈ G → H2.getD x 0 = (hd A n x : Int) := fun x hx hxG => by
    rw [hM.yes x hxG, hzh, hd_congr hvn ((hpart x).1 hxG)]
  refine ⟨fun x hx => ?_, fun x y hx hy hxy h1 h2 => ?_, fun x hx => ?_⟩
  · by_cases hxG : x ∈ G
    · exact .inr (hval x hx hxG)
    · rw [hM.no x hx hxG]; exact h.ok x hx
  · by_cases hyG : y ∈ G
    · rw [hval y hy hyG] at h2; omega
    · have hxG : x ∉ G := fun hxG => hyG ((hpart y).2 (((hpart x).1 hxG).trans hxy))
      rw [hM.no x hx hxG] at h1
      rw [hM.no y hy hyG] at h2
      exact h.cl x y hx hy hxy h1 h2
  · rw [drop_back hk, hv] at hx
    rcases List.mem_cons.1 hx with h1 | h1
    · rw [h1, hval v hvn ((hpart v).2 (eqv.refl A v))]; omega
    · have hxn : x < n := hL.lt x (List.mem_of_mem_drop h1)
      by_cases hxG : x ∈ G
      · rw [hval x hxn hxG]; omega
      · rw [hM.no x hxn hxG]; exact h.done x h1
theorem Hds.all {A : Arcs} {n : Nat} {L : List Nat} {H : List Int} (hL : LeaveOk A n L) (h : Hds A n L L.length H) (hl : H.length = n) : H = zi ((List.range n).map (hd A n)) := by
  apply List.ext_getElem
  · simp [zi, hl]
  · intro i h1 h2
    have hi : i < n := by omega
    have h3 := h.done i (by rw [Nat.sub_self, List.drop_zero]; exact hL.all i hi)
    have h4 := (h.ok i hi).resolve_left h3
    rw [List.getD_eq_getElem?_getD, List.getElem?_eq_getElem h1] at h4
    simp [zi]
    exact h4
end Go.Proofs.YtmnhnighlgpjmaaGreat
