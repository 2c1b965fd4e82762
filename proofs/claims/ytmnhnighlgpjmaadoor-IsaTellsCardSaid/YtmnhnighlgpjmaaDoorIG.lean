/-
  The law's ints.
-/
import Derived.Test.YtmnhnighlgpjmaaDoorIF
namespace Go.Proofs.YtmnhnighlgpjmaaDoor
set_option linter.unusedVariables false
set_option linter.unusedSimpArgs false
open Go.RowKit

theorem intsNeP (u v : Value) (a b : List Nat) (w : World) (hu : IRow w u a) (hv : IRow w v b) (h : a.length ≠ b.length) :
    Calls Tryd.prog 17 #[u, v] w fun e w' => e = .returned (.bool false) ∧ Below w.heap.size w w' := by
  obtain ⟨A, cap, rfl, h1, h2, _⟩ := hu
  obtain ⟨B, cbp, rfl, h3, h4, _⟩ := hv
  have hd : ((a.length : Int) == b.length) = false := beq_eq_false_iff_ne.2 (fun e => h (by exact_mod_cast e))
  have hd' : ((a.length : Int) != b.length) = true := by rw [bne, hd]; rfl
  have hd2 : ((a.length : Nat) == b.length) = false := beq_eq_false_iff_ne.2 h
  go_enter Tryd.func17, Tryd.ntmps17
  go_wp2_with fail
  go_ret
  exact ⟨rfl, Below.refl _ _⟩

set_option maxHeartbeats 1000000 in
theorem intsEqP (u v : Value) (a b : List Nat) (w : World) (hu : IRow w u a) (hv : IRow w v b) (h : a.length = b.length) :
    Calls Tryd.prog 17 #[u, v] w fun e w' => e = .returned (.bool (decide (a = b))) ∧ Below w.heap.size w w' := by
  obtain ⟨A, cap, rfl, h1, h2, hA⟩ := hu
  obtain ⟨B, cbp, rfl, h3, h4, hB⟩ := hv
  obtain ⟨r, hr⟩ : ∃ r, decide (a = b) = r := ⟨_, rfl⟩
  rw [hr]
  have HR := Lib.hid hr
  rw [← h]
  rw [← h] at h3
  have HL := Lib.hid h
  unfold maxLen at h2 h4
  have HA := Lib.hid hA
  have HB := Lib.hid hB
  clear h hr hA hB
  go_enter Tryd.func17, Tryd.ntmps17
  go_wp2_with fail
  go_loopw [5] (fun i wr => ∃ k : Nat, k ≤ a.length ∧ i = .int .i64 k ∧ a.take k = b.take k ∧ Below w.heap.size w wr) (fun i _ => a.length - (intOf i).toNat)
  case atStart => exact ⟨0, by omega, rfl, rfl, Below.refl _ _⟩
  case round =>
    obtain ⟨k, hk, rfl, hp, hb⟩ := hrel
    have HP := Lib.hid hp
    clear hp
    by_cases hlt : k < a.length
    · obtain ⟨g, rfl, hg, hc⟩ := HA.out (by omega)
      obtain ⟨g2, rfl, hg2, hc2⟩ := HB.out (by rw [← HL.out]; omega)
      have c1 := (hb.cell (p := ⟨g, k, none⟩) hg).trans (hc k hlt)
      have c2 := (hb.cell (p := ⟨g2, k, none⟩) hg2).trans (hc2 k (by rw [← HL.out]; exact hlt))
      obtain ⟨x, hx⟩ : ∃ x, a[k] = x := ⟨_, rfl⟩
      obtain ⟨y, hy⟩ : ∃ y, b[k]'(by rw [← HL.out]; exact hlt) = y := ⟨_, rfl⟩
      rw [hx] at c1
      rw [hy] at c2
      have HX := Lib.hid hx
      have HY := Lib.hid hy
      have HBR := Lib.hid hb
      have hkI : (k : Int) < a.length := by omega
      clear hx hy hc hc2 hb
      by_cases e : x = y
      · have he : ((x : Int) == y) = true := by simp [e]
        have he2 : ((x : Int) != y) = false := by simp [e]
        have HE := Lib.hid e
        clear e
        go_wp2_with fail
        go_quiet (fail)
        go_wp2_with fail
        go_roundw
        case rel => exact ⟨k + 1, by omega, by go_num, by rw [List.take_succ_eq_append_getElem hlt, List.take_succ_eq_append_getElem (by rw [← HL.out]; exact hlt), HP.out, HX.out, HY.out, HE.out], below_drewN HBR.out _⟩
        case measure => simp [intOf]; omega
      · have he : ((x : Int) == y) = false := by simp; omega
        have he2 : ((x : Int) != y) = true := by simp; omega
        go_wp2_with fail
        go_quiet (fail)
        go_wp2_with fail
        go_ret
        exact ⟨by rw [← HR.out, decide_eq_false (fun h => e (by rw [← HX.out, ← HY.out]; simp only [h]))]; rfl, below_drewN HBR.out _⟩
    · obtain rfl : k = a.length := by omega
      have HBR := Lib.hid hb
      clear hb
      have hab : a = b := by
        have := HP.out
        rw [List.take_of_length_le (Nat.le_refl _), List.take_of_length_le (by rw [← HL.out]; exact Nat.le_refl _)] at this
        exact this
      have HAB := Lib.hid hab
      clear hab
      go_wp2_with fail
      go_ret
      exact ⟨by rw [← HR.out, decide_eq_true HAB.out]; rfl, HBR.out⟩

/-- ints. -/
theorem intsP (u v : Value) (a b : List Nat) (w : World) (hu : IRow w u a) (hv : IRow w v b) :
    Calls Tryd.prog 17 #[u, v] w fun e w' => e = .returned (.bool (decide (a = b))) ∧ Below w.heap.size w w' := by
  by_cases h : a.length = b.length
  · exact intsEqP u v a b w hu hv h
  · rw [decide_eq_false (fun e => h (by rw [e]))]
    exact intsNeP u v a b w hu hv h
end Go.Proofs.YtmnhnighlgpjmaaDoor
