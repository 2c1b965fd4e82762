/-
  Contracts of the program's sum (the bytes of the first lanes) and lastBlock.
-/
import Derived.Test.YtcekmedfphmpcaaDoorLane
import Derived.Lib.BufferWrite
namespace Go.Proofs.YtcekmedfphmpcaaDoor
set_option linter.unusedVariables false
set_option linter.unusedSimpArgs false
open Go.RowKit

theorem shr_byte (X k : Nat) : X / 2 ^ (8 * k) = X / 256 ^ k := by
  rw [show (256 : Nat) = 2 ^ 8 from rfl, ← Nat.pow_mul]

set_option maxRecDepth 100000 in
set_option maxHeartbeats 2000000 in
theorem sumS (g : Nat) (A : List Nat) (w : World) (hs : St w g A) (ha : lanes A) :
    Calls Tryd.prog 25 #[.pointer (some ⟨g, 0, none⟩)] w fun e w' => e = .returned (.string (bs (outB A 4 0 0))) ∧ Below w.heap.size w w' := by
  obtain ⟨j0, hj0, hy0, hy1, hy2⟩ := info_parts info5
  have HA := Lib.hid ha; clear ha
  have hgl := hs.lt
  go_enter Tryd.func25, Tryd.ntmps25
  go_wp2_with (at_make; refine wpList_make_own _ rfl _ _ 30 rfl w.heap.size 5 j0 (.int .u8 0) 1 Tryd.underlying30 hj0 hy0 hy1 .i64 .i64 _ 32 rfl rfl rfl (by rw [hy2]; omega) (by unfold maxLen; omega) (Nat.le_refl _) ?_; intro w0 hown0 hgrow0)
  have hB0 : Below w.heap.size w w0 := (Below.refl _ _).grown hgrow0 (Nat.le_refl _) (fun k hk => by cases hk)
  go_wp2_with fail
  go_loopw [3, 7] (fun o i wl => ∃ j : Nat, j ≤ 4 ∧ i = .int .i64 j ∧ wl.ownsRow w.heap.size 5 1 o (8 * j) (cl (outB A j 0 0)) ∧ Below w.heap.size w wl) (fun _ i _ => 4 - (intOf i).toNat)
  case atStart => exact ⟨0, by omega, rfl, hown0, hB0⟩
  case round =>
    obtain ⟨j, hj, rfl, hown, hBj⟩ := hrel
    by_cases hj4 : j < 4
    · have hlx := lat_lt64 HA.out.2 j
      have HTN := Lib.hid (outB_turn HA.out.1 j 0 (by omega))
      have HC : Hid (w.cell? ⟨g, j, none⟩ = some (.int .u64 (lat A j : Nat))) := hs.cell j (by rw [HA.out.1]; omega)
      obtain ⟨X, hX⟩ : ∃ X, lat A j = X := ⟨_, rfl⟩
      rw [hX] at hlx HTN HC
      clear hX
      have hzX : outB A j 0 0 = outB A j 0 X := outB_zero A j 0 X
      rw [hzX] at hown
      clear hzX
      have hdj : decide ((j : Int) < 4) = true := by rw [decide_eq_true_iff]; omega
      go_wp2_with fail
      go_loopw [3, 10] (fun o i wl => ∃ k : Nat, k ≤ 8 ∧ i = .int .i64 k ∧ wl.ownsRow w.heap.size 5 1 o (8 * j + k) (cl (outB A j k X)) ∧ Below w.heap.size w wl) (fun _ i _ => 8 - (intOf i).toNat)
      case atStart => exact ⟨0, by omega, rfl, hown, hBj⟩
      case round =>
        obtain ⟨k, hk, rfl, hown, hBj⟩ := hrel
        have hbj := hBj.size
        by_cases hk8 : k < 8
        · have cA := (hBj.cell (p := ⟨g, j, none⟩) hgl).trans HC.out
          have HOB := Lib.hid (outB_succ A j k X)
          rw [← shr_byte] at HOB
          have hxk : X / 2 ^ (8 * k) < 18446744073709551616 := Nat.lt_of_le_of_lt (Nat.div_le_self _ _) hlx
          have hdv : (X : Int) / 2 ^ (8 * k) = ((X / 2 ^ (8 * k) : Nat) : Int) := by norm_cast
          obtain ⟨xk, hxk2⟩ : ∃ n, X / 2 ^ (8 * k) = n := ⟨_, rfl⟩
          rw [hxk2] at hdv hxk HOB
          clear hxk2
          have q1 : IntKind.i64.wrap (8 * (k : Int)) = 8 * k := IntWalk.i64_in _ (by omega)
          have q2 : (0 : Int) ≤ 8 * k := by omega
          have q4 : (8 * (k : Int)).toNat = 8 * k := by omega
          have q5 : min (8 * k) 64 = 8 * k := by omega
          have q3 : (8 * (k : Int)) ≤ 64 := by omega
          have r1 : (j : Int) < 25 := by omega
          have r0 : (0 : Int) ≤ j := by omega
          go_wp2_with (at_builtin; refine wpList_append_own _ rfl _ _ 30 rfl w.heap.size 5 j0 (.int .u8 0) 1 1 Tryd.underlying30 hj0 hy0 hy1 hy2 rfl (by decide) _ _ _ rfl (hown.alloc _) ⟨wr.heap.size, 0, none⟩ 1 1 [.int .u8 ((xk : Int) % 256)] rfl rfl (cell_one_new _ _ _) (fun x hx => by simp at hx; subst hx; rfl) (by unfold maxLen; omega) (by omega) (by simp; omega) ?_; intro v' w6 hown3 hgrow3 hnil3)
          go_roundw
          case rel =>
            refine ⟨k + 1, by omega, by go_num, ?_, (hBj.alloc hbj _).grown hgrow3 (by simp; omega) (fun k hk => (hown.lt k hk).1)⟩
            rw [HOB.out, cl_append]
            have e : cl [UInt8.ofNat (xk % 256)] = [.int .u8 ((xk : Int) % 256)] := by
              simp only [cl, List.map_cons, List.map_nil]; rw [u8_of (by omega)]; rfl
            rw [e]; exact hown3
          case measure => simp [intOf]; omega
        · obtain rfl : k = 8 := by omega
          have hown8 : wr.ownsRow w.heap.size 5 1 u3 (8 * (j + 1)) (cl (outB A (j + 1) 0 0)) := by rw [← HTN.out]; exact hown
          clear hown
          go_wp2_with fail
          go_roundw
          case rel => exact ⟨j + 1, by omega, by go_num, hown8, hBj⟩
          case measure => simp [intOf]; omega
    · obtain rfl : j = 4 := by omega
      have hcv := conv_any hown
      go_wp2_with fail
      go_ret
      exact ⟨rfl, hBj⟩
end Go.Proofs.YtcekmedfphmpcaaDoor
