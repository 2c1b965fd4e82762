/-
  Contracts of the reference's SameNums and SameTexts at equal lists.
-/
import Derived.Test.YtebepofbngdccaaRefR
namespace Go.Proofs.Ytebepofbngdccaa
set_option linter.unusedVariables false
set_option linter.unusedSimpArgs false
open Go.RowKit

set_option maxRecDepth 100000 in
set_option maxHeartbeats 1000000 in
theorem same_nums (va vb : Value) (zs : List Int) (B : Nat) (w : World) (hB : B ≤ w.heap.size) (ha : Row w B va (iv zs)) (hb : Row w B vb (iv zs)) (hn : zs.length ≤ 100000000) :
    Calls Try.prog 30 #[va, vb] w fun e w' => e = .returned (.bool true) ∧ Below w.heap.size w w' := by
  obtain ⟨A, ca, rfl, hA⟩ := ha
  obtain ⟨C, cb, rfl, hC⟩ := hb
  rw [iv_length] at hA hC
  rw [iv_length]
  go_enter Try.func30, Try.ntmps30
  go_wp2_with fail
  go_loopw [5] (fun i wr => ∃ k : Nat, k ≤ zs.length ∧ i = .int .i64 k ∧ Below w.heap.size w wr) (fun i _ => zs.length - (intOf i).toNat)
  case atStart => exact ⟨0, by omega, rfl, Below.refl _ _⟩
  case round =>
    obtain ⟨k, hk, rfl, hBw⟩ := hrel
    by_cases hlt : k < zs.length
    · obtain ⟨b, off, rfl, hb, hc⟩ := hA (by omega)
      obtain ⟨b', off', rfl, hb', hc'⟩ := hC (by omega)
      have h1 : wr.cell? ⟨b, off + k, none⟩ = some (.int .i64 zs[k]) := by
        rw [← iv_at zs k hlt, ← hc k hlt]; exact hBw.cell (p := ⟨b, off + k, none⟩) (Nat.lt_of_lt_of_le hb hB)
      have h2 : wr.cell? ⟨b', off' + k, none⟩ = some (.int .i64 zs[k]) := by
        rw [← iv_at zs k hlt, ← hc' k hlt]; exact hBw.cell (p := ⟨b', off' + k, none⟩) (Nat.lt_of_lt_of_le hb' hB)
      have q0 : (0 : Int) ≤ k := by omega
      have q1 : (k : Int) < zs.length := by omega
      clear hA hC hc hc'
      go_wp2_with fail
      go_quiet (fail)
      go_wp2_with fail
      go_roundw
      case rel => exact ⟨k + 1, by omega, by go_num, by first | exact hBw | exact hBw.drew | exact (hBw.trans ⟨rfl, rfl, rfl, Nat.le_refl _, fun _ _ => rfl⟩)⟩
      case measure => simp [intOf]; omega
    · go_wp2_with fail
      go_ret
      exact ⟨rfl, hBw⟩

set_option maxRecDepth 100000 in
set_option maxHeartbeats 1000000 in
theorem same_texts (va vb : Value) (zs : List (List UInt8)) (B : Nat) (w : World) (hB : B ≤ w.heap.size) (ha : Row w B va (sv zs)) (hb : Row w B vb (sv zs)) (hn : zs.length ≤ 100000000) :
    Calls Try.prog 33 #[va, vb] w fun e w' => e = .returned (.bool true) ∧ Below w.heap.size w w' := by
  obtain ⟨A, ca, rfl, hA⟩ := ha
  obtain ⟨C, cb, rfl, hC⟩ := hb
  rw [sv_length] at hA hC
  rw [sv_length]
  go_enter Try.func33, Try.ntmps33
  go_wp2_with fail
  go_loopw [5] (fun i wr => ∃ k : Nat, k ≤ zs.length ∧ i = .int .i64 k ∧ Below w.heap.size w wr) (fun i _ => zs.length - (intOf i).toNat)
  case atStart => exact ⟨0, by omega, rfl, Below.refl _ _⟩
  case round =>
    obtain ⟨k, hk, rfl, hBw⟩ := hrel
    by_cases hlt : k < zs.length
    · obtain ⟨b, off, rfl, hb, hc⟩ := hA (by omega)
      obtain ⟨b', off', rfl, hb', hc'⟩ := hC (by omega)
      have h1 : wr.cell? ⟨b, off + k, none⟩ = some (.string (bs zs[k])) := by
        rw [← sv_at zs k hlt, ← hc k hlt]; exact hBw.cell (p := ⟨b, off + k, none⟩) (Nat.lt_of_lt_of_le hb hB)
      have h2 : wr.cell? ⟨b', off' + k, none⟩ = some (.string (bs zs[k])) := by
        rw [← sv_at zs k hlt, ← hc' k hlt]; exact hBw.cell (p := ⟨b', off' + k, none⟩) (Nat.lt_of_lt_of_le hb' hB)
      have q0 : (0 : Int) ≤ k := by omega
      have q1 : (k : Int) < zs.length := by omega
      clear hA hC hc hc'
      go_wp2_with fail
      go_quiet (fail)
      go_wp2_with fail
      go_roundw
      case rel => exact ⟨k + 1, by omega, by go_num, by first | exact hBw | exact hBw.drew | exact (hBw.trans ⟨rfl, rfl, rfl, Nat.le_refl _, fun _ _ => rfl⟩)⟩
      case measure => simp [intOf]; omega
    · go_wp2_with fail
      go_ret
      exact ⟨rfl, hBw⟩
end Go.Proofs.Ytebepofbngdccaa
