/-
  Contract of the program's Total.
-/
import Derived.Test.YtfeiapkifoakoaaFn3
namespace Go.Proofs.Ytfeiapkifoakoaa
set_option linter.unusedVariables false
set_option linter.unusedSimpArgs false
open Go.RowKit

set_option maxRecDepth 100000 in
set_option maxHeartbeats 2000000 in
theorem totalP (v : Value) (l : List Sp) (w : World) (hr : SRow w w.heap.size v l) :
    Calls Try.prog 14 #[v] w fun e w' => e = .returned (.int .i64 (totalL l)) ∧ Below w.heap.size w w' := by
  have hR := rightP v l w hr
  obtain ⟨-, hlen, A, cap, rfl, hA⟩ := hr
  by_cases hri : right l
  · have HT : Hid (totalL l = tot l) := by show _ = _; unfold totalL; rw [if_pos hri]
    rw [show decide (right l) = true from decide_eq_true hri] at hR
    have HR := Lib.hid hR; clear hR
    have HRI := Lib.hid hri; clear hri
    go_enter Try.func14, Try.ntmps14
    go_wp2_with fail
    refine HR.out.mono ?_; rintro e w1 ⟨rfl, hB1⟩
    go_wp2_with fail
    go_loopw [3, 5, 11] (fun n u i wl => ∃ k : Nat, k ≤ l.length ∧ i = .int .i64 k ∧ n = .int .i64 (tot (l.take k)) ∧ Below w.heap.size w wl) (fun _ _ i _ => l.length - (intOf i).toNat)
    case atStart => exact ⟨0, by omega, rfl, rfl, hB1⟩
    case round =>
      obtain ⟨k, hk, rfl, rfl, hB⟩ := hrel
      have hb1 := tot_bound (right_take HRI.out k)
      by_cases hlt : k < l.length
      · obtain ⟨b, off, rfl, hb, hc⟩ := hA (by omega)
        have d1 := (hB.cell (p := ⟨b, off + k * 2, none⟩) hb).trans (hc k hlt).1
        have d2 := (hB.cell (p := ⟨b, off + k * 2 + 1, none⟩) hb).trans (hc k hlt).2
        have hb2 := tot_bound (right_take HRI.out (k + 1))
        have htk := tot_take l k hlt
        rw [htk] at hb2
        have HTK := Lib.hid htk; clear htk
        have hok := (HRI.out k hlt).1
        obtain ⟨x, hx⟩ : ∃ x, tot (l.take k) = x := ⟨_, rfl⟩
        obtain ⟨n, hn⟩ : ∃ n, (gt l k).n = n := ⟨_, rfl⟩
        obtain ⟨p, hp⟩ : ∃ n, (gt l k).p = n := ⟨_, rfl⟩
        rw [hx, hn] at hb2 HTK
        rw [hx] at hb1
        rw [hx]
        rw [hn] at d2
        rw [hp] at d1
        clear hx hp
        have hn2 : 0 ≤ n ∧ n ≤ 1099511627776 := by unfold Sp.ok at hok; omega
        clear hn hok hA
        have q1 : (k : Int) < l.length := by omega
        have hbz := hB.size
        have HB := Lib.hid (hB.trans ((below_new wr (.cells #[.int .i64 p, .int .i64 n] 24)).mono hbz))
        go_wp2_with fail
        go_roundw
        case rel => exact ⟨k + 1, by omega, by go_num, by rw [HTK.out], HB.out⟩
        case measure => simp [intOf]; omega
      · obtain rfl : k = l.length := by omega
        rw [List.take_length]
        rw [List.take_length] at hb1
        have HT2 := HT
        go_wp2_with fail
        go_ret
        exact ⟨by rw [HT2.out]; rfl, hB⟩
  · have HT : Hid (totalL l = 0) := by show _ = _; unfold totalL; rw [if_neg hri]
    rw [show decide (right l) = false from decide_eq_false hri] at hR
    have HR := Lib.hid hR; clear hR hri hA
    go_enter Try.func14, Try.ntmps14
    go_wp2_with fail
    refine HR.out.mono ?_; rintro e w1 ⟨rfl, hB1⟩
    go_wp2_with fail
    go_ret
    exact ⟨by rw [HT.out]; rfl, hB1⟩
end Go.Proofs.Ytfeiapkifoakoaa
