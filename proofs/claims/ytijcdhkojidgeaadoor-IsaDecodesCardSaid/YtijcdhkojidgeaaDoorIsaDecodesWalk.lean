/-
  The walk of IsaDecodes.
-/
import Derived.Test.YtijcdhkojidgeaaDoorIM
import Derived.StillTailTactics
namespace Go.Proofs.YtijcdhkojidgeaaDoor.isaDecodes
set_option linter.unusedVariables false
set_option linter.unusedSimpArgs false
open Go.RowKit

set_option maxRecDepth 100000 in
set_option maxHeartbeats 8000000 in
theorem walk (w : World) (hL : LaidI w) (s : ByteArray) (p : Int) (ws : s.size ≤ maxLen) (wp : (Lit.int .i64 p).wf = true) :
    Calls Tryd.prog 5 #[.string s, .int .i64 p] w fun e w' => e = .returned (.bool true) ∧ Below w.heap.size w w' := by
  unfold maxLen at ws
  have hp := int_bd' wp
  clear wp
  have KS := Lib.hid (smallP w hL)
  have K0 := Lib.hid (Kp.mk hL (Below.refl _ _))
  clear hL
  by_cases h300 : 300 < s.size
  · have hd : (300 : Int) < s.size := by omega
    go_enter Tryd.func5, Tryd.ntmps5
    go_wp2_with fail
    refine KS.out.mono ?_; rintro e w1 ⟨rfl, hb⟩
    have HB := Lib.hid hb; clear hb
    go_wp2_with fail
    go_ret
    exact ⟨rfl, HB.out⟩
  have hd : decide ((300 : Int) < s.size) = false := decide_eq_false (by omega)
  have hd' : decide (300 < s.size) = false := decide_eq_false (by omega)
  by_cases hin : 0 ≤ p ∧ p ≤ s.size - 8
  · obtain ⟨n, rfl⟩ := Int.eq_ofNat_of_zero_le (a := p) hin.1
    have hn8 : n + 8 ≤ s.size := by omega
    obtain ⟨ins, hins⟩ : ∃ i, insAt s n = i := ⟨_, rfl⟩
    have HI := Lib.hid hins
    obtain ⟨yes, hyes⟩ : ∃ y, rightB (insAt s n) = y := ⟨_, rfl⟩
    have HD := Lib.hid (fun (W : World) (hF : FormsAt W) => decInP s n W (by omega) hF hn8 yes hyes)
    have hE := enc_at s n hn8
    have d0 : decide ((n : Int) < 0) = false := decide_eq_false (by omega)
    have d1 : decide ((s.size : Int) < n) = false := decide_eq_false (by omega)
    have d1' : decide (s.size < n) = false := decide_eq_false (by omega)
    have d2 : decide ((s.size : Int) - n < 8) = false := decide_eq_false (by omega)
    cases yes
    · obtain ⟨m, hm⟩ : ∃ m, W1.valOf 4 true (W1.bytesAt s ((n : Int) + 4) 4) = m := ⟨_, rfl⟩
      have HG := Lib.hid (fun W => W1.get_yes s ((n : Int) + 4) 4 true W (by omega) ⟨.inr (.inr (.inl rfl)), by omega, by omega⟩)
      rw [hm] at HG
      have e0 : s.data.toList.getD n 0 = s[n] := getD_at s n (by omega)
      have e1 : s.data.toList.getD (n + 1) 0 = s[n + 1] := getD_at s (n + 1) (by omega)
      have e2 : s.data.toList.getD (n + 2) 0 = s[n + 2] := getD_at s (n + 2) (by omega)
      have e3 : s.data.toList.getD (n + 3) 0 = s[n + 3] := getD_at s (n + 3) (by omega)
      have hyes' : rightB ⟨s[n].toNat, s[n + 1].toNat, s[n + 2].toNat, s[n + 3].toNat, m⟩ = false := by
        rw [← hyes]; unfold insAt; rw [e0, e1, e2, e3, hm]
      have HY := Lib.hid hyes'
      have HEN := Lib.hid (fun W h => encNoP 0 0 0 0 0 W h (by decide))
      clear e0 e1 e2 e3 hyes hyes' hE hm hins HI
      go_enter Tryd.func5, Tryd.ntmps5
      go_wp2_with fail
      refine KS.out.mono ?_; rintro e w1 ⟨rfl, hb⟩
      have K1 := Lib.hid (K0.out.call hb); clear hb
      go_wp2_with fail
      refine (HD.out _ K1.out.laid.forms).mono ?_; rintro e w2 ⟨rfl, hb⟩
      have K2 := Lib.hid ((K1.out.call hb).alloc (.cells #[.int .i64 0, .int .i64 0, .int .i64 0, .int .i64 0, .int .i64 0] 23)); clear hb
      have P2 := Lib.hid (block_new w2 (.cells #[.int .i64 0, .int .i64 0, .int .i64 0, .int .i64 0, .int .i64 0] 23))
      simp only [if_neg (show ¬ (false = true) by decide)]
      go_wp2_with fail
      refine (HEN.out _ K2.out.laid.forms).mono ?_; rintro e w3 ⟨rfl, hb⟩
      have K3 := Lib.hid (K2.out.call hb)
      have P3 := Lib.hid (blkKeep P2.out hb); clear hb
      go_wp2_with fail
      refine (HG.out _).mono ?_; rintro e w' ⟨rfl, rfl⟩
      have c0 : w3.cell? ⟨w2.heap.size, 0, none⟩ = some (.int .i64 0) := blk_cell P3.out 0
      have c1 : w3.cell? ⟨w2.heap.size, 1, none⟩ = some (.int .i64 0) := blk_cell P3.out 1
      have c2 : w3.cell? ⟨w2.heap.size, 2, none⟩ = some (.int .i64 0) := blk_cell P3.out 2
      have c3 : w3.cell? ⟨w2.heap.size, 3, none⟩ = some (.int .i64 0) := blk_cell P3.out 3
      have c4 : w3.cell? ⟨w2.heap.size, 4, none⟩ = some (.int .i64 0) := blk_cell P3.out 4
      have x1 : IntKind.i64.wrap ((n : Int) + 1) = (n : Int) + 1 := IntWalk.i64_in _ (by omega)
      have x2 : IntKind.i64.wrap ((n : Int) + 2) = (n : Int) + 2 := IntWalk.i64_in _ (by omega)
      have x3 : IntKind.i64.wrap ((n : Int) + 3) = (n : Int) + 3 := IntWalk.i64_in _ (by omega)
      have y1 : ((n : Int) + 1).toNat = n + 1 := by omega
      have y2 : ((n : Int) + 2).toNat = n + 2 := by omega
      have y3 : ((n : Int) + 3).toNat = n + 3 := by omega
      have z0 : n < s.size := by omega
      have z1 : n + 1 < s.size := by omega
      have z2 : n + 2 < s.size := by omega
      have z3 : n + 3 < s.size := by omega
      have v1 : (n : Int) + 1 < s.size := by omega
      have v2 : (n : Int) + 2 < s.size := by omega
      have v3 : (n : Int) + 3 < s.size := by omega
      have u1 : 0 ≤ (n : Int) + 1 := by omega
      have u2 : 0 ≤ (n : Int) + 2 := by omega
      have u3 : 0 ≤ (n : Int) + 3 := by omega
      go_wp2_with fail
      go_still_tail 28, (by kernel_rfl)
      change wpList _ _ _ _ _ w3.drew
      go_wp2_with fail
      refine (rightP _ _ _ _ _ w3.drew ?hFF).mono ?_
      case hFF => exact K3.out.laid.forms.keep ((Below.refl _ _).drew)
      simp only [wrap_byte]
      rw [HY.out]
      rintro e w4 ⟨rfl, hb⟩
      have HB := Lib.hid (K3.out.below.trans ((Below.refl _ _).drew.trans (hb.mono K3.out.below.size)))
      clear hb
      go_wp2_with fail
      go_ret
      exact ⟨rfl, HB.out⟩
    · obtain ⟨o, ho⟩ : ∃ o : Nat, (s.data.toList.getD n 0).toNat = o := ⟨_, rfl⟩
      obtain ⟨a, ha⟩ : ∃ a : Nat, (s.data.toList.getD (n + 1) 0).toNat = a := ⟨_, rfl⟩
      obtain ⟨b, hb⟩ : ∃ b : Nat, (s.data.toList.getD (n + 2) 0).toNat = b := ⟨_, rfl⟩
      obtain ⟨c, hc⟩ : ∃ c : Nat, (s.data.toList.getD (n + 3) 0).toNat = c := ⟨_, rfl⟩
      obtain ⟨m, hm⟩ : ∃ m, W1.valOf 4 true (W1.bytesAt s ((n : Int) + 4) 4) = m := ⟨_, rfl⟩
      have hI : insAt s n = ⟨o, a, b, c, m⟩ := by unfold insAt; rw [ho, ha, hb, hc, hm]
      have ho2 : o < 256 := by rw [← ho]; exact UInt8.toNat_lt _
      have ha2 : a < 256 := by rw [← ha]; exact UInt8.toNat_lt _
      have hb2 : b < 256 := by rw [← hb]; exact UInt8.toNat_lt _
      have hc2 : c < 256 := by rw [← hc]; exact UInt8.toNat_lt _
      rw [hI] at hE hyes HD
      have HE2 := Lib.hid (fun W h => encYesP o a b c m W h hyes ho2 ha2 hb2 hc2)
      have HR := Lib.hid (fun W h => rightP o a b c m W h)
      rw [hyes] at HR
      have hDD : Hid (∀ (W : World), FormsAt W → Calls Tryd.prog 11 #[.string s, .int .i64 n] W fun e w' => e = .returned (.tuple #[.agg #[.int .i64 o, .int .i64 a, .int .i64 b, .int .i64 c, .int .i64 m], .bool true]) ∧ Below W.heap.size W w') := HD
      obtain ⟨E, hEE⟩ : ∃ E, encS ⟨o, a, b, c, m⟩ = E := ⟨_, rfl⟩
      rw [hEE] at hE HE2
      have hbq : (E.toList == (s.extract n (n + 8)).toList) = true := by rw [hE]; simp
      have hx8 : IntKind.i64.wrap ((n : Int) + 8) = (n : Int) + 8 := IntWalk.i64_in _ (by omega)
      have hn1 : n ≤ n + 8 := by omega
      have hn2 : (n : Int) + 8 ≤ s.size := by omega
      have ht8 : ((n : Int) + 8).toNat = n + 8 := by omega
      clear ho ha hb hc hm hI hE hyes HD hEE hins HI
      go_enter Tryd.func5, Tryd.ntmps5
      go_wp2_with fail
      refine KS.out.mono ?_; rintro e w1 ⟨rfl, hb⟩
      have K1 := Lib.hid (K0.out.call hb); clear hb
      go_wp2_with fail
      refine (hDD.out _ K1.out.laid.forms).mono ?_; rintro e w2 ⟨rfl, hb⟩
      have K2 := Lib.hid ((K1.out.call hb).alloc (.cells #[.int .i64 o, .int .i64 a, .int .i64 b, .int .i64 c, .int .i64 m] 23)); clear hb
      have P2 := Lib.hid (block_new w2 (.cells #[.int .i64 o, .int .i64 a, .int .i64 b, .int .i64 c, .int .i64 m] 23))
      go_wp2_with fail
      refine (HE2.out _ K2.out.laid.forms).mono ?_; rintro e w3 ⟨rfl, hb⟩
      have K3 := Lib.hid (K2.out.call hb)
      have P3 := Lib.hid (blkKeep P2.out hb); clear hb
      have c0 : w3.cell? ⟨w2.heap.size, 0, none⟩ = some (.int .i64 o) := blk_cell P3.out 0
      have c1 : w3.cell? ⟨w2.heap.size, 1, none⟩ = some (.int .i64 a) := blk_cell P3.out 1
      have c2 : w3.cell? ⟨w2.heap.size, 2, none⟩ = some (.int .i64 b) := blk_cell P3.out 2
      have c3 : w3.cell? ⟨w2.heap.size, 3, none⟩ = some (.int .i64 c) := blk_cell P3.out 3
      have c4 : w3.cell? ⟨w2.heap.size, 4, none⟩ = some (.int .i64 m) := blk_cell P3.out 4
      go_wp2_with fail
      refine (HR.out _ K3.out.laid.forms).mono ?_; rintro e w4 ⟨rfl, hb⟩
      have HB := Lib.hid (K3.out.call hb).below; clear hb
      clear c0 c1 c2 c3 c4
      go_wp2_with fail
      go_ret
      exact ⟨rfl, HB.out⟩
  · have HD := Lib.hid (fun W => decOutP s p W (by omega) (by omega))
    by_cases h0 : p < 0
    · skip
      go_enter Tryd.func5, Tryd.ntmps5
      go_wp2_with fail
      refine KS.out.mono ?_; rintro e w1 ⟨rfl, hb⟩
      have K1 := Lib.hid (K0.out.call hb); clear hb
      go_wp2_with fail
      refine (HD.out _).mono ?_; rintro e w2 ⟨rfl, hb⟩
      have HB := Lib.hid (((K1.out.call hb).alloc (.cells #[.int .i64 0, .int .i64 0, .int .i64 0, .int .i64 0, .int .i64 0] 23)).below); clear hb
      go_wp2_with fail
      go_ret
      exact ⟨rfl, HB.out⟩
    · have e0 : decide (p < 0) = false := decide_eq_false h0
      obtain ⟨n, rfl⟩ := Int.eq_ofNat_of_zero_le (a := p) (by omega)
      by_cases h1 : s.size < n
      · have h1' : (s.size : Int) < n := by omega
        skip
        go_enter Tryd.func5, Tryd.ntmps5
        go_wp2_with fail
        refine KS.out.mono ?_; rintro e w1 ⟨rfl, hb⟩
        have K1 := Lib.hid (K0.out.call hb); clear hb
        go_wp2_with fail
        refine (HD.out _).mono ?_; rintro e w2 ⟨rfl, hb⟩
        have HB := Lib.hid (((K1.out.call hb).alloc (.cells #[.int .i64 0, .int .i64 0, .int .i64 0, .int .i64 0, .int .i64 0] 23)).below); clear hb
        go_wp2_with fail
        go_ret
        exact ⟨rfl, HB.out⟩
      · have e1 : decide (s.size < n) = false := decide_eq_false h1
        have e1' : decide ((s.size : Int) < n) = false := decide_eq_false (by omega)
        have h2 : (s.size : Int) - n < 8 := by omega
        skip
        go_enter Tryd.func5, Tryd.ntmps5
        go_wp2_with fail
        refine KS.out.mono ?_; rintro e w1 ⟨rfl, hb⟩
        have K1 := Lib.hid (K0.out.call hb); clear hb
        go_wp2_with fail
        refine (HD.out _).mono ?_; rintro e w2 ⟨rfl, hb⟩
        have HB := Lib.hid (((K1.out.call hb).alloc (.cells #[.int .i64 0, .int .i64 0, .int .i64 0, .int .i64 0, .int .i64 0] 23)).below); clear hb
        go_wp2_with fail
        go_ret
        exact ⟨rfl, HB.out⟩
end Go.Proofs.YtijcdhkojidgeaaDoor.isaDecodes
