/-
  The walk of the law JournalForms.
-/
import Derived.Test.YthdmcjiccbgknaaJ22
import Derived.Test.YthdmcjiccbgknaaJ6
namespace Go.Proofs.Ythdmcjiccbgknaa.journalForms
set_option linter.unusedVariables false
set_option linter.unusedSimpArgs false
open Go.RowKit

set_option maxRecDepth 100000 in
set_option maxHeartbeats 16000000 in
theorem walk (W : World) (s more : ByteArray) (w0 : s.size ≤ 9223372036854775807) (w1 : more.size ≤ 9223372036854775807) :
    Calls Try.prog 6 #[.string s, .string more] W fun e w' => e = .returned (.bool true) ∧ Below W.heap.size W w' := by
  have HS := Lib.hid (small7 W)
  by_cases h1 : 1000 < s.size
  · have k1 : decide ((s.size : Int) > 1000) = true := by rw [decide_eq_true_iff]; omega
    have k2 : decide ((1000 : Int) < (s.size : Int)) = true := by rw [decide_eq_true_iff]; omega
    clear h1
    go_enter Try.func6, Try.ntmps6
    go_wp2_with fail
    refine HS.out.mono ?_; rintro e w2 ⟨rfl, hb2⟩
    have HB := Lib.hid hb2; clear hb2
    go_wp2_with fail
    go_ret
    exact ⟨rfl, HB.out⟩
  · have k1 : decide ((s.size : Int) > 1000) = false := by rw [decide_eq_false_iff_not]; omega
    have k2 : decide ((1000 : Int) < (s.size : Int)) = false := by rw [decide_eq_false_iff_not]; omega
    by_cases h2 : 1000 < more.size
    · have k3 : decide ((more.size : Int) > 1000) = true := by rw [decide_eq_true_iff]; omega
      have k4 : decide ((1000 : Int) < (more.size : Int)) = true := by rw [decide_eq_true_iff]; omega
      clear h1 h2
      go_enter Try.func6, Try.ntmps6
      go_wp2_with fail
      refine HS.out.mono ?_; rintro e w2 ⟨rfl, hb2⟩
      have HB := Lib.hid hb2; clear hb2
      go_wp2_with fail
      go_ret
      exact ⟨rfl, HB.out⟩
    · have k3 : decide ((more.size : Int) > 1000) = false := by rw [decide_eq_false_iff_not]; omega
      have k4 : decide ((1000 : Int) < (more.size : Int)) = false := by rw [decide_eq_false_iff_not]; omega
      have H1 := Lib.hid h1
      have H2 := Lib.hid h2
      have HW := Lib.hid (write0 1 (by decide) s (by omega))
      have HBY := Lib.hid (bytes0 1 (by decide) s)
      have HCM : Hid (Calm { dk0 with pend := pcs 1 s.size 0 s }) := Lib.hid ⟨rfl, rfl⟩
      have hpl : (pcs 1 s.size 0 s).length ≤ s.size := by first | exact pcs_length _ _ _ _ | exact pcs_len _ _ _ _
      obtain ⟨S1, hS1⟩ : ∃ S1, ({ dk0 with pend := pcs 1 s.size 0 s } : Dk) = S1 := ⟨_, rfl⟩
      have HPL : Hid (S1.pend.length ≤ 1000) := Lib.hid (by rw [← hS1]; exact Nat.le_trans hpl (by omega))
      rw [hS1] at HW HBY HCM
      have HRD : Hid (S1.read 1 = (s, 0)) := Lib.hid (by rw [← HBY.out]; exact read_of S1 1 (by decide) HCM.out.dn)
      clear h1 h2 hS1 hpl
      go_enter Try.func6, Try.ntmps6
      go_wp2_with fail
      refine HS.out.mono ?_; rintro e w2 ⟨rfl, hb2⟩
      have HB := Lib.hid hb2; clear hb2 HS
      have HC := Lib.hid (dNew w2)
      go_wp2_with fail
      refine HC.out.mono ?_; rintro e w3 ⟨d, rfl, h3⟩
      have HD := Lib.hid (h3.base HB.out); clear h3 HC HB
      have HC := Lib.hid (dWrite HD.out 1 0 s (by have := H1.out; show 0 + _ ≤ _; omega))
      rw [show dk0.write 1 0 s = (0, S1) from HW.out] at HC
      go_wp2_with fail
      refine HC.out.mono ?_; rintro e w4 ⟨rfl, h4⟩
      have HD1 := Lib.hid h4; clear h4 HC HD
      simp only at HD1
      rcases hp : parseS s with _ | l
      · have HP := Lib.hid hp; clear hp
        have HC := Lib.hid (jOpen_bad HD1.out 1 (by decide) s HRD.out (by have := H1.out; omega) HP.out)
        go_wp2_with fail
        refine HC.out.mono ?_; rintro e w5 ⟨rfl, h5⟩
        have HD2 := Lib.hid h5; clear h5 HC HD1
        have HC := Lib.hid (rowsP s w5 (by have := H1.out; omega))
        rw [HP.out] at HC
        go_wp2_with fail
        refine HC.out.mono ?_; rintro e w6 ⟨v, rfl, hb⟩
        have HE := Lib.hid (HD2.out.below hb).2; clear hb HC
        go_wp2_with fail
        go_ret
        exact ⟨rfl, HE.out⟩
      · have HP := Lib.hid hp; clear hp
        have HLL : Hid (l.length ≤ 1000000) := Lib.hid (by have h1 := parse_ext s l HP.out; have h2 := ext_len l; have := H1.out; omega)
        have HC := Lib.hid (jOpen HD1.out 1 (by decide) s l HRD.out (by have := H1.out; omega) HP.out)
        go_wp2_with fail
        refine HC.out.mono ?_; rintro e w5 ⟨lb, v5, rfl, h5, -⟩
        have HL := Lib.hid h5; clear h5 HC HD1
        have HT := Lib.hid HL.out.dsk.1.tight
        have HC := Lib.hid (rowsP s w5 (by have := H1.out; omega))
        rw [HP.out] at HC
        go_wp2_with fail
        refine HC.out.mono ?_; rintro e w6 ⟨v, rfl, hown, hb⟩
        have HV := Lib.hid (Row.of_own hown)
        have HOWN := Lib.hid hown
        replace HT := Lib.hid (HT.out.below hb)
        replace HL := Lib.hid (HL.out.below hb)
        clear hown hb HC
        have HC := Lib.hid (jAll HL.out)
        go_wp2_with fail
        refine HC.out.mono ?_; rintro e w7 ⟨u, rfl, hu, hb⟩
        have HU := Lib.hid hu
        replace HV := Lib.hid (HV.out.keep hb)
        replace HOWN := Lib.hid (own_belowJ HOWN.out hb)
        replace HT := Lib.hid (HT.out.below hb)
        replace HL := Lib.hid (HL.out.below hb)
        clear hu hb HC
        have HC := Lib.hid (sameP l l u v w7 HU.out HV.out (by have := HLL.out; omega) (by have := HLL.out; omega))
        rw [decide_eq_true rfl] at HC
        go_wp2_with fail
        refine HC.out.mono ?_; rintro e w8 ⟨rfl, hb⟩
        replace HOWN := Lib.hid (own_belowJ HOWN.out hb)
        replace HT := Lib.hid (HT.out.below hb)
        clear HV
        have HD2 := Lib.hid (HL.out.below hb).dsk
        clear hb HC HU HL
        by_cases h16 : s.size < 16
        · have k5 : decide ((s.size : Int) < 16) = true := by rw [decide_eq_true_iff]; omega
          have HE := Lib.hid HD2.out.2
          clear h16
          go_wp2_with fail
          go_ret
          exact ⟨rfl, HE.out⟩
        · have k5 : decide ((s.size : Int) < 16) = false := by rw [decide_eq_false_iff_not]; omega
          have H16 := Lib.hid h16
          clear h16
          have HW2 := Lib.hid (Calm.write HCM.out (f := 1) (a := s.size) more (by decide) (by have := H1.out; have := H2.out; omega))
          have HB2 := Lib.hid (bytes_app more HBY.out)
          have HDN : Hid (({ S1 with pend := S1.pend ++ pcs 1 more.size s.size more } : Dk).down = false) := Lib.hid HCM.out.dn
          obtain ⟨S2, hS2⟩ : ∃ S2, ({ S1 with pend := S1.pend ++ pcs 1 more.size s.size more } : Dk) = S2 := ⟨_, rfl⟩
          rw [hS2] at HW2 HB2 HDN
          have HRD2 : Hid (S2.read 1 = (s ++ more, 0)) := Lib.hid (by rw [← HB2.out]; exact read_of S2 1 (by decide) HDN.out)
          have HPM := Lib.hid (parse_more s more l (by have := H16.out; omega) HP.out)
          clear hS2
          have HC := Lib.hid (dWriteT HT.out HD2.out.2 1 s.size more (by have := H2.out; have := HPL.out; omega))
          rw [show S1.write 1 (s.size : Int) more = (0, S2) from HW2.out] at HC
          go_wp2_with fail
          refine HC.out.mono ?_; rintro e w9 ⟨rfl, h9, hk9⟩
          have HD3 := Lib.hid h9
          replace HOWN := Lib.hid (own_heapJ HOWN.out fun k hk hkl => hk9 k hkl (World.ownsRow.lt HOWN.out k hk).1)
          clear h9 hk9 HC HD2 HT
          simp only at HD3
          have HC := Lib.hid (jOpen HD3.out 1 (by decide) (s ++ more) l HRD2.out (by rw [ByteArray.size_append]; have := H1.out; have := H2.out; omega) HPM.out)
          go_wp2_with fail
          refine HC.out.mono ?_; rintro e w10 ⟨lb2, v10, rfl, h10, hb⟩
          have HL := Lib.hid h10
          replace HOWN := Lib.hid (own_belowJ HOWN.out hb)
          clear h10 hb HC HD3
          have HC := Lib.hid (jAll HL.out)
          go_wp2_with fail
          refine HC.out.mono ?_; rintro e w11 ⟨u2, rfl, hu, hb⟩
          have HU := Lib.hid hu
          replace HOWN := Lib.hid (own_belowJ HOWN.out hb)
          replace HL := Lib.hid (HL.out.below hb)
          clear hu hb HC
          have HC := Lib.hid (sameP l l u2 v w11 HU.out (Row.of_own HOWN.out) (by have := HLL.out; omega) (by have := HLL.out; omega))
          rw [decide_eq_true rfl] at HC
          go_wp2_with fail
          refine HC.out.mono ?_; rintro e w12 ⟨rfl, hb⟩
          have HE := Lib.hid (HL.out.below hb).2
          clear hb HC HL
          go_wp2_with fail
          go_ret
          exact ⟨rfl, HE.out⟩
end Go.Proofs.Ythdmcjiccbgknaa.journalForms
