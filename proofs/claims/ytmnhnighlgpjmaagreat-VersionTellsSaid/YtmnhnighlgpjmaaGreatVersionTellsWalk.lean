/-
  The law VersionTells: its walk.
-/
import Derived.Test.YtmnhnighlgpjmaaGreatVLawZ
import Derived.Test.YtmnhnighlgpjmaaGreatVR4
import Derived.Test.YtmnhnighlgpjmaaGreatVR7
namespace Go.Proofs.YtmnhnighlgpjmaaGreat.versionTells
open Go.Proofs.YtmnhnighlgpjmaaGreat
set_option linter.unusedVariables false
set_option linter.unusedSimpArgs false
open Go.RowKit

set_option maxRecDepth 100000 in
set_option maxHeartbeats 8000000 in
theorem walk (w : World) (x : Value) (l : VL) (av : ByteArray) (az : ByteArray) (hr : VRow w w.heap.size x l) (_ : av.size ≤ maxLen) (_ : az.size ≤ maxLen) :
    Calls Tryz.prog 3 #[x, .string av, .string az] w fun e w' => e = .returned (.bool true) ∧ Below w.heap.size w w' := by
  obtain ⟨v, rfl⟩ := str_of av
  obtain ⟨z, rfl⟩ := str_of az
  have hW := Nat.le_refl w.heap.size
  have HSM := Lib.hid (smallVP w)
  have HR := Lib.hid hr
  obtain ⟨xA, xcap, hx, hx1, hx2, _⟩ := id hr
  subst hx
  have hsv := bs_size v
  have hsz := bs_size z
  cases hfw : fewV l with
  | false =>
    clear hr hsv hsz
    have HFP := Lib.hid (fun w2 (h : Below w.heap.size w w2) => fewVP _ l w2 _ (HR.out.keep h))
    rw [hfw] at HFP
    clear hfw
    go_enter Tryz.func3, Tryz.ntmps3
    go_wp2_with fail
    refine HSM.out.mono ?_; rintro e w1 ⟨rfl, hb⟩
    have HB := Lib.hid hb
    clear hb
    go_wp2_with fail
    refine (HFP.out _ HB.out).mono ?_; rintro e w2 ⟨rfl, rfl⟩
    go_wp2_with fail
    go_ret
    exact ⟨rfl, HB.out⟩
  | true =>
    have HFP := Lib.hid (fun w2 (h : Below w.heap.size w w2) => fewVP _ l w2 _ (HR.out.keep h))
    rw [hfw] at HFP
    have HFW := Lib.hid (fewV_fw hfw)
    clear hfw hr
    by_cases hvc : (bs v).size ≤ 100
    · have hv1 : v.length ≤ 100 := by omega
      by_cases hzc : (bs z).size ≤ 100
      · have hz1 : z.length ≤ 100 := by omega
        clear hsv hsz
        go_enter Tryz.func3, Tryz.ntmps3
        go_wp2_with fail
        refine HSM.out.mono ?_; rintro e w1 ⟨rfl, hb⟩
        have HB := Lib.hid hb
        have HR1 := Lib.hid (HR.out.keep hb)
        clear hb HSM HR
        go_wp2_with fail
        refine (HFP.out _ HB.out).mono ?_; rintro e w2 ⟨rfl, rfl⟩
        clear HFP
        have HB1 := HB
        obtain ⟨rb, hrb⟩ : ∃ rb, rightV l = rb := ⟨_, rfl⟩
        obtain ⟨sb, hsb⟩ : ∃ sb, svB l v z = sb := ⟨_, rfl⟩
        have HRB := Lib.hid hrb
        have HSB := Lib.hid hsb
        have hbb : (rb != rb) = false := by cases rb <;> rfl
        have hss : (sb != sb) = false := by cases sb <;> rfl
        have HV1 := Lib.hid hv1
        have HRA := Lib.hid (rightFw (c := rb) HFW.out hrb HR1.out)
        clear hrb hsb hv1 hz1
        go_wp2_with fail
        refine HRA.out.mono ?_; rintro e w3 ⟨rfl, hB⟩
        have HB3 := Lib.hid (below3 HB1.out hB hW)
        have HR3 := Lib.hid (HR1.out.keep hB)
        clear hB HRA
        have HRX : Hid (Calls Tryz.prog 7 _ _ _) := Lib.hid (rRightP _ l w3 HFW.out HR3.out)
        rw [HRB.out] at HRX
        go_wp2_with fail
        refine HRX.out.mono ?_; rintro e w4 ⟨rfl, hB⟩
        have HB4 := Lib.hid (below3 HB3.out hB hW)
        have HR4 := Lib.hid (HR3.out.keep hB)
        clear hB HRX
        have HSA := Lib.hid (servesFw (c := sb) HFW.out HV1.out HSB.out HR4.out)
        go_wp2_with fail
        refine HSA.out.mono ?_; rintro e w5 ⟨rfl, hB⟩
        have HB5 := Lib.hid (below3 HB4.out hB hW)
        have HR5 := Lib.hid (HR4.out.keep hB)
        clear hB HSA
        have HSX := Lib.hid (rServesP _ l v z w5 HFW.out HV1.out HR5.out)
        rw [HSB.out] at HSX
        go_wp2_with fail
        refine HSX.out.mono ?_; rintro e w6 ⟨rfl, hB⟩
        have HB6 := Lib.hid (below3 HB5.out hB hW)
        have HR6 := Lib.hid (HR5.out.keep hB)
        clear hB HSX
        have HLA := Lib.hid (lineFw HFW.out HV1.out HR6.out)
        go_wp2_with fail
        refine HLA.out.mono ?_; rintro e w7 ⟨u7, L7, rfl, hlo7, hl7, hs7, hB⟩
        have HB7 := Lib.hid (below3 HB6.out hB hW)
        have HR7 := Lib.hid (HR6.out.keep hB)
        have HU7 := Lib.hid hs7
        have HL7 := Lib.hid hlo7
        clear hB HLA hs7 hlo7
        have HLX := Lib.hid (rLineP _ l v w7 HFW.out HV1.out HR7.out)
        go_wp2_with fail
        refine HLX.out.mono ?_; rintro e w8 ⟨u8, L8, rfl, hlo8, hl8, hs8, hB⟩
        have HB8 := Lib.hid (below3 HB7.out hB hW)
        have HR8 := Lib.hid (HR7.out.keep hB)
        have HSM := Lib.hid (sameSP u7 u8 L7 L8 w8 (HU7.out.keep hB) hs8)
        rw [decide_eq_true (HL7.out.eq hlo8)] at HSM
        clear hB HLX hs8 hlo8 HU7 HL7
        go_wp2_with fail
        refine HSM.out.mono ?_; rintro e w9 ⟨rfl, hB⟩
        have HB9 := Lib.hid (below3 HB8.out hB hW)
        have HR9 := Lib.hid (HR8.out.keep hB)
        clear hB HSM
        have HOA := Lib.hid (orderFw (L := if rightV l = true then orderOf l else []) HFW.out rfl HR9.out)
        obtain ⟨OL, hOL⟩ : ∃ OL, (if rightV l = true then orderOf l else []) = OL := ⟨_, rfl⟩
        rw [hOL] at HOA
        go_wp2_with fail
        refine HOA.out.mono ?_; rintro e w10 ⟨u10, rfl, hs10, hB⟩
        have HB10 := Lib.hid (below3 HB9.out hB hW)
        have HR10 := Lib.hid (HR9.out.keep hB)
        have HU10 := Lib.hid hs10
        clear hB HOA hs10
        have HOX := Lib.hid (rOrderP _ l w10 HFW.out HR10.out)
        go_wp2_with fail
        refine HOX.out.mono ?_; rintro e w11 ⟨u11, rfl, hs11, hB⟩
        rw [hOL] at hs11
        have HB11 := Lib.hid (below3 HB10.out hB hW)
        have HSN := Lib.hid (sameSP u10 u11 OL OL w11 (HU10.out.keep hB) hs11)
        rw [decide_eq_true rfl] at HSN
        clear hB HOX hs11 HU10 hOL
        go_wp2_with fail
        refine HSN.out.mono ?_; rintro e w12 ⟨rfl, hB⟩
        have HB12 := Lib.hid (below3 HB11.out hB hW)
        clear hB HSN
        go_wp2_with fail
        go_ret
        exact ⟨rfl, HB12.out⟩
      · clear hsv hsz
        go_enter Tryz.func3, Tryz.ntmps3
        go_wp2_with fail
        refine HSM.out.mono ?_; rintro e w1 ⟨rfl, hb⟩
        have HB := Lib.hid hb
        clear hb
        go_wp2_with fail
        refine (HFP.out _ HB.out).mono ?_; rintro e w2 ⟨rfl, rfl⟩
        go_wp2_with fail
        go_ret
        exact ⟨rfl, HB.out⟩
    · clear hsv hsz
      go_enter Tryz.func3, Tryz.ntmps3
      go_wp2_with fail
      refine HSM.out.mono ?_; rintro e w1 ⟨rfl, hb⟩
      have HB := Lib.hid hb
      clear hb
      go_wp2_with fail
      refine (HFP.out _ HB.out).mono ?_; rintro e w2 ⟨rfl, rfl⟩
      go_wp2_with fail
      go_ret
      exact ⟨rfl, HB.out⟩
end Go.Proofs.YtmnhnighlgpjmaaGreat.versionTells

