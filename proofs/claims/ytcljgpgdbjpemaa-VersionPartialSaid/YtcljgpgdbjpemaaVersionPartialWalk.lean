/-
  The law VersionPartial: its walk.
-/
import Derived.Test.YtcljgpgdbjpemaaVLawZ
namespace Go.Proofs.Ytcljgpgdbjpemaa
set_option linter.unusedVariables false
set_option linter.unusedSimpArgs false
open Go.RowKit

namespace versionPartial
set_option maxRecDepth 100000 in
set_option maxHeartbeats 8000000 in
theorem walk (w : World) (x : Value) (l : VL) (au av aw : ByteArray) (hr : VRow w w.heap.size x l) (_ : au.size ≤ maxLen) (_ : av.size ≤ maxLen) (_ : aw.size ≤ maxLen) :
    Calls Try.prog 4 #[x, .string au, .string av, .string aw] w fun e w' => e = .returned (.bool true) ∧ Below w.heap.size w w' := by
  obtain ⟨u, rfl⟩ := str_of au
  obtain ⟨v, rfl⟩ := str_of av
  obtain ⟨z, rfl⟩ := str_of aw
  have hW := Nat.le_refl w.heap.size
  have HSM := Lib.hid (smallVP w)
  have HR := Lib.hid hr
  have hsu := bs_size u
  have hsv := bs_size v
  have hsz := bs_size z
  cases hfw : fewV l with
  | false =>
    clear hr hsu hsv hsz
    have HFP := Lib.hid (fun w2 (h : Below w.heap.size w w2) => fewVP x l w2 _ (HR.out.keep h))
    rw [hfw] at HFP
    clear hfw
    go_enter Try.func4, Try.ntmps4
    go_wp2_with fail
    refine HSM.out.mono ?_; rintro e w1 ⟨rfl, hb⟩
    have HB := Lib.hid hb
    clear hb
    go_wp2_with fail
    refine (HFP.out _ HB.out).mono ?_; rintro e w2 ⟨rfl, rfl⟩
    go_wp2_with fail
    go_ret
    exact ⟨rfl, HB.out⟩
  | true =>
    have HFP := Lib.hid (fun w2 (h : Below w.heap.size w w2) => fewVP x l w2 _ (HR.out.keep h))
    rw [hfw] at HFP
    have HFW := Lib.hid (fewV_fw hfw)
    clear hfw hr
    by_cases huc : (bs u).size ≤ 100
    · have hu1 : u.length ≤ 100 := by omega
      by_cases hvc : (bs v).size ≤ 100
      · have hv1 : v.length ≤ 100 := by omega
        by_cases hzc : (bs z).size ≤ 100
        · have hz1 : z.length ≤ 100 := by omega
          clear hsu hsv hsz
          go_enter Try.func4, Try.ntmps4
          go_wp2_with fail
          refine HSM.out.mono ?_; rintro e w1 ⟨rfl, hb⟩
          have HB := Lib.hid hb
          have HR1 := Lib.hid (HR.out.keep hb)
          clear hb HSM HR
          go_wp2_with fail
          refine (HFP.out _ HB.out).mono ?_; rintro e w2 ⟨rfl, rfl⟩
          clear HFP
          have H1 := servesFw (x := v) (c := svB l u v) HFW.out hu1 rfl HR1.out
          cases ha : svB l u v with
          | false =>
            rw [ha] at H1
            replace H1 := Lib.hid H1
            have HA := Lib.hid ha
            clear ha
            go_wp2_with fail
            refine H1.out.mono ?_; rintro e w4 ⟨rfl, hB⟩
            have HR4 := Lib.hid (HR1.out.keep hB)
            have HB4 := Lib.hid (below3 HB.out hB hW)
            clear hB H1 HR1 HB
            have H2 := servesFw (x := z) (c := svB l v z) HFW.out hv1 rfl HR4.out
            cases hb : svB l v z with
            | false =>
              rw [hb] at H2
              replace H2 := Lib.hid H2
              have HBB := Lib.hid hb
              clear hb
              go_wp2_with fail
              refine H2.out.mono ?_; rintro e w5 ⟨rfl, hB⟩
              have HR5 := Lib.hid (HR4.out.keep hB)
              have HB5 := Lib.hid (below3 HB4.out hB hW)
              clear hB H2 HR4 HB4
              have H5 := Lib.hid (servesFw (x := u) HFW.out hu1 (svB_iff.2 (.refl u)) HR5.out)
              go_wp2_with fail
              refine H5.out.mono ?_; rintro e w6 ⟨rfl, hB⟩
              have HR6 := Lib.hid (HR5.out.keep hB)
              have HB6 := Lib.hid (below3 HB5.out hB hW)
              clear hB H5 HR5 HB5
              have HR7 := HR6
              have HB7 := HB6
              clear HR6 HB6
              have H7 := rightFw (c := rightV l) HFW.out rfl HR7.out
              cases hrv : rightV l with
              | false =>
                rw [hrv] at H7
                replace H7 := Lib.hid H7
                clear hrv
                go_wp2_with fail
                refine H7.out.mono ?_; rintro e w8 ⟨rfl, hB⟩
                have HB8 := Lib.hid (below3 HB7.out hB hW)
                clear hB H7
                go_wp2_with fail
                go_ret
                exact ⟨rfl, HB8.out⟩
              | true =>
                rw [hrv] at H7
                replace H7 := Lib.hid H7
                have HRV := Lib.hid hrv
                clear hrv
                by_cases huv : u = v
                · have hb : ((bs u).toList == (bs v).toList) = true := bytes_beq.2 (by rw [huv])
                  clear huv
                  go_wp2_with fail
                  refine H7.out.mono ?_; rintro e w8 ⟨rfl, hB⟩
                  have HB8 := Lib.hid (below3 HB7.out hB hW)
                  clear hB H7
                  go_wp2_with fail
                  go_ret
                  exact ⟨rfl, HB8.out⟩
                · have hb := str_beq huv
                  clear huv
                  go_wp2_with fail
                  refine H7.out.mono ?_; rintro e w8 ⟨rfl, hB⟩
                  have HB8 := Lib.hid (below3 HB7.out hB hW)
                  clear hB H7
                  go_wp2_with fail
                  go_ret
                  exact ⟨rfl, HB8.out⟩
            | true =>
              rw [hb] at H2
              replace H2 := Lib.hid H2
              have HBB := Lib.hid hb
              clear hb
              go_wp2_with fail
              refine H2.out.mono ?_; rintro e w5 ⟨rfl, hB⟩
              have HR5 := Lib.hid (HR4.out.keep hB)
              have HB5 := Lib.hid (below3 HB4.out hB hW)
              clear hB H2 HR4 HB4
              have H5 := Lib.hid (servesFw (x := u) HFW.out hu1 (svB_iff.2 (.refl u)) HR5.out)
              go_wp2_with fail
              refine H5.out.mono ?_; rintro e w6 ⟨rfl, hB⟩
              have HR6 := Lib.hid (HR5.out.keep hB)
              have HB6 := Lib.hid (below3 HB5.out hB hW)
              clear hB H5 HR5 HB5
              have HR7 := HR6
              have HB7 := HB6
              clear HR6 HB6
              have H7 := rightFw (c := rightV l) HFW.out rfl HR7.out
              cases hrv : rightV l with
              | false =>
                rw [hrv] at H7
                replace H7 := Lib.hid H7
                clear hrv
                go_wp2_with fail
                refine H7.out.mono ?_; rintro e w8 ⟨rfl, hB⟩
                have HB8 := Lib.hid (below3 HB7.out hB hW)
                clear hB H7
                go_wp2_with fail
                go_ret
                exact ⟨rfl, HB8.out⟩
              | true =>
                rw [hrv] at H7
                replace H7 := Lib.hid H7
                have HRV := Lib.hid hrv
                clear hrv
                by_cases huv : u = v
                · have hb : ((bs u).toList == (bs v).toList) = true := bytes_beq.2 (by rw [huv])
                  clear huv
                  go_wp2_with fail
                  refine H7.out.mono ?_; rintro e w8 ⟨rfl, hB⟩
                  have HB8 := Lib.hid (below3 HB7.out hB hW)
                  clear hB H7
                  go_wp2_with fail
                  go_ret
                  exact ⟨rfl, HB8.out⟩
                · have hb := str_beq huv
                  clear huv
                  go_wp2_with fail
                  refine H7.out.mono ?_; rintro e w8 ⟨rfl, hB⟩
                  have HB8 := Lib.hid (below3 HB7.out hB hW)
                  clear hB H7
                  go_wp2_with fail
                  go_ret
                  exact ⟨rfl, HB8.out⟩
          | true =>
            rw [ha] at H1
            replace H1 := Lib.hid H1
            have HA := Lib.hid ha
            clear ha
            go_wp2_with fail
            refine H1.out.mono ?_; rintro e w4 ⟨rfl, hB⟩
            have HR4 := Lib.hid (HR1.out.keep hB)
            have HB4 := Lib.hid (below3 HB.out hB hW)
            clear hB H1 HR1 HB
            have H2 := servesFw (x := z) (c := svB l v z) HFW.out hv1 rfl HR4.out
            cases hb : svB l v z with
            | false =>
              rw [hb] at H2
              replace H2 := Lib.hid H2
              have HBB := Lib.hid hb
              clear hb
              go_wp2_with fail
              refine H2.out.mono ?_; rintro e w5 ⟨rfl, hB⟩
              have HR5 := Lib.hid (HR4.out.keep hB)
              have HB5 := Lib.hid (below3 HB4.out hB hW)
              clear hB H2 HR4 HB4
              have H5 := Lib.hid (servesFw (x := u) HFW.out hu1 (svB_iff.2 (.refl u)) HR5.out)
              go_wp2_with fail
              refine H5.out.mono ?_; rintro e w6 ⟨rfl, hB⟩
              have HR6 := Lib.hid (HR5.out.keep hB)
              have HB6 := Lib.hid (below3 HB5.out hB hW)
              clear hB H5 HR5 HB5
              have HR7 := HR6
              have HB7 := HB6
              clear HR6 HB6
              have H7 := rightFw (c := rightV l) HFW.out rfl HR7.out
              cases hrv : rightV l with
              | false =>
                rw [hrv] at H7
                replace H7 := Lib.hid H7
                clear hrv
                go_wp2_with fail
                refine H7.out.mono ?_; rintro e w8 ⟨rfl, hB⟩
                have HB8 := Lib.hid (below3 HB7.out hB hW)
                clear hB H7
                go_wp2_with fail
                go_ret
                exact ⟨rfl, HB8.out⟩
              | true =>
                rw [hrv] at H7
                replace H7 := Lib.hid H7
                have HRV := Lib.hid hrv
                clear hrv
                by_cases huv : u = v
                · have hb : ((bs u).toList == (bs v).toList) = true := bytes_beq.2 (by rw [huv])
                  clear huv
                  go_wp2_with fail
                  refine H7.out.mono ?_; rintro e w8 ⟨rfl, hB⟩
                  have HB8 := Lib.hid (below3 HB7.out hB hW)
                  clear hB H7
                  go_wp2_with fail
                  go_ret
                  exact ⟨rfl, HB8.out⟩
                · have hb := str_beq huv
                  have hl9 := HFW.out.1
                  have HAN := Lib.hid (svB_anti (by omega) HRV.out huv HA.out)
                  clear huv
                  go_wp2_with fail
                  refine H7.out.mono ?_; rintro e w8 ⟨rfl, hB⟩
                  have HB8 := Lib.hid (below3 HB7.out hB hW)
                  have H8 := Lib.hid (servesFw HFW.out hv1 HAN.out (HR7.out.keep hB))
                  clear hB H7
                  go_wp2_with fail
                  refine H8.out.mono ?_; rintro e w9 ⟨rfl, hB⟩
                  have HB9 := Lib.hid (below3 HB8.out hB hW)
                  clear hB H8
                  go_wp2_with fail
                  go_ret
                  exact ⟨rfl, HB9.out⟩
            | true =>
              rw [hb] at H2
              replace H2 := Lib.hid H2
              have HBB := Lib.hid hb
              clear hb
              go_wp2_with fail
              refine H2.out.mono ?_; rintro e w5 ⟨rfl, hB⟩
              have HR5 := Lib.hid (HR4.out.keep hB)
              have HB5 := Lib.hid (below3 HB4.out hB hW)
              clear hB H2 HR4 HB4
              have H5 := Lib.hid (servesFw (x := u) HFW.out hu1 (svB_iff.2 (.refl u)) HR5.out)
              go_wp2_with fail
              refine H5.out.mono ?_; rintro e w6 ⟨rfl, hB⟩
              have HR6 := Lib.hid (HR5.out.keep hB)
              have HB6 := Lib.hid (below3 HB5.out hB hW)
              clear hB H5 HR5 HB5
              have H6 := Lib.hid (servesFw HFW.out hu1 (svB_trans HA.out HBB.out) HR6.out)
              go_wp2_with fail
              refine H6.out.mono ?_; rintro e w7 ⟨rfl, hB⟩
              have HR7 := Lib.hid (HR6.out.keep hB)
              have HB7 := Lib.hid (below3 HB6.out hB hW)
              clear hB H6 HR6 HB6
              have H7 := rightFw (c := rightV l) HFW.out rfl HR7.out
              cases hrv : rightV l with
              | false =>
                rw [hrv] at H7
                replace H7 := Lib.hid H7
                clear hrv
                go_wp2_with fail
                refine H7.out.mono ?_; rintro e w8 ⟨rfl, hB⟩
                have HB8 := Lib.hid (below3 HB7.out hB hW)
                clear hB H7
                go_wp2_with fail
                go_ret
                exact ⟨rfl, HB8.out⟩
              | true =>
                rw [hrv] at H7
                replace H7 := Lib.hid H7
                have HRV := Lib.hid hrv
                clear hrv
                by_cases huv : u = v
                · have hb : ((bs u).toList == (bs v).toList) = true := bytes_beq.2 (by rw [huv])
                  clear huv
                  go_wp2_with fail
                  refine H7.out.mono ?_; rintro e w8 ⟨rfl, hB⟩
                  have HB8 := Lib.hid (below3 HB7.out hB hW)
                  clear hB H7
                  go_wp2_with fail
                  go_ret
                  exact ⟨rfl, HB8.out⟩
                · have hb := str_beq huv
                  have hl9 := HFW.out.1
                  have HAN := Lib.hid (svB_anti (by omega) HRV.out huv HA.out)
                  clear huv
                  go_wp2_with fail
                  refine H7.out.mono ?_; rintro e w8 ⟨rfl, hB⟩
                  have HB8 := Lib.hid (below3 HB7.out hB hW)
                  have H8 := Lib.hid (servesFw HFW.out hv1 HAN.out (HR7.out.keep hB))
                  clear hB H7
                  go_wp2_with fail
                  refine H8.out.mono ?_; rintro e w9 ⟨rfl, hB⟩
                  have HB9 := Lib.hid (below3 HB8.out hB hW)
                  clear hB H8
                  go_wp2_with fail
                  go_ret
                  exact ⟨rfl, HB9.out⟩
        · clear hsu hsv hsz
          go_enter Try.func4, Try.ntmps4
          go_wp2_with fail
          refine HSM.out.mono ?_; rintro e w1 ⟨rfl, hb⟩
          have HB := Lib.hid hb
          clear hb
          go_wp2_with fail
          refine (HFP.out _ HB.out).mono ?_; rintro e w2 ⟨rfl, rfl⟩
          go_wp2_with fail
          go_ret
          exact ⟨rfl, HB.out⟩
      · clear hsu hsv hsz
        go_enter Try.func4, Try.ntmps4
        go_wp2_with fail
        refine HSM.out.mono ?_; rintro e w1 ⟨rfl, hb⟩
        have HB := Lib.hid hb
        clear hb
        go_wp2_with fail
        refine (HFP.out _ HB.out).mono ?_; rintro e w2 ⟨rfl, rfl⟩
        go_wp2_with fail
        go_ret
        exact ⟨rfl, HB.out⟩
    · clear hsu hsv hsz
      go_enter Try.func4, Try.ntmps4
      go_wp2_with fail
      refine HSM.out.mono ?_; rintro e w1 ⟨rfl, hb⟩
      have HB := Lib.hid hb
      clear hb
      go_wp2_with fail
      refine (HFP.out _ HB.out).mono ?_; rintro e w2 ⟨rfl, rfl⟩
      go_wp2_with fail
      go_ret
      exact ⟨rfl, HB.out⟩
end versionPartial
end Go.Proofs.Ytcljgpgdbjpemaa
