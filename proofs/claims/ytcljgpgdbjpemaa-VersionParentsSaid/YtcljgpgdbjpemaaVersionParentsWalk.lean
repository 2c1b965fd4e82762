/-
  The law VersionParents: its walk.
-/
import Derived.Test.YtcljgpgdbjpemaaVLawZ
namespace Go.Proofs.Ytcljgpgdbjpemaa.versionParents
open Go.Proofs.Ytcljgpgdbjpemaa
set_option linter.unusedVariables false
set_option linter.unusedSimpArgs false
open Go.RowKit

noncomputable def anyS (l : VL) (z : Str) (ps : List Str) : Bool := ps.any fun p => svB l p z
noncomputable def wantB (l : VL) (v z : Str) (L : VL) : Bool := decide (v = z) || L.any fun d => decide (d.nm = v) && anyS l z d.ps
theorem wantB_all {l : VL} (hl : l.length ≤ 900) (hr : rightV l = true) (v z : Str) : wantB l v z l = svB l v z := by
  obtain ⟨hg, _⟩ := rightV_gr hl hr
  rw [Bool.eq_iff_iff, svB_iff]
  unfold wantB anyS
  rw [Bool.or_eq_true, decide_eq_true_iff, List.any_eq_true]
  constructor
  · rintro (rfl | ⟨d, hd, h⟩)
    · exact .refl _
    · rw [Bool.and_eq_true, decide_eq_true_iff, List.any_eq_true] at h
      obtain ⟨h1, p, hp, h2⟩ := h
      exact .step (by rw [← h1, pars_mem hg.nd hd]; exact hp) (svB_iff.1 h2)
  · intro h
    cases h with
    | refl => exact .inl rfl
    | step h1 h2 =>
      obtain ⟨d, hd, hnm, hp, _⟩ := mem_pars h1
      refine .inr ⟨d, hd, ?_⟩
      rw [Bool.and_eq_true, decide_eq_true_iff, List.any_eq_true]
      exact ⟨hnm, _, hp, svB_iff.2 h2⟩
theorem wantB_snoc (l : VL) (v z : Str) (L : VL) (d : Vd) : wantB l v z (L ++ [d]) = (wantB l v z L || (decide (d.nm = v) && anyS l z d.ps)) := by
  unfold wantB; rw [List.any_append]; simp [Bool.or_assoc]
theorem anyS_take (l : VL) (z : Str) (ps : List Str) (j : Nat) (hj : j < ps.length) : anyS l z (ps.take (j + 1)) = (anyS l z (ps.take j) || svB l ps[j] z) := by
  unfold anyS; rw [List.take_succ_eq_append_getElem hj, List.any_append]; simp
def P1Rel (l : VL) (v z : Str) (w : World) (s i : Value) (wl : World) : Prop := ∃ (k : Nat) (b : Bool), i = .int .i64 k ∧ k ≤ l.length ∧ s = .bool b ∧ b = wantB l v z (l.take k) ∧ Below w.heap.size w wl
def P2Rel (l : VL) (v z : Str) (W0 : Bool) (d : Vd) (w : World) (s i : Value) (wl : World) : Prop := ∃ (j : Nat) (b : Bool), i = .int .i64 j ∧ j ≤ d.ps.length ∧ s = .bool b ∧ b = (W0 || anyS l z (d.ps.take j)) ∧ (d.nm ≠ v → j = 0) ∧ Below w.heap.size w wl
set_option maxRecDepth 100000 in
set_option maxHeartbeats 8000000 in
theorem walk (w : World) (x : Value) (l : VL) (av : ByteArray) (az : ByteArray) (hr : VRow w w.heap.size x l) (_ : av.size ≤ maxLen) (_ : az.size ≤ maxLen) :
    Calls Try.prog 5 #[x, .string av, .string az] w fun e w' => e = .returned (.bool true) ∧ Below w.heap.size w w' := by
  obtain ⟨v, rfl⟩ := str_of av
  obtain ⟨z, rfl⟩ := str_of az
  have hW := Nat.le_refl w.heap.size
  have HSM := Lib.hid (smallVP w)
  have HR := Lib.hid hr
  obtain ⟨xA, xcap, hx, hx1, hx2, _⟩ := id hr
  subst hx
  have hsv := bs_size v
  have hsz := bs_size z
  cases hfw : fewV l with
  | false =>
    clear hr hsv hsz
    have HFP := Lib.hid (fun w2 (h : Below w.heap.size w w2) => fewVP _ l w2 _ (HR.out.keep h))
    rw [hfw] at HFP
    clear hfw
    go_enter Try.func5, Try.ntmps5
    go_wp2_with fail
    refine HSM.out.mono ?_; rintro e w1 ⟨rfl, hb⟩
    have HB := Lib.hid hb
    clear hb
    go_wp2_with fail
    refine (HFP.out _ HB.out).mono ?_; rintro e w2 ⟨rfl, rfl⟩
    go_wp2_with fail
    go_ret
    exact ⟨rfl, HB.out⟩
  | true =>
    have HFP := Lib.hid (fun w2 (h : Below w.heap.size w w2) => fewVP _ l w2 _ (HR.out.keep h))
    rw [hfw] at HFP
    have HFW := Lib.hid (fewV_fw hfw)
    clear hfw hr
    by_cases hvc : (bs v).size ≤ 100
    · have hv1 : v.length ≤ 100 := by omega
      by_cases hzc : (bs z).size ≤ 100
      · have hz1 : z.length ≤ 100 := by omega
        clear hsv hsz
        go_enter Try.func5, Try.ntmps5
        go_wp2_with fail
        refine HSM.out.mono ?_; rintro e w1 ⟨rfl, hb⟩
        have HB := Lib.hid hb
        have HR1 := Lib.hid (HR.out.keep hb)
        clear hb HSM HR
        go_wp2_with fail
        refine (HFP.out _ HB.out).mono ?_; rintro e w2 ⟨rfl, rfl⟩
        clear HFP
        have H0 := rightFw (c := rightV l) HFW.out rfl HR1.out
        cases hrv : rightV l with
        | false =>
          rw [hrv] at H0
          replace H0 := Lib.hid H0
          clear hrv
          go_wp2_with fail
          refine H0.out.mono ?_; rintro e w3 ⟨rfl, hB⟩
          have HB3 := Lib.hid (below3 HB.out hB hW)
          clear hB H0
          go_wp2_with fail
          go_ret
          exact ⟨rfl, HB3.out⟩
        | true =>
          rw [hrv] at H0
          replace H0 := Lib.hid H0
          have HRV := Lib.hid hrv
          clear hrv
          go_wp2_with fail
          refine H0.out.mono ?_; rintro e w3 ⟨rfl, hB⟩
          have HB3 := Lib.hid (below3 HB.out hB hW)
          have HR3 := Lib.hid (HR1.out.keep hB)
          clear hB H0 HB HR1
          have hlm : l.length ≤ 12 := HFW.out.1
          have HRD := Lib.hid (fun wl (h : Below w3.heap.size w3 wl) => HR3.out.keep h)
          obtain ⟨b0, hb0⟩ : ∃ b, decide (v = z) = b := ⟨_, rfl⟩
          have hvz : ((bs v).toList == (bs z).toList) = b0 := by
            rw [← hb0, Bool.eq_iff_iff, bytes_beq, decide_eq_true_iff]
            exact ⟨bs_inj, fun h => by rw [h]⟩
          have HB0 : Hid (b0 = wantB l v z (l.take 0)) := Lib.hid (by rw [← hb0]; unfold wantB; simp)
          clear hb0
          go_wp2_with fail
          clear hvz
          go_loopw [8, 9] (fun s i wl => P1Rel l v z w3 s i wl) (fun _ i _ => l.length - (intOf i).toNat)
          case atStart => exact ⟨0, _, rfl, by omega, rfl, HB0.out, Below.refl _ _⟩
          case round =>
            clear HB0
            obtain ⟨k, b, rfl, hk, rfl, hbw, hB⟩ := hrel
            by_cases hlt : k < l.length
            · obtain ⟨A2, cap2, he, _, _, _, hrd⟩ := HRD.out wr hB
              injection he with e1 e2 e3
              subst e1
              clear e2 e3
              obtain ⟨bb, off, rfl, hb1, hc⟩ := hrd (by omega)
              obtain ⟨pv, c1, c2, hu⟩ := hc k hlt
              have hTk : l.take (k + 1) = l.take k ++ [l[k]] := List.take_succ_eq_append_getElem hlt
              have hfd := HFW.out.2 _ (List.getElem_mem hlt)
              obtain ⟨d, hd⟩ : ∃ d, l[k] = d := ⟨_, rfl⟩
              rw [hd] at c1 hu hTk hfd
              obtain ⟨uA, ucap, hu1, hu2, hu3, hu4, hur⟩ := id hu
              subst hu1
              have hpm : d.ps.length ≤ 6 := hfd.1
              have HPS := Lib.hid hfd.2.2
              have HSN : Hid (wantB l v z (l.take (k + 1)) = (b || (decide (d.nm = v) && anyS l z d.ps))) := Lib.hid (by rw [hTk, wantB_snoc, ← hbw])
              obtain ⟨wo, rfl⟩ : ∃ wo : World, wo = wr := ⟨_, rfl⟩
              have HBW := Lib.hid hB
              have HST : Hid (b = (b || anyS l z (d.ps.take 0))) := Lib.hid (by unfold anyS; simp)
              have HC : Hid (∀ wl, Below wo.heap.size wo wl → wl.cell? ⟨bb, off + k * 2, none⟩ = some (.string (bs d.nm)) ∧ wl.cell? ⟨bb, off + k * 2 + 1, none⟩ = some (.slice uA d.ps.length ucap)) := Lib.hid (fun wl h => ⟨keep_below h c1, keep_below h c2⟩)
              have HUR := Lib.hid (fun wl (h : Below wo.heap.size wo wl) => hu.keep h)
              clear hbw hB hrd hc c1 c2 hu hTk hfd hd hur hu2 hu3 hu4
              go_wp2_with fail
              go_loopw [8, 10] (fun s i wl => P2Rel l v z b d wo s i wl) (fun _ i _ => d.ps.length - (intOf i).toNat)
              case atStart => exact ⟨0, b, rfl, by omega, rfl, HST.out, fun _ => rfl, Below.refl _ _⟩
              case round =>
                clear HST
                obtain ⟨j, b2, rfl, hj, rfl, hbw, hz0, hB⟩ := hrel
                obtain ⟨c1, c2⟩ := HC.out wr hB
                have HB2 := Lib.hid hB
                by_cases hjl : j < d.ps.length
                · by_cases hnm : d.nm = v
                  · have hnb : ((bs d.nm).toList == (bs v).toList) = true := bytes_beq.2 (by rw [hnm])
                    have hat := anyS_take l z d.ps j hjl
                    have HNM := Lib.hid hnm
                    cases b2 with
                    | true =>
                      have HN : Hid (true = (b || anyS l z (d.ps.take (j + 1)))) := Lib.hid (by rw [hat, ← Bool.or_assoc, ← hbw]; rfl)
                      clear hbw hz0 hB hat hnm
                      go_wp2_with fail
                      go_roundw
                      case rel => exact ⟨j + 1, _, by go_num, by omega, rfl, HN.out, fun h => absurd HNM.out h, HB2.out⟩
                      case measure => simp [intOf]; omega
                    | false =>
                      obtain ⟨A3, cap3, he3, _, _, _, hrd3⟩ := HUR.out wr hB
                      injection he3 with e4 e5 e6
                      subst e4
                      clear e5 e6
                      obtain ⟨b3, off3, rfl, hb3, hc3⟩ := hrd3 (by omega)
                      have q := hc3 j hjl
                      have hpz := HPS.out _ (List.getElem_mem hjl)
                      obtain ⟨p, hp⟩ : ∃ p, d.ps[j] = p := ⟨_, rfl⟩
                      rw [hp] at q hpz hat
                      obtain ⟨sb, hsb⟩ : ∃ sb, svB l p z = sb := ⟨_, rfl⟩
                      have HC5 := Lib.hid (servesFw HFW.out hpz hsb (HRD.out wr (HBW.out.trans (hB.mono HBW.out.size))))
                      have HN : Hid (sb = (b || anyS l z (d.ps.take (j + 1)))) := Lib.hid (by rw [hat, ← Bool.or_assoc, ← hbw, hsb]; rfl)
                      clear hbw hz0 hB hat hnm hrd3 hc3 hp hsb
                      go_wp2_with fail
                      refine HC5.out.mono ?_; rintro e w5 ⟨rfl, hB⟩
                      have HB5 := Lib.hid (HB2.out.trans (hB.mono HB2.out.size))
                      clear hB HC5
                      go_wp2_with fail
                      go_roundw
                      case rel => exact ⟨j + 1, _, by go_num, by omega, rfl, HN.out, fun h => absurd HNM.out h, HB5.out⟩
                      case measure => simp [intOf]; omega
                  · have hnb := str_beq hnm
                    have HN : Hid (b2 = wantB l v z (l.take (k + 1))) := Lib.hid (by
                      have h0 := hz0 hnm
                      rw [HSN.out, decide_eq_false hnm, hbw, h0]; unfold anyS; simp)
                    have HBB := Lib.hid (HBW.out.trans (hB.mono HBW.out.size))
                    clear hbw hz0 hB hnm
                    go_wp2_with fail
                    go_roundw
                    case rel => exact ⟨k + 1, _, by go_num, by omega, rfl, HN.out, HBB.out⟩
                    case measure => simp [intOf]; omega
                · have HN : Hid (b2 = wantB l v z (l.take (k + 1))) := Lib.hid (by
                    rw [HSN.out, hbw]
                    by_cases hnm : d.nm = v
                    · rw [decide_eq_true hnm, List.take_of_length_le (by omega)]; simp
                    · have h0 := hz0 hnm
                      rw [decide_eq_false hnm, h0]; unfold anyS; simp)
                  have HBB := Lib.hid (HBW.out.trans (hB.mono HBW.out.size))
                  clear hbw hz0 hB
                  go_wp2_with fail
                  go_roundw
                  case rel => exact ⟨k + 1, _, by go_num, by omega, rfl, HN.out, HBB.out⟩
                  case measure => simp [intOf]; omega
            · rw [List.take_of_length_le (by omega), wantB_all (by omega) HRV.out] at hbw
              have HC5 := Lib.hid (servesFw HFW.out hv1 hbw.symm (HRD.out wr hB))
              have HB5 := Lib.hid (HB3.out.trans (hB.mono HB3.out.size))
              have hbb : (b == b) = true := by simp
              clear hbw hB
              go_wp2_with fail
              refine HC5.out.mono ?_; rintro e w6 ⟨rfl, hB⟩
              have HB6 := Lib.hid (below3 HB5.out hB hW)
              clear hB HC5
              go_wp2_with fail
              go_ret
              exact ⟨by simp, HB6.out⟩
      · clear hsv hsz
        go_enter Try.func5, Try.ntmps5
        go_wp2_with fail
        refine HSM.out.mono ?_; rintro e w1 ⟨rfl, hb⟩
        have HB := Lib.hid hb
        clear hb
        go_wp2_with fail
        refine (HFP.out _ HB.out).mono ?_; rintro e w2 ⟨rfl, rfl⟩
        go_wp2_with fail
        go_ret
        exact ⟨rfl, HB.out⟩
    · clear hsv hsz
      go_enter Try.func5, Try.ntmps5
      go_wp2_with fail
      refine HSM.out.mono ?_; rintro e w1 ⟨rfl, hb⟩
      have HB := Lib.hid hb
      clear hb
      go_wp2_with fail
      refine (HFP.out _ HB.out).mono ?_; rintro e w2 ⟨rfl, rfl⟩
      go_wp2_with fail
      go_ret
      exact ⟨rfl, HB.out⟩
end Go.Proofs.Ytcljgpgdbjpemaa.versionParents

