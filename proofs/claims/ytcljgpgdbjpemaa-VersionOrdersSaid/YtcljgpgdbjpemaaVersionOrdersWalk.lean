/-
  The law VersionOrders: its walk.
-/
import Derived.Test.YtcljgpgdbjpemaaVLawZ
import Derived.Test.YtcljgpgdbjpemaaVOrd
import Derived.StillTailTactics
import Derived.IntWalk
namespace Go.Proofs.Ytcljgpgdbjpemaa.versionOrders
open Go.Proofs.Ytcljgpgdbjpemaa
set_option linter.unusedVariables false
set_option linter.unusedSimpArgs false
open Go.RowKit

theorem str_gt {a b : Str} (h : ¬ a ≤ b) : Op.bytesLess (bs a).toList (bs b).toList = false ∧ ((bs a).toList == (bs b).toList) = false := by
  refine ⟨?_, str_beq (fun e => h (by rw [e]; exact List.le_refl _))⟩
  rw [toList_bs, toList_bs, bytesLess_lt, decide_eq_false_iff_not]
  exact fun hl => h (List.le_of_lt hl)
theorem str_le {a b : Str} (h : a ≤ b) : Op.bytesLess (bs a).toList (bs b).toList = true ∨ ((bs a).toList == (bs b).toList) = true := by
  rw [toList_bs, toList_bs, bytesLess_lt, decide_eq_true_iff]
  rcases List.le_iff_lt_or_eq.1 h with h | h
  · exact .inl h
  · exact .inr (by rw [h]; simp)
def fnd (s : Str) (L : VL) : Bool := L.any fun d => decide (d.nm = s)
theorem fnd_snoc (s : Str) (L : VL) (d : Vd) : fnd s (L ++ [d]) = (fnd s L || decide (d.nm = s)) := by unfold fnd; rw [List.any_append]; simp
theorem fnd_all {s : Str} {l : VL} (h : s ∈ names l) : fnd s l = true := by
  obtain ⟨d, hd, e⟩ := List.mem_map.1 h
  exact List.any_eq_true.2 ⟨d, hd, by simpa using e⟩
def O1Rel (n : Nat) (w : World) (i : Value) (wl : World) : Prop := ∃ m : Nat, i = .int .i64 m ∧ m ≤ n ∧ Below w.heap.size w wl
def O2Rel (s : Str) (l : VL) (w : World) (f i : Value) (wl : World) : Prop := ∃ (k : Nat) (b : Bool), i = .int .i64 k ∧ k ≤ l.length ∧ f = .bool b ∧ b = fnd s (l.take k) ∧ Below w.heap.size w wl
def O3Rel (m n : Nat) (w : World) (i : Value) (wl : World) : Prop := ∃ k : Nat, i = .int .i64 k ∧ m < k ∧ k ≤ n ∧ Below w.heap.size w wl
set_option maxRecDepth 100000 in
set_option maxHeartbeats 8000000 in
theorem walk (w : World) (x : Value) (l : VL) (hr : VRow w w.heap.size x l) :
    Calls Try.prog 7 #[x] w fun e w' => e = .returned (.bool true) ∧ Below w.heap.size w w' := by
  have hW := Nat.le_refl w.heap.size
  have HSM := Lib.hid (smallVP w)
  have HR := Lib.hid hr
  obtain ⟨xA, xcap, hx, hx1, hx2, _⟩ := id hr
  subst hx
  cases hfw : fewV l with
  | false =>
    clear hr
    have HFP := Lib.hid (fun w2 (h : Below w.heap.size w w2) => fewVP _ l w2 _ (HR.out.keep h))
    rw [hfw] at HFP
    clear hfw
    go_enter Try.func7, Try.ntmps7
    go_wp2_with fail
    refine HSM.out.mono ?_; rintro e w1 ⟨rfl, hb⟩
    have HB := Lib.hid hb
    clear hb
    go_wp2_with fail
    refine (HFP.out _ HB.out).mono ?_; rintro e w2 ⟨rfl, rfl⟩
    go_wp2_with fail
    go_ret
    exact ⟨rfl, HB.out⟩
  | true =>
    have HFP := Lib.hid (fun w2 (h : Below w.heap.size w w2) => fewVP _ l w2 _ (HR.out.keep h))
    rw [hfw] at HFP
    have HFW := Lib.hid (fewV_fw hfw)
    clear hfw hr
    go_enter Try.func7, Try.ntmps7
    go_wp2_with fail
    refine HSM.out.mono ?_; rintro e w1 ⟨rfl, hb⟩
    have HB := Lib.hid hb
    have HR1 := Lib.hid (HR.out.keep hb)
    clear hb HSM HR
    go_wp2_with fail
    refine (HFP.out _ HB.out).mono ?_; rintro e w2 ⟨rfl, rfl⟩
    clear HFP
    have H0 := rightFw (c := rightV l) HFW.out rfl HR1.out
    cases hrv : rightV l with
    | false =>
      rw [hrv] at H0
      replace H0 := Lib.hid H0
      clear hrv
      go_wp2_with fail
      refine H0.out.mono ?_; rintro e w3 ⟨rfl, hB⟩
      have HB3 := Lib.hid (below3 HB.out hB hW)
      clear hB H0
      go_wp2_with fail
      go_ret
      exact ⟨rfl, HB3.out⟩
    | true =>
      rw [hrv] at H0
      replace H0 := Lib.hid H0
      have HRV := Lib.hid hrv
      clear hrv
      go_wp2_with fail
      refine H0.out.mono ?_; rintro e w3 ⟨rfl, hB⟩
      have HB3 := Lib.hid (below3 HB.out hB hW)
      have HR3 := Lib.hid (HR1.out.keep hB)
      clear hB H0 HB HR1
      have hlm : l.length ≤ 12 := HFW.out.1
      obtain ⟨hg, hac⟩ := rightV_gr (by omega) HRV.out
      have HX := Lib.hid (hg.ord hac)
      have HRV2 : Hid ((if rightV l = true then orderOf l else []) = orderOf l) := Lib.hid (by rw [HRV.out, if_pos rfl])
      have H4 := Lib.hid (orderFw HFW.out HRV2.out HR3.out)
      clear hg hac
      go_wp2_with fail
      refine H4.out.mono ?_; rintro e w4 ⟨u, rfl, hs4, hB⟩
      have HB4 := Lib.hid (below3 HB3.out hB hW)
      have HR4 := Lib.hid (HR3.out.keep hB)
      obtain ⟨X, hX⟩ : ∃ X, orderOf l = X := ⟨_, rfl⟩
      rw [hX] at hs4 HX
      obtain ⟨uA, ucap, rfl, _, _, _, hur⟩ := hs4
      have HXL := Lib.hid HX.out.len
      have HUR := Lib.hid hur
      rw [HXL.out]
      clear hB hur hX H4 HR3 HB3 HRV2
      go_wp2_with fail
      go_loopw [5] (fun i wl => O1Rel l.length w4 i wl) (fun i _ => l.length - (intOf i).toNat)
      case atStart => exact ⟨0, rfl, by omega, Below.refl _ _⟩
      case round =>
        obtain ⟨m, rfl, hm, hB⟩ := hrel
        by_cases hlt : m < l.length
        · obtain ⟨xb, xoff, rfl, hxb, hxc⟩ := HUR.out (by rw [HXL.out]; omega)
          have HXC : Hid (∀ wl, Below w4.heap.size w4 wl → ∀ i (h : i < X.length), wl.cell? ⟨xb, xoff + i, none⟩ = some (.string (bs X[i]))) := Lib.hid (fun wl h i hi => (h.cell (p := ⟨xb, xoff + i, none⟩) hxb).trans (hxc i hi))
          have hmX : m < X.length := by rw [HXL.out]; exact hlt
          have HFN := Lib.hid (fnd_all (HX.out.mem _ (List.getElem_mem hmX)))
          have hxs := HXC.out
          obtain ⟨s, hs⟩ : ∃ s, X[m] = s := ⟨_, rfl⟩
          have HS := Lib.hid hs
          rw [hs] at HFN
          have HXM : Hid (∀ wl, Below w4.heap.size w4 wl → wl.cell? ⟨xb, xoff + m, none⟩ = some (.string (bs s))) := Lib.hid (fun wl h => by rw [← hs]; exact hxs wl h m hmX)
          obtain ⟨wo, rfl⟩ : ∃ wo : World, wo = wr := ⟨_, rfl⟩
          have HBW := Lib.hid hB
          have HRW := Lib.hid (fun wl (h : Below wo.heap.size wo wl) => (HR4.out.keep hB).keep h)
          have HF0 : Hid (false = fnd s (l.take 0)) := Lib.hid rfl
          have hmi : (m : Int) < l.length := by omega
          clear hB hxc hxs hs
          go_wp2_with fail
          go_loopw [6, 7] (fun f i wl => O2Rel s l wo f i wl) (fun _ i _ => l.length - (intOf i).toNat)
          case atStart => exact ⟨0, false, rfl, by omega, rfl, HF0.out, Below.refl _ _⟩
          case round =>
            clear HF0
            obtain ⟨k, b, rfl, hk, rfl, hbf, hB⟩ := hrel
            have HB2 := Lib.hid hB
            by_cases hkl : k < l.length
            · have hTk : l.take (k + 1) = l.take k ++ [l[k]] := List.take_succ_eq_append_getElem hkl
              cases b with
              | true =>
                have HN : Hid (true = fnd s (l.take (k + 1))) := Lib.hid (by rw [hTk, fnd_snoc, ← hbf]; rfl)
                have HBQ : Hid (∀ q, Below wo.heap.size wo (wr.drewN q)) := Lib.hid (fun q => hB.trans (below_drewV _ _ _))
                have HBQ0 := Lib.hid hB
                clear hbf hB hTk
                go_wp2_with fail
                go_quiet (fail)
                go_wp2_with fail
                go_roundw
                case rel => exact ⟨k + 1, true, by go_num, by omega, rfl, HN.out, by first | exact HBQ.out _ | exact HBQ0.out⟩
                case measure => simp [intOf]; omega
              | false =>
                obtain ⟨A2, cap2, he, _, _, _, hrd⟩ := HRW.out wr hB
                injection he with e1 e2 e3
                subst e1
                clear e2 e3
                obtain ⟨bb, off, rfl, hb1, hc⟩ := hrd (by omega)
                obtain ⟨pv, c1, c2, hu⟩ := hc k hkl
                have q := HXM.out wr (HBW.out.trans (hB.mono HBW.out.size))
                obtain ⟨nb, hnb⟩ : ∃ nb, decide (l[k].nm = s) = nb := ⟨_, rfl⟩
                have HN : Hid (nb = fnd s (l.take (k + 1))) := Lib.hid (by rw [hTk, fnd_snoc, ← hbf, hnb]; rfl)
                have hbb : ((bs l[k].nm).toList == (bs s).toList) = nb := by
                  rw [← hnb, Bool.eq_iff_iff, bytes_beq, decide_eq_true_iff]
                  exact ⟨bs_inj, fun h => by rw [h]⟩
                obtain ⟨dn, hdn⟩ : ∃ dn, l[k].nm = dn := ⟨_, rfl⟩
                rw [hdn] at c1 hbb
                have HBQ : Hid (∀ q, Below wo.heap.size wo (wr.drewN q)) := Lib.hid (fun q => hB.trans (below_drewV _ _ _))
                clear hbf hB hTk hrd hc hu c2 hdn hnb
                go_wp2_with fail
                go_quiet (fail)
                go_wp2_with fail
                go_roundw
                case rel => exact ⟨k + 1, nb, by go_num, by omega, rfl, HN.out, HBQ.out _⟩
                case measure => simp [intOf]; omega
            · have hbt : b = true := by
                rw [List.take_of_length_le (by omega), HFN.out] at hbf
                exact hbf
              subst hbt
              have HB5 := Lib.hid (HBW.out.trans (hB.mono HBW.out.size))
              clear hbf hB
              go_wp2_with fail
              obtain ⟨w5, rfl⟩ : ∃ w5 : World, w5 = wr := ⟨_, rfl⟩
              go_loopw [8] (fun i wl => O3Rel m l.length w4 i wl) (fun i _ => l.length - (intOf i).toNat)
              case atStart => exact ⟨m + 1, by go_num, by omega, by omega, HB5.out⟩
              case round =>
                clear HB5
                obtain ⟨k2, rfl, hk2, hk3, hB⟩ := hrel
                by_cases hkl2 : k2 < l.length
                · have hk2X : k2 < X.length := by rw [HXL.out]; exact hkl2
                  have c1 := HXM.out wr hB
                  have c2 := HXC.out wr hB k2 hk2X
                  have hno : svB l s X[k2] = false := by
                    cases e : svB l s X[k2] with
                    | false => rfl
                    | true => exact absurd (svB_iff.1 e) (by rw [← HS.out]; exact HX.out.down m k2 hmX hk2X hk2)
                  have hsz : s.length ≤ 100 := by
                    obtain ⟨d, hd, e⟩ := List.mem_map.1 (HX.out.mem _ (List.getElem_mem hmX))
                    rw [HS.out] at e
                    rw [← e]; exact (HFW.out.2 d hd).2.1
                  obtain ⟨t, ht⟩ : ∃ t, X[k2] = t := ⟨_, rfl⟩
                  rw [ht] at c2 hno
                  have HBq := hB.trans ((Below.refl _ _).drew : Below w4.heap.size wr wr.drew)
                  have HC := Lib.hid (servesFw (w := wr.drew) HFW.out hsz hno (HR4.out.keep HBq))
                  have HB6 := Lib.hid HBq
                  clear hB HBq hno ht
                  go_wp2_with fail
                  go_region_with (go_at_call 25; refine HC.out.mono ?_; rintro e w6 ⟨rfl, hB6⟩; have HB7 := Lib.hid (HB6.out.trans (hB6.mono HB6.out.size)))
                  all_goals
                    clear HC
                    go_wp2_with fail
                    go_roundw
                    case rel => exact ⟨k2 + 1, by go_num, by omega, by omega, HB7.out⟩
                    case measure => simp [intOf]; omega
                · have c1 := HXM.out wr hB
                  have hsz : s.length ≤ 100 := by
                    obtain ⟨d, hd, e⟩ := List.mem_map.1 (HX.out.mem _ (List.getElem_mem hmX))
                    rw [HS.out] at e
                    rw [← e]; exact (HFW.out.2 d hd).2.1
                  have HBq := hB.trans ((Below.refl _ _).drew : Below w4.heap.size wr wr.drew)
                  have HBQ : Hid (∀ q, Below w4.heap.size w4 (wr.drewN q)) := Lib.hid (fun q => hB.trans (below_drewV _ _ _))
                  have hge : ¬ (k2 : Int) < l.length := by omega
                  rcases Nat.eq_zero_or_pos m with h0 | h0
                  · have hm0 : decide (0 < m) = false := by rw [h0]; rfl
                    have HH0 := Lib.hid h0
                    have hm00 : ¬ (0 : Int) < m := by omega
                    clear h0 hB HBq
                    go_wp2_with fail
                    go_quiet (fail)
                    go_wp2_with fail
                    go_roundw
                    case rel => exact ⟨m + 1, by go_num, by omega, HBQ.out _⟩
                    case measure => simp [intOf]; omega
                  · obtain ⟨j, hj⟩ : ∃ j, m = j + 1 := ⟨m - 1, by omega⟩
                    have hjX : j < X.length := by omega
                    have c3 := HXC.out wr hB j hjX
                    have hadj := HX.out.adj j (by omega)
                    have hXm : X[j + 1]'(by omega) = s := by rw [← HS.out]; simp only [hj]
                    rw [hXm] at hadj
                    obtain ⟨t, ht⟩ : ∃ t, X[j] = t := ⟨_, rfl⟩
                    rw [ht] at c3 hadj
                    have hjl : (j : Int) < l.length := by omega
                    have hm0 : decide (0 < m) = true := decide_eq_true h0
                    have HJ := Lib.hid hj
                    have hsub : (m : Int) - 1 = j := by omega
                    have hj0 : (0 : Int) ≤ j := by omega
                    have hmp : (0 : Int) < m := by omega
                    by_cases hle : t ≤ s
                    · rcases str_le hle with hb1 | hb1
                      all_goals
                        clear hB HBq hadj hle hj ht hXm
                        go_wp2_with fail
                        go_quiet (fail)
                        go_wp2_with fail
                        go_roundw
                        case rel => exact ⟨m + 1, by go_num, by omega, HBQ.out _⟩
                        case measure => simp [intOf]; omega
                    · obtain ⟨hb1, hb2⟩ := str_gt hle
                      have HC := Lib.hid (servesFw (w := wr.drew) HFW.out hsz (svB_iff.2 (hadj hle)) (HR4.out.keep HBq))
                      have HB6 := Lib.hid HBq
                      clear hB HBq hadj hle hj ht hXm
                      have hwr : IntKind.i64.wrap (j : Int) = (j : Int) := IntWalk.i64_in _ (by omega)
                      go_wp2_with fail
                      go_still_tail 25, (by kernel_rfl)
                      clear hwr
                      change wpList _ _ _ _ _ wr.drew
                      go_wp2_with fail
                      refine HC.out.mono ?_; rintro e w6 ⟨rfl, hB6⟩
                      have HB7 := Lib.hid (HB6.out.trans (hB6.mono HB6.out.size))
                      clear HC hB6
                      go_wp2_with fail
                      go_roundw
                      case rel => exact ⟨m + 1, by go_num, by omega, HB7.out⟩
                      case measure => simp [intOf]; omega
        · have HB5 := Lib.hid (below3 HB4.out hB hW)
          clear hB
          go_wp2_with fail
          go_ret
          exact ⟨rfl, HB5.out⟩
end Go.Proofs.Ytcljgpgdbjpemaa.versionOrders

