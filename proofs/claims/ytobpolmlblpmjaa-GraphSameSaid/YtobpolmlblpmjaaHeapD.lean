/-
  container/heap: down, Pop.
-/
import Derived.Test.YtobpolmlblpmjaaHeapU
namespace Go.Proofs.Ytobpolmlblpmjaa
set_option linter.unusedVariables false
set_option linter.unusedSimpArgs false
open Go.RowKit

def DownPost (f base hb n : Nat) (h : List Nat) (w : World) (e : Ending) (w' : World) : Prop := (∃ b, e = .returned (.bool b)) ∧ ∃ sl h2, HeapAt f w' base hb sl h2 ∧ Heap h2 n ∧ h2.Perm h ∧ h2.getD n 0 = h.getD n 0 ∧ HKeep f base w w'
def DownRel (f base hb n : Nat) (sl : Value) (h : List Nat) (w0 : World) (i : Value) (wl : World) : Prop := ∃ (k : Nat) (h2 : List Nat), i = .int .i64 k ∧ k ≤ n ∧ DownOk h2 n k ∧ h2.Perm h ∧ h2.getD n 0 = h.getD n 0 ∧ HeapAt f wl base hb sl h2 ∧ HKeep f base w0 wl
set_option maxRecDepth 100000 in
set_option maxHeartbeats 8000000 in
theorem downP {w : World} {f base hb n : Nat} {sl : Value} {h : List Nat} (H : HeapAt f w base hb sl h) (hbase : base ≤ w.heap.size) (hn : h.length = n + 1) (hD : DownOk h n 0) (hl : n ≤ 10000) :
    Calls Try.prog 47 #[.iface 48 (.pointer (some ⟨hb, 0, none⟩)), .int .i64 0, .int .i64 n] w (DownPost f base hb n h w) := by
  obtain ⟨SA, scap, hsl⟩ := own_slice H.own
  rw [zi_length, hn] at hsl
  subst hsl
  have HST := Lib.hid H
  have HD := Lib.hid hD
  have HN := Lib.hid hn
  clear H hD hn
  go_enter Try.func47, Try.ntmps47
  go_wp2_with fail
  go_loopw [7] (fun i wl => DownRel f base hb n (.slice SA (n + 1) scap) h w i wl) (fun i _ => n + 1 - (intOf i).toNat)
  case atStart => exact ⟨0, h, rfl, by omega, HD.out, List.Perm.refl _, rfl, HST.out, HKeep.refl _ _⟩
  case round =>
    obtain ⟨k, h2, rfl, hkn, hD, hp, hlast, H, hK⟩ := hrel
    have hl2 : h2.length = n + 1 := by rw [hp.length_eq]; exact HN.out
    have HL := Lib.hid hl2
    have e1 : IntKind.i64.wrap (2 * (k : Int)) = 2 * (k : Int) := IntWalk.i64_in _ (by omega)
    have e2 : IntKind.i64.wrap (2 * (k : Int) + 1) = 2 * (k : Int) + 1 := IntWalk.i64_in _ (by omega)
    have e3 : (0 : Int) ≤ 2 * (k : Int) := by omega
    have k0 : (0 : Int) ≤ (k : Int) := by omega
    have kb : (k : Int) ≤ 10000 := by omega
    by_cases hlf : n ≤ 2 * k + 1
    · have d1 : decide (2 * (k : Int) + 1 ≥ (n : Int)) = true := by rw [decide_eq_true_iff]; omega
      have d2 : decide ((n : Int) ≤ 2 * (k : Int) + 1) = true := by rw [decide_eq_true_iff]; omega
      have HF : Hid (∀ b, DownPost f base hb n h w (.returned (.bool b)) wr) := fun b => ⟨⟨_, rfl⟩, _, h2, H, hD.leaf hlf, hp, hlast, hK⟩
      clear hD hp hlast H hK hl2 hlf
      go_wp2_with fail
      all_goals
        go_ret
        exact HF.out _
    · have d1 : decide (2 * (k : Int) + 1 ≥ (n : Int)) = false := by rw [decide_eq_false_iff_not]; omega
      have d2 : decide ((n : Int) ≤ 2 * (k : Int) + 1) = false := by rw [decide_eq_false_iff_not]; omega
      have d3 : decide (2 * (k : Int) + 1 < 0) = false := by rw [decide_eq_false_iff_not]; omega
      have e4 : IntKind.i64.wrap (2 * (k : Int) + 1 + 1) = 2 * (k : Int) + 1 + 1 := IntWalk.i64_in _ (by omega)
      have c1 : ((2 * k + 1 : Nat) : Int) = 2 * (k : Int) + 1 := by omega
      have c2 : ((2 * k + 2 : Nat) : Int) = 2 * (k : Int) + 1 + 1 := by omega
      have hm1 := m_less H.bx
      have HC1 := Lib.hid c1
      have HC2 := Lib.hid c2
      have HP := Lib.hid hp
      have HKK := Lib.hid hK
      have HDD := Lib.hid hD
      have HLA := Lib.hid hlast
      have HH := Lib.hid H
      clear c1 c2 hp hK hD hlast
      by_cases hbn : 2 * k + 2 < n
      · have d4 : decide (2 * (k : Int) + 1 + 1 < (n : Int)) = true := by rw [decide_eq_true_iff]; omega
        have HLS := lessP H.own (2 * k + 2) (2 * k + 1) (by omega) (by omega) (by omega)
        rw [HC1.out, HC2.out] at HLS
        by_cases hlt : h2.getD (2 * k + 2) 0 < h2.getD (2 * k + 1) 0
        · rw [show decide (h2.getD (2 * k + 2) 0 < h2.getD (2 * k + 1) 0) = true from decide_eq_true hlt] at HLS
          have HJM : Hid (∀ c, 0 < c → c < n → (c - 1) / 2 = k → h2.getD (2 * k + 2) 0 ≤ h2.getD c 0) := Lib.hid (fun c c0 cn cp => by
            have hc : c = 2 * k + 1 ∨ c = 2 * k + 2 := by omega
            rcases hc with rfl | rfl
            · omega
            · exact Nat.le_refl _)
          have HL2 := Lib.hid HLS
          clear HLS hlt H hl2
          go_wp2_with fail
          refine HL2.out.mono ?_; rintro e w2 ⟨rfl, q, rfl⟩
          have H2 := HH.out.drewN q
          have hK2 := HKK.out.trans (HKeep.drewN base wr q)
          generalize wr.drewN q = wq at *
          clear hm1 HL2 HH HKK
          have hm2 := m_less H2.bx
          have HLS2 := lessP H2.own (2 * k + 2) k (by rw [HL.out]; omega) (by rw [HL.out]; omega) (by rw [HL.out]; omega)
          rw [HC2.out] at HLS2
          by_cases hlt2 : h2.getD (2 * k + 2) 0 < h2.getD k 0
          · rw [show decide (h2.getD (2 * k + 2) 0 < h2.getD k 0) = true from decide_eq_true hlt2] at HLS2
            have HL3 := Lib.hid HLS2
            have HD2 := Lib.hid (HDD.out.step (by rw [HL.out]; omega) (by omega) (by omega) (by omega) HJM.out hlt2)
            have HHQ := Lib.hid H2
            have HKQ := Lib.hid hK2
            clear HLS2 hlt2 H2 hK2
            go_wp2_with fail
            refine HL3.out.mono ?_; rintro e w3 ⟨rfl, q2, rfl⟩
            have H3 := HHQ.out.drewN q2
            have hK3 := HKQ.out.trans (HKeep.drewN base wq q2)
            generalize wq.drewN q2 = wz at *
            have hm3 := m_swap H3.bx
            have HS := swapP H3.own k (2 * k + 2) (by rw [HL.out]; omega) (by rw [HL.out]; omega) (by omega) (by rw [HL.out]; omega)
            rw [HC2.out] at HS
            have HS2 := Lib.hid HS
            have HHZ := Lib.hid H3
            have HKZ := Lib.hid hK3
            clear hm2 H3 hK3 HL3 HHQ HKQ HS
            go_wp2_with fail
            refine HS2.out.mono ?_; rintro e w4 ⟨rfl, h1, h3⟩
            have hbq : base ≤ wz.heap.size := Nat.le_trans hbase HKZ.out.below.size
            have HN1 := Lib.hid (HHZ.out.row h3 h1)
            have HN2 := Lib.hid (HKZ.out.trans (HKeep.row HHZ.out hbq h3))
            have HPM : Hid ((swapL h2 k (2 * k + 2)).Perm h) := Lib.hid ((swapL_perm h2 (by rw [HL.out]; omega) (by rw [HL.out]; omega)).trans HP.out)
            have HLS3 : Hid ((swapL h2 k (2 * k + 2)).getD n 0 = h.getD n 0) := Lib.hid (by rw [swapL_last h2 (n := n) (by omega) (by omega) (by rw [HL.out]; omega)]; exact HLA.out)
            clear h1 h3 hm3 HHZ HKZ HS2 HP HLA hbq
            go_wp2_with fail
            go_roundw
            case rel => exact ⟨2 * k + 2, _, by first | rfl | go_num | (rw [HC2.out]), by omega, HD2.out, HPM.out, HLS3.out, HN1.out, HN2.out⟩
            case measure => simp [intOf]; omega
          · rw [show decide (h2.getD (2 * k + 2) 0 < h2.getD k 0) = false from decide_eq_false hlt2] at HLS2
            have HL3 := Lib.hid HLS2
            have HF : Hid (∀ q b, DownPost f base hb n h w (.returned (.bool b)) (wq.drewN q)) := fun q b => ⟨⟨_, rfl⟩, _, h2, H2.drewN q, HDD.out.stop HJM.out hlt2, HP.out, HLA.out, hK2.trans (HKeep.drewN _ _ q)⟩
            clear HLS2 hlt2 H2 hK2
            go_wp2_with fail
            refine HL3.out.mono ?_; rintro e w3 ⟨rfl, q2, rfl⟩
            have HF2 := Lib.hid (HF.out q2)
            generalize wq.drewN q2 = wz at *
            clear hm2 HL3 HF
            go_wp2_with fail
            all_goals
              go_ret
              exact HF2.out _
        · rw [show decide (h2.getD (2 * k + 2) 0 < h2.getD (2 * k + 1) 0) = false from decide_eq_false hlt] at HLS
          have HJM : Hid (∀ c, 0 < c → c < n → (c - 1) / 2 = k → h2.getD (2 * k + 1) 0 ≤ h2.getD c 0) := Lib.hid (fun c c0 cn cp => by
            have hc : c = 2 * k + 1 ∨ c = 2 * k + 2 := by omega
            rcases hc with rfl | rfl
            · exact Nat.le_refl _
            · omega)
          have HL2 := Lib.hid HLS
          clear HLS hlt H hl2
          go_wp2_with fail
          refine HL2.out.mono ?_; rintro e w2 ⟨rfl, q, rfl⟩
          have H2 := HH.out.drewN q
          have hK2 := HKK.out.trans (HKeep.drewN base wr q)
          generalize wr.drewN q = wq at *
          clear hm1 HL2 HH HKK
          have hm2 := m_less H2.bx
          have HLS2 := lessP H2.own (2 * k + 1) k (by rw [HL.out]; omega) (by rw [HL.out]; omega) (by rw [HL.out]; omega)
          rw [HC1.out] at HLS2
          by_cases hlt2 : h2.getD (2 * k + 1) 0 < h2.getD k 0
          · rw [show decide (h2.getD (2 * k + 1) 0 < h2.getD k 0) = true from decide_eq_true hlt2] at HLS2
            have HL3 := Lib.hid HLS2
            have HD2 := Lib.hid (HDD.out.step (by rw [HL.out]; omega) (by omega) (by omega) (by omega) HJM.out hlt2)
            have HHQ := Lib.hid H2
            have HKQ := Lib.hid hK2
            clear HLS2 hlt2 H2 hK2
            go_wp2_with fail
            refine HL3.out.mono ?_; rintro e w3 ⟨rfl, q2, rfl⟩
            have H3 := HHQ.out.drewN q2
            have hK3 := HKQ.out.trans (HKeep.drewN base wq q2)
            generalize wq.drewN q2 = wz at *
            have hm3 := m_swap H3.bx
            have HS := swapP H3.own k (2 * k + 1) (by rw [HL.out]; omega) (by rw [HL.out]; omega) (by omega) (by rw [HL.out]; omega)
            rw [HC1.out] at HS
            have HS2 := Lib.hid HS
            have HHZ := Lib.hid H3
            have HKZ := Lib.hid hK3
            clear hm2 H3 hK3 HL3 HHQ HKQ HS
            go_wp2_with fail
            refine HS2.out.mono ?_; rintro e w4 ⟨rfl, h1, h3⟩
            have hbq : base ≤ wz.heap.size := Nat.le_trans hbase HKZ.out.below.size
            have HN1 := Lib.hid (HHZ.out.row h3 h1)
            have HN2 := Lib.hid (HKZ.out.trans (HKeep.row HHZ.out hbq h3))
            have HPM : Hid ((swapL h2 k (2 * k + 1)).Perm h) := Lib.hid ((swapL_perm h2 (by rw [HL.out]; omega) (by rw [HL.out]; omega)).trans HP.out)
            have HLS3 : Hid ((swapL h2 k (2 * k + 1)).getD n 0 = h.getD n 0) := Lib.hid (by rw [swapL_last h2 (n := n) (by omega) (by omega) (by rw [HL.out]; omega)]; exact HLA.out)
            clear h1 h3 hm3 HHZ HKZ HS2 HP HLA hbq
            go_wp2_with fail
            go_roundw
            case rel => exact ⟨2 * k + 1, _, by first | rfl | go_num | (rw [HC1.out]), by omega, HD2.out, HPM.out, HLS3.out, HN1.out, HN2.out⟩
            case measure => simp [intOf]; omega
          · rw [show decide (h2.getD (2 * k + 1) 0 < h2.getD k 0) = false from decide_eq_false hlt2] at HLS2
            have HL3 := Lib.hid HLS2
            have HF : Hid (∀ q b, DownPost f base hb n h w (.returned (.bool b)) (wq.drewN q)) := fun q b => ⟨⟨_, rfl⟩, _, h2, H2.drewN q, HDD.out.stop HJM.out hlt2, HP.out, HLA.out, hK2.trans (HKeep.drewN _ _ q)⟩
            clear HLS2 hlt2 H2 hK2
            go_wp2_with fail
            refine HL3.out.mono ?_; rintro e w3 ⟨rfl, q2, rfl⟩
            have HF2 := Lib.hid (HF.out q2)
            generalize wq.drewN q2 = wz at *
            clear hm2 HL3 HF
            go_wp2_with fail
            all_goals
              go_ret
              exact HF2.out _
      · have d4 : decide (2 * (k : Int) + 1 + 1 < (n : Int)) = false := by rw [decide_eq_false_iff_not]; omega
        have HJM : Hid (∀ c, 0 < c → c < n → (c - 1) / 2 = k → h2.getD (2 * k + 1) 0 ≤ h2.getD c 0) := Lib.hid (fun c c0 cn cp => by
          have hc : c = 2 * k + 1 := by omega
          rw [hc]; exact Nat.le_refl _)
        have H2 := H
        have hK2 := HKK.out
        obtain ⟨wq, rfl⟩ : ∃ wq : World, wq = wr := ⟨_, rfl⟩
        clear H hl2 HH HKK hm1
        have hm2 := m_less H2.bx
        have HLS2 := lessP H2.own (2 * k + 1) k (by rw [HL.out]; omega) (by rw [HL.out]; omega) (by rw [HL.out]; omega)
        rw [HC1.out] at HLS2
        by_cases hlt2 : h2.getD (2 * k + 1) 0 < h2.getD k 0
        · rw [show decide (h2.getD (2 * k + 1) 0 < h2.getD k 0) = true from decide_eq_true hlt2] at HLS2
          have HL3 := Lib.hid HLS2
          have HD2 := Lib.hid (HDD.out.step (by rw [HL.out]; omega) (by omega) (by omega) (by omega) HJM.out hlt2)
          have HHQ := Lib.hid H2
          have HKQ := Lib.hid hK2
          clear HLS2 hlt2 H2 hK2
          go_wp2_with fail
          refine HL3.out.mono ?_; rintro e w3 ⟨rfl, q2, rfl⟩
          have H3 := HHQ.out.drewN q2
          have hK3 := HKQ.out.trans (HKeep.drewN base wq q2)
          generalize wq.drewN q2 = wz at *
          have hm3 := m_swap H3.bx
          have HS := swapP H3.own k (2 * k + 1) (by rw [HL.out]; omega) (by rw [HL.out]; omega) (by omega) (by rw [HL.out]; omega)
          rw [HC1.out] at HS
          have HS2 := Lib.hid HS
          have HHZ := Lib.hid H3
          have HKZ := Lib.hid hK3
          clear hm2 H3 hK3 HL3 HHQ HKQ HS
          go_wp2_with fail
          refine HS2.out.mono ?_; rintro e w4 ⟨rfl, h1, h3⟩
          have hbq : base ≤ wz.heap.size := Nat.le_trans hbase HKZ.out.below.size
          have HN1 := Lib.hid (HHZ.out.row h3 h1)
          have HN2 := Lib.hid (HKZ.out.trans (HKeep.row HHZ.out hbq h3))
          have HPM : Hid ((swapL h2 k (2 * k + 1)).Perm h) := Lib.hid ((swapL_perm h2 (by rw [HL.out]; omega) (by rw [HL.out]; omega)).trans HP.out)
          have HLS3 : Hid ((swapL h2 k (2 * k + 1)).getD n 0 = h.getD n 0) := Lib.hid (by rw [swapL_last h2 (n := n) (by omega) (by omega) (by rw [HL.out]; omega)]; exact HLA.out)
          clear h1 h3 hm3 HHZ HKZ HS2 HP HLA hbq
          go_wp2_with fail
          go_roundw
          case rel => exact ⟨2 * k + 1, _, by first | rfl | go_num | (rw [HC1.out]), by omega, HD2.out, HPM.out, HLS3.out, HN1.out, HN2.out⟩
          case measure => simp [intOf]; omega
        · rw [show decide (h2.getD (2 * k + 1) 0 < h2.getD k 0) = false from decide_eq_false hlt2] at HLS2
          have HL3 := Lib.hid HLS2
          have HF : Hid (∀ q b, DownPost f base hb n h w (.returned (.bool b)) (wq.drewN q)) := fun q b => ⟨⟨_, rfl⟩, _, h2, H2.drewN q, HDD.out.stop HJM.out hlt2, HP.out, HLA.out, hK2.trans (HKeep.drewN _ _ q)⟩
          clear HLS2 hlt2 H2 hK2
          go_wp2_with fail
          refine HL3.out.mono ?_; rintro e w3 ⟨rfl, q2, rfl⟩
          have HF2 := Lib.hid (HF.out q2)
          generalize wq.drewN q2 = wz at *
          clear hm2 HL3 HF
          go_wp2_with fail
          all_goals
            go_ret
            exact HF2.out _
def HPopPost (f base hb : Nat) (h : List Nat) (w : World) (e : Ending) (w' : World) : Prop := ∃ m, e = .returned (.iface 3 (.int .i64 (m : Nat))) ∧ (∀ x ∈ h, m ≤ x) ∧ ∃ sl h2, HeapAt f w' base hb sl h2 ∧ Heap h2 h2.length ∧ (m :: h2).Perm h ∧ HKeep f base w w'
end Go.Proofs.Ytobpolmlblpmjaa
