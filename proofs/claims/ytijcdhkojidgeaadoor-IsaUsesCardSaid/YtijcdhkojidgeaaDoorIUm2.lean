/-
  The walk of IsaUses, a part.
-/
import Derived.Test.YtijcdhkojidgeaaDoorIUa
namespace Go.Proofs.YtijcdhkojidgeaaDoor.isaUses
set_option linter.unusedVariables false
set_option linter.unusedSimpArgs false
open Go.RowKit

set_option maxRecDepth 100000 in
set_option maxHeartbeats 8000000 in
theorem m2 (o : Nat) (a b c m x y : Int) (w : World) (hL : LaidI w) (hi : rightB ⟨o, a, b, c, m⟩ = true) (h30 : ((o : Int) == 30) = false) (hx0 : decide (x < 0) = false) (hx1 : decide (14 < x) = false) (hy0 : decide (y < 0) = false) (hy1 : decide (14 < y) = false) (b0 : hasB (opsN o) 0 = true) (b1 : hasB (opsN o) 1 = true) (b2 : hasB (opsN o) 2 = false) :
    Calls Tryd.prog 7 #[.agg #[.int .i64 o, .int .i64 a, .int .i64 b, .int .i64 c, .int .i64 m], .int .i64 x, .int .i64 y] w (Goal w) := by
  have K0 := Lib.hid ((Kp.mk hL (Below.refl _ _)).alloc (.cells #[.int .i64 o, .int .i64 a, .int .i64 b, .int .i64 c, .int .i64 m] 23))
  have P0 := Lib.hid (block_new w (.cells #[.int .i64 o, .int .i64 a, .int .i64 b, .int .i64 c, .int .i64 m] 23))
  have KS := Lib.hid (smallP _ K0.out.laid)
  have HU := Lib.hid (fun W (h : LaidI W) => usesP o a b c m W h)
  have HR := Lib.hid (fun W h => rightP o a b c m W h)
  obtain ⟨hok1, hok2⟩ := uses_ok hi
  rw [hi] at HR
  have HRI := Lib.hid hi
  obtain ⟨R, hRR⟩ : ∃ R, rdsL ⟨o, a, b, c, m⟩ = R := ⟨_, rfl⟩
  obtain ⟨V, hVV⟩ : ∃ V, wrsL ⟨o, a, b, c, m⟩ = V := ⟨_, rfl⟩
  rw [hRR] at HU hok1
  rw [hVV] at HU hok2
  have HRR := Lib.hid hRR
  have HVV := Lib.hid hVV
  have HO1 := Lib.hid hok1
  have HO2 := Lib.hid hok2
  have hr3 := hok1.len
  have hv2 := hok2.len
  clear hL hi hRR hVV hok1 hok2
  go_enter Tryd.func7, Tryd.ntmps7
  go_wp2_with fail
  refine KS.out.mono ?_; rintro e w1 ⟨rfl, hb⟩
  have K1 := Lib.hid (K0.out.call hb)
  have P1 := Lib.hid (blkKeep P0.out hb)
  clear hb
  have p0 : w1.cell? ⟨w.heap.size, 0, none⟩ = some (.int .i64 o) := blk_cell P1.out 0
  have p1 : w1.cell? ⟨w.heap.size, 1, none⟩ = some (.int .i64 a) := blk_cell P1.out 1
  have p2 : w1.cell? ⟨w.heap.size, 2, none⟩ = some (.int .i64 b) := blk_cell P1.out 2
  have p3 : w1.cell? ⟨w.heap.size, 3, none⟩ = some (.int .i64 c) := blk_cell P1.out 3
  have p4 : w1.cell? ⟨w.heap.size, 4, none⟩ = some (.int .i64 m) := blk_cell P1.out 4
  go_wp2_with fail
  refine (HU.out _ K1.out.laid).mono ?_; rintro e w2 ⟨u, v, rfl, hu, hv, hb⟩
  have K2 := Lib.hid (K1.out.call hb)
  have P2 := Lib.hid (blkKeep P1.out hb)
  have U2 := Lib.hid hu
  have V2 := Lib.hid hv
  obtain ⟨Au, cu, hue, _⟩ := hu
  obtain ⟨Av, cv, hve, _⟩ := hv
  subst hue
  subst hve
  clear hb p0 p1 p2 p3 p4
  have p0 : w2.cell? ⟨w.heap.size, 0, none⟩ = some (.int .i64 o) := blk_cell P2.out 0
  have p1 : w2.cell? ⟨w.heap.size, 1, none⟩ = some (.int .i64 a) := blk_cell P2.out 1
  have p2 : w2.cell? ⟨w.heap.size, 2, none⟩ = some (.int .i64 b) := blk_cell P2.out 2
  have p3 : w2.cell? ⟨w.heap.size, 3, none⟩ = some (.int .i64 c) := blk_cell P2.out 3
  have p4 : w2.cell? ⟨w.heap.size, 4, none⟩ = some (.int .i64 m) := blk_cell P2.out 4
  go_wp2_with fail
  refine (HR.out _ K2.out.laid.forms).mono ?_; rintro e w3 ⟨rfl, hb⟩
  have K3 := Lib.hid (K2.out.call hb)
  have P3 := Lib.hid (blkKeep P2.out hb)
  have U3 := Lib.hid (IRow.keep U2.out hb)
  have V3 := Lib.hid (IRow.keep V2.out hb)
  clear hb p0 p1 p2 p3 p4
  have ho0 : OwnN (w3.alloc (.cells #[] 3)) w3.heap.size (.slice (some ⟨w3.heap.size, 0, none⟩) 0 0) [] := World.ownsRow_made w3 #[] 0 (Nat.le_refl _) (by decide) rfl
  obtain ⟨v1, w4, hrun1, ho1, hB1⟩ := run_appN (w3.alloc (.cells #[] 3)) 34 w3.heap.size _ _ [] R ho0 (IRow.keep U3.out (below_new w3 _)) (by simp; omega) (by simp)
  rw [List.nil_append] at ho1
  have hB14 : Below w3.heap.size w3 w4 := (below_new w3 _).trans hB1
  obtain ⟨v2, w5, hrun2, ho2, hB2⟩ := run_appN w4 34 w3.heap.size _ _ R V ho1 (IRow.keep V3.out hB14) (by omega) hB14.size
  have hB35 : Below w3.heap.size w3 w5 := hB14.trans hB2
  have K5 := Lib.hid (K3.out.call hB35)
  have P5 := Lib.hid (blkKeep P3.out hB35)
  have U5 := Lib.hid (IRow.keep U3.out hB35)
  have V5 := Lib.hid (IRow.keep V3.out hB35)
  have hrow := ho2.row
  have HRUN1 := Lib.hid hrun1
  have HRUN2 := Lib.hid hrun2
  obtain ⟨L, hLL⟩ : ∃ L, R ++ V = L := ⟨_, rfl⟩
  rw [hLL] at hrow
  have hln : L.length = R.length + V.length := by rw [← hLL, List.length_append]
  have hln5 : L.length ≤ 5 := by omega
  have HLS := Lib.hid (list_ok HO1.out HO2.out)
  rw [hLL] at HLS
  clear ho0 hrun1 ho1 hB1 hB14 hrun2 ho2 hB2 hB35 hLL hln
  obtain ⟨A2, c2, hv2e, hc1, hc2, hA2⟩ := hrow
  subst hv2e
  unfold maxLen at hc2
  have HA2 := Lib.hid hA2
  clear hA2
  go_wp2_with (first | (at_builtin; refine Lib.wpList_append_run_sl _ rfl _ _ 34 rfl _ _ rfl rfl HRUN1.out ?_) | (at_builtin; refine Lib.wpList_append_run_sl _ rfl _ _ 34 rfl _ _ rfl rfl HRUN2.out ?_))
  go_loopw [11] (fun i wr => ∃ k : Nat, k ≤ L.length ∧ i = .int .i64 k ∧ Below w5.heap.size w5 wr) (fun i _ => L.length - (intOf i).toNat)
  case atStart => exact ⟨0, by omega, rfl, Below.refl _ _⟩
  case round =>
    obtain ⟨k, hk, rfl, hB⟩ := hrel
    by_cases hlt : k < L.length
    · obtain ⟨g, rfl, hg, hcc⟩ := HA2.out (by omega)
      have c1 := (hB.cell (p := ⟨g, k, none⟩) hg).trans (hcc k hlt)
      obtain ⟨hle, hsx⟩ := HLS.out k hlt
      obtain ⟨z, hz⟩ : ∃ z, L[k] = z := ⟨_, rfl⟩
      rw [hz] at c1 hle hsx
      have d1 : decide ((z : Int) < 0) = false := decide_eq_false (by omega)
      have d2 : decide ((15 : Int) < z) = false := decide_eq_false (by omega)
      have d2' : decide (15 < z) = false := decide_eq_false (by omega)
      have hkI : (k : Int) < L.length := by omega
      have HBR := Lib.hid hB
      by_cases hk0 : k = 0
      · have e0 : decide ((0 : Int) < k) = false := decide_eq_false (by omega)
        have e0' : decide (0 < k) = false := decide_eq_false (by omega)
        have HK0 := Lib.hid hk0
        clear hB hcc hsx hz hle hk0
        go_wp2_with fail
        go_quiet (fail)
        go_wp2_with fail
        go_roundw
        case rel => exact ⟨k + 1, by omega, by go_num, bdN HBR.out _⟩
        case measure => simp [intOf]; omega
      · have e0 : decide ((0 : Int) < k) = true := decide_eq_true (by omega)
        have e0' : decide (0 < k) = true := decide_eq_true (by omega)
        by_cases hkr : k = R.length
        · have f0 : ((k : Int) == R.length) = true := beq_iff_eq.2 (by omega)
          have f0' : ((k : Int) != R.length) = false := by rw [bne, f0]; rfl
          have f1 : (k == R.length) = true := beq_iff_eq.2 hkr
          clear hB hcc hsx hz hle hkr
          go_wp2_with fail
          go_quiet (fail)
          go_wp2_with fail
          go_roundw
          case rel => exact ⟨k + 1, by omega, by go_num, bdN HBR.out _⟩
          case measure => simp [intOf]; omega
        · obtain ⟨j, hj⟩ : ∃ j, k = j + 1 := ⟨k - 1, by omega⟩
          have hjl : j < L.length := by omega
          have c2 := (hB.cell (p := ⟨g, j, none⟩) hg).trans (hcc j hjl)
          have hlt2 := hsx j hjl hj hkr
          obtain ⟨t, ht⟩ : ∃ t, L[j] = t := ⟨_, rfl⟩
          rw [ht] at c2 hlt2
          have f0 : ((k : Int) == R.length) = false := beq_eq_false_iff_ne.2 (by omega)
          have f0' : ((k : Int) != R.length) = true := by rw [bne, f0]; rfl
          have f1 : (k == R.length) = false := beq_eq_false_iff_ne.2 hkr
          have g1 : decide ((z : Int) ≤ t) = false := decide_eq_false (by omega)
          have g1' : decide (z ≤ t) = false := decide_eq_false (by omega)
          have hjI : (j : Int) < L.length := by omega
          have s1 : IntKind.i64.wrap ((k : Int) - 1) = (j : Int) := by rw [IntWalk.i64_in _ (by omega)]; omega
          have s2 : (k : Int) - 1 = (j : Int) := by omega
          have s3 : ((k : Int) - 1).toNat = j := by omega
          clear hB hcc hsx hz hle hkr ht hlt2 hj
          go_wp2_with fail
          go_quiet (fail)
          go_wp2_with fail
          go_roundw
          case rel => exact ⟨k + 1, by omega, by go_num, bdN HBR.out _⟩
          case measure => simp [intOf]; omega
    · obtain rfl : k = L.length := by omega
      have K6 := Lib.hid (K5.out.call hB)
      have P6 := Lib.hid (blkKeep P5.out hB)
      have U6 := Lib.hid (IRow.keep U5.out hB)
      have V6 := Lib.hid (IRow.keep V5.out hB)
      have l1 : decide ((3 : Int) < R.length) = false := decide_eq_false (by omega)
      have l1' : decide (3 < R.length) = false := decide_eq_false (by omega)
      have l2 : decide ((2 : Int) < V.length) = false := decide_eq_false (by omega)
      have l2' : decide (2 < V.length) = false := decide_eq_false (by omega)
      have p0 : wr.cell? ⟨w.heap.size, 0, none⟩ = some (.int .i64 o) := blk_cell P6.out 0
      clear hB
      have p1 : wr.cell? ⟨w.heap.size, 1, none⟩ = some (.int .i64 a) := blk_cell P6.out 1
      have p2 : wr.cell? ⟨w.heap.size, 2, none⟩ = some (.int .i64 b) := blk_cell P6.out 2
      have p3 : wr.cell? ⟨w.heap.size, 3, none⟩ = some (.int .i64 c) := blk_cell P6.out 3
      have p4 : wr.cell? ⟨w.heap.size, 4, none⟩ = some (.int .i64 m) := blk_cell P6.out 4
      have hop1 := (right_op HRI.out).1
      have hop2 := (right_op HRI.out).2
      simp only at hop1 hop2
      have HOP := Lib.hid (fun W => operandsP o W (by omega) (by omega))
      have hxx : 0 ≤ x ∧ x ≤ 14 := by simp only [decide_eq_false_iff_not] at hx0 hx1; omega
      have hyy : 0 ≤ y ∧ y ≤ 14 := by simp only [decide_eq_false_iff_not] at hy0 hy1; omega
      have hex : exch ⟨o, a, b, c, m⟩ x y = ⟨o, mapI a x y, mapI b x y, c, m⟩ := by unfold exch; simp only [Int.toNat_natCast, b0, b1, b2]; rfl
      have hrj := right_exch HRI.out hxx hyy
      obtain ⟨hrd, hwr⟩ := rds_exch HRI.out (by show (o : Int) ≠ 30; exact fun e => by rw [e] at h30; cases h30) hxx hyy
      rw [hex] at hrj hrd hwr
      rw [HRR.out] at hrd
      rw [HVV.out] at hwr
      have HH := Lib.hid (fun v k W (h : IRow W v (opdL o)) => hasLP v (opdL o) k W h)
      have hc1 := (opdL_has o (by omega)).1
      have hc2 := (opdL_has o (by omega)).2.1
      have hc3 := (opdL_has o (by omega)).2.2
      rw [b0] at hc1
      rw [b1] at hc2
      rw [b2] at hc3
      have HH1 : Hid (∀ v W, IRow W v (opdL o) → Calls Tryd.prog 24 #[v, .int .i64 1] W fun e w' => e = .returned (.bool true) ∧ W = w') := Lib.hid (fun v W h => by have := HH.out v 1 W h; rw [hc1] at this; exact this)
      have HH2 : Hid (∀ v W, IRow W v (opdL o) → Calls Tryd.prog 24 #[v, .int .i64 2] W fun e w' => e = .returned (.bool true) ∧ W = w') := Lib.hid (fun v W h => by have := HH.out v 2 W h; rw [hc2] at this; exact this)
      have HH3 : Hid (∀ v W, IRow W v (opdL o) → Calls Tryd.prog 24 #[v, .int .i64 3] W fun e w' => e = .returned (.bool false) ∧ W = w') := Lib.hid (fun v W h => by have := HH.out v 3 W h; rw [hc3] at this; exact this)
      have HMA := Lib.hid (fun W => mappedP a x y W)
      have HMB := Lib.hid (fun W => mappedP b x y W)
      have HMC := Lib.hid (fun W => mappedP c x y W)
      obtain ⟨ma, hma⟩ : ∃ q, mapI a x y = q := ⟨_, rfl⟩
      rw [hma] at HMA hrj hrd hwr
      obtain ⟨mb, hmb⟩ : ∃ q, mapI b x y = q := ⟨_, rfl⟩
      rw [hmb] at HMB hrj hrd hwr
      have HUJ := Lib.hid (fun W (h : LaidI W) => usesP o ma mb c m W h)
      have HRJ := Lib.hid (fun W h => rightP o ma mb c m W h)
      rw [hrj] at HRJ
      rw [hrd, hwr] at HUJ
      clear hop1 hop2 hxx hyy hex hrj hrd hwr HH hc1 hc2 hc3 b0 b1 b2 hma hmb
      go_wp2_with fail
      refine (HOP.out _).mono ?_; rintro e wA ⟨vo, rfl, hvo, hb⟩
      have KA := Lib.hid (K6.out.call hb)
      have PA := Lib.hid (blkKeep P6.out hb)
      have UA := Lib.hid (IRow.keep U6.out hb)
      have VA := Lib.hid (IRow.keep V6.out hb)
      have HVO := Lib.hid hvo
      have hszA : w.heap.size < wA.heap.size := (Array.getElem?_eq_some_iff.1 PA.out).1
      clear hb hvo p0 p1 p2 p3 p4
      have p0 : wA.cell? ⟨w.heap.size, 0, none⟩ = some (.int .i64 o) := blk_cell PA.out 0
      have p1 : wA.cell? ⟨w.heap.size, 1, none⟩ = some (.int .i64 a) := blk_cell PA.out 1
      have p2 : wA.cell? ⟨w.heap.size, 2, none⟩ = some (.int .i64 b) := blk_cell PA.out 2
      have p3 : wA.cell? ⟨w.heap.size, 3, none⟩ = some (.int .i64 c) := blk_cell PA.out 3
      have p4 : wA.cell? ⟨w.heap.size, 4, none⟩ = some (.int .i64 m) := blk_cell PA.out 4
      go_wp2_with fail
      refine (HH1.out _ _ (IRow.keep HVO.out (below_new wA _))).mono ?_; rintro e w' ⟨rfl, rfl⟩
      go_wp2_with fail
      refine (HMA.out _).mono ?_; rintro e w' ⟨rfl, rfl⟩
      go_wp2_with fail
      refine (HH2.out _ _ (IRow.keep HVO.out (below_new wA _))).mono ?_; rintro e w' ⟨rfl, rfl⟩
      go_wp2_with fail
      refine (HMB.out _).mono ?_; rintro e w' ⟨rfl, rfl⟩
      go_wp2_with fail
      refine (HH3.out _ _ (IRow.keep HVO.out (below_new wA _))).mono ?_; rintro e w' ⟨rfl, rfl⟩
      have KJ := Lib.hid (KA.out.alloc (.cells #[.int .i64 o, .int .i64 ma, .int .i64 mb, .int .i64 c, .int .i64 m] 23))
      have PJ := Lib.hid (block_new wA (.cells #[.int .i64 o, .int .i64 ma, .int .i64 mb, .int .i64 c, .int .i64 m] 23))
      have UJ := Lib.hid (IRow.keep UA.out (below_new wA (.cells #[.int .i64 o, .int .i64 ma, .int .i64 mb, .int .i64 c, .int .i64 m] 23)))
      have VJ := Lib.hid (IRow.keep VA.out (below_new wA (.cells #[.int .i64 o, .int .i64 ma, .int .i64 mb, .int .i64 c, .int .i64 m] 23)))
      clear p0 p1 p2 p3 p4
      go_wp2_with fail
      refine (HUJ.out _ KJ.out.laid).mono ?_; rintro e wB ⟨up, vp, rfl, hup, hvp, hb⟩
      have KB := Lib.hid (KJ.out.call hb)
      have PB := Lib.hid (blkKeep PJ.out hb)
      have UB := Lib.hid (IRow.keep UJ.out hb)
      have VB := Lib.hid (IRow.keep VJ.out hb)
      have UPB := Lib.hid hup
      have VPB := Lib.hid hvp
      clear hb hup hvp
      have p0 : wB.cell? ⟨wA.heap.size, 0, none⟩ = some (.int .i64 o) := blk_cell PB.out 0
      have p1 : wB.cell? ⟨wA.heap.size, 1, none⟩ = some (.int .i64 ma) := blk_cell PB.out 1
      have p2 : wB.cell? ⟨wA.heap.size, 2, none⟩ = some (.int .i64 mb) := blk_cell PB.out 2
      have p3 : wB.cell? ⟨wA.heap.size, 3, none⟩ = some (.int .i64 c) := blk_cell PB.out 3
      have p4 : wB.cell? ⟨wA.heap.size, 4, none⟩ = some (.int .i64 m) := blk_cell PB.out 4
      go_wp2_with fail
      refine (HRJ.out _ KB.out.laid.forms).mono ?_; rintro e wC ⟨rfl, hb⟩
      have KC := Lib.hid (KB.out.call hb)
      have UC := Lib.hid (IRow.keep UB.out hb)
      have VC := Lib.hid (IRow.keep VB.out hb)
      have UPC := Lib.hid (IRow.keep UPB.out hb)
      have VPC := Lib.hid (IRow.keep VPB.out hb)
      clear hb p0 p1 p2 p3 p4
      go_wp2_with fail
      refine (swappedP _ R x y _ UC.out (by omega)).mono ?_; rintro e wD ⟨us, rfl, hus, hb⟩
      have KD := Lib.hid (KC.out.call hb)
      have VD := Lib.hid (IRow.keep VC.out hb)
      have UPD := Lib.hid (IRow.keep UPC.out hb)
      have VPD := Lib.hid (IRow.keep VPC.out hb)
      have USD := Lib.hid hus
      clear hb hus
      go_wp2_with fail
      refine (intsP _ _ _ _ _ UPD.out USD.out).mono ?_
      rw [decide_eq_true rfl]
      rintro e wE ⟨rfl, hb⟩
      have KE := Lib.hid (KD.out.call hb)
      have VE := Lib.hid (IRow.keep VD.out hb)
      have VPE := Lib.hid (IRow.keep VPD.out hb)
      clear hb
      go_wp2_with fail
      refine (swappedP _ V x y _ VE.out (by omega)).mono ?_; rintro e wF ⟨vs, rfl, hvs, hb⟩
      have KF := Lib.hid (KE.out.call hb)
      have VPF := Lib.hid (IRow.keep VPE.out hb)
      have VSF := Lib.hid hvs
      clear hb hvs
      go_wp2_with fail
      refine (intsP _ _ _ _ _ VPF.out VSF.out).mono ?_
      rw [decide_eq_true rfl]
      rintro e wG ⟨rfl, hb⟩
      have HF : Hid (Goal w (.returned (.bool true)) wG) := Lib.hid ⟨rfl, (KF.out.call hb).below⟩
      clear hb
      go_wp2_with fail
      go_ret
      exact HF.out
end Go.Proofs.YtijcdhkojidgeaaDoor.isaUses
