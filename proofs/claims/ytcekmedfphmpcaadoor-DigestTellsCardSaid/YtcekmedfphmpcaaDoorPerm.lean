/-
  Contract of the program's permute.
-/
import Derived.Test.YtcekmedfphmpcaaDoorMixC
import Derived.Test.YtcekmedfphmpcaaDoorMoved
import Derived.Test.YtcekmedfphmpcaaDoorMixR
import Derived.Test.YtcekmedfphmpcaaDoorSumRef
namespace Go.Proofs.YtcekmedfphmpcaaDoor
set_option linter.unusedVariables false
set_option linter.unusedSimpArgs false
open Go.RowKit

theorem theta_lt {a P : List Nat} (ha : ∀ x ∈ a, x < 18446744073709551616) (hP : ∀ x ∈ P, x < 18446744073709551616) (i : Nat) : theta a P i < 18446744073709551616 := by
  unfold theta
  exact xor64 (xor64 (lat_lt64 ha _) (lat_lt64 hP _)) (rol_lt (lat_lt64 hP _) (by omega))
theorem parL_lt {a : List Nat} (h : ∀ x ∈ a, x < 18446744073709551616) : ∀ x ∈ parL a, x < 18446744073709551616 := fun x hx => by
  obtain ⟨j, _, rfl⟩ := List.mem_map.1 hx
  exact par_lt h j
def thL (a : List Nat) : List Nat := (List.range 25).map (theta a (parL a))
theorem lanes_th {a : List Nat} (h : lanes a) : lanes (thL a) := ⟨by simp [thL], fun x hx => by
  obtain ⟨j, _, rfl⟩ := List.mem_map.1 hx
  exact theta_lt h.2 (parL_lt h.2) j⟩
theorem mv_th (a : List Nat) : mvL (thL a) = bL a (parL a) := by
  unfold mvL bL
  apply List.map_congr_left
  intro j hj
  have := (dst_src j (by simpa using hj)).2
  unfold thL
  rw [lat_map _ _ _ this]; rfl
theorem lanes_b {a : List Nat} (h : lanes a) : lanes (bL a (parL a)) := ⟨by simp [bL], bL_lt h.2 (parL_lt h.2)⟩
theorem chiL_zero (b : List Nat) : lat (chiL b) 0 = chi b 0 := lat_map _ _ _ (by omega)
theorem conV_info : (Tryd.prog.info? 50).map (·.size) = some conV.size := by kernel_rfl

set_option maxRecDepth 100000 in
set_option maxHeartbeats 4000000 in
theorem permP (g : Nat) (a : List Nat) (w : World) (hs : St w g a) (ha : lanes a) (hL : Laid w) (hg : g ≠ 2 ∧ g ≠ 0) :
    Calls Tryd.prog 32 #[.pointer (some ⟨g, 0, none⟩)] w fun e w' => e = .returned (.tuple #[]) ∧ St w' g (permL a) ∧ w.grownBy w' (some g) := by
  obtain ⟨t2, fr2, hrow⟩ := hL.2
  have hri := con_idx
  have hinfo := conV_info
  obtain ⟨R, hR⟩ : ∃ R, conV = R := ⟨_, rfl⟩
  rw [hR] at hrow hinfo
  simp only [hR] at hri
  have HRI := Lib.hid hri; clear hri hR
  have HA := Lib.hid ha; clear ha
  have HG := Lib.hid hg; clear hg
  have HLL := Lib.hid hL; clear hL
  go_enter Tryd.func32, Tryd.ntmps32
  go_wp2_with (refine wpList_load_row rfl _ _ rfl 0 rfl t2 R fr2 _ hrow Tryd.underlying50 rfl hinfo ?_)
  clear hrow hinfo
  go_loopw [6] (fun i wl => ∃ (k : Nat) (A : List Nat), k ≤ 24 ∧ i = .int .i64 k ∧ A = (consts.take k).foldl roundL a ∧ lanes A ∧ St wl g A ∧ w.grownBy wl (some g)) (fun i _ => 24 - (intOf i).toNat)
  case atStart => exact ⟨0, a, by omega, rfl, rfl, HA.out, hs, World.grownBy.refl _ _⟩
  case round =>
    obtain ⟨k, A, hk, rfl, hAk, hAl, hsg, hgr⟩ := hrel
    have HAK := Lib.hid hAk; clear hAk
    have HAL := Lib.hid hAl; clear hAl
    by_cases hlt : k < 24
    · have hix := HRI.out k hlt
      have hcl := consts_lt k
      have HTK := Lib.hid (consts_take a k hlt)
      obtain ⟨c, hc⟩ : ∃ c, lat consts k = c := ⟨_, rfl⟩
      rw [hc] at hcl HTK
      simp only [hc] at hix
      clear hc
      have hmc := mixC g A wr hsg HAL.out
      have HMC := Lib.hid hmc; clear hmc
      go_wp2_with fail
      refine HMC.out.mono ?_; rintro e w1 ⟨rfl, hs1, hg1⟩
      have hg1' := hgr.trans hg1
      have hL1 := HLL.out.grown hg1' HG.out
      have HMV := Lib.hid (movedP g (thL A) w1 hs1 (lanes_th HAL.out) hL1)
      rw [mv_th] at HMV
      have hbl := lanes_b HAL.out
      obtain ⟨B, hB⟩ : ∃ B, bL A (parL A) = B := ⟨_, rfl⟩
      rw [hB] at HMV hbl
      have HB := Lib.hid hB; clear hB
      have hi1 : (Tryd.prog.info? 38).map (·.size) = some (uv B).toArray.size := by rw [uv_arr_size, hbl.1]; exact state_info
      have hsz : 25 = (uv B).toArray.size := by rw [uv_arr_size, hbl.1]
      have hone := uv_one B
      obtain ⟨C, hC⟩ : ∃ C, (uv B).toArray = C := ⟨_, rfl⟩
      rw [hC] at HMV hi1 hsz hone
      have HC := Lib.hid hC; clear hC
      have HBL := Lib.hid hbl; clear hbl
      have HS1 := Lib.hid hs1; clear hs1
      clear hsg
      go_wp2_with fail
      refine HMV.out.mono ?_; rintro e w2 ⟨rfl, hB2⟩
      have hg2 := hg1'.trans (grown_below hB2 (some g))
      have hs2 := HS1.out.below hB2 HS1.out.lt
      have hg2lt := hs2.lt
      have HS2 := Lib.hid hs2; clear hs2
      go_wp2_with (refine wpList_store_row rfl _ _ _ rfl w2.heap.size C rfl rfl 38 _ (heap_alloc_new w2 _) hi1 hsz hone ?_)
      have HW : Hid (∀ o t, St ((w2.alloc (.cells o t)).setRow w2.heap.size C) w2.heap.size B ∧ St ((w2.alloc (.cells o t)).setRow w2.heap.size C) g (thL A) ∧ w.grownBy ((w2.alloc (.cells o t)).setRow w2.heap.size C) (some g)) := fun o t => by
        have hn := heap_alloc_new w2 (.cells o t)
        refine ⟨⟨t, ?_⟩, ?_, ?_⟩
        · rw [setRow_heap _ _ _ _ _ _ hn, HC.out]
        · obtain ⟨t', h⟩ := HS2.out.alloc (.cells o t)
          exact ⟨t', (setRow_other _ _ _ _ (by omega)).trans h⟩
        · exact hg2.andThen (row' := some w2.heap.size) (b' := w2) ⟨rfl, rfl, rfl, by rw [size_setRow, size_new]; omega, fun i hi hne => (setRow_other _ _ _ _ (by omega)).trans (heap_alloc_old _ _ hi)⟩ (fun j hj => by injection hj with hj; left; rw [← hj]; exact hg2.size)
      refine (mixR g w2.heap.size (thL A) B _ (HW.out _ _).2.1 (HW.out _ _).1 (lanes_th HAL.out).1 HBL.out (by omega)).mono ?_; rintro e w4 ⟨rfl, hs4, hg4⟩
      have hg4' := (HW.out _ _).2.2.trans hg4
      clear hg4 hone hsz hi1
      have c0 := hs4.cell 0 (by simp [chiL])
      have f0 := hs4.free 0
      rw [chiL_zero] at c0
      have hlc := chi_lt HBL.out.2 0
      have hx := bits_xor_u64_nat _ _ hlc hcl
      have hst := hs4.store 0 (chi B 0 ^^^ c)
      have hg5 := gr_set hg4' 0 (.int .u64 ((chi B 0 ^^^ c : Nat) : Int))
      have hr : (chiL B).set 0 (chi B 0 ^^^ c) = roundL A c := by rw [← HB.out]; rfl
      rw [hr] at hst
      have HR := Lib.hid hr; clear hr
      obtain ⟨v0, hv0⟩ : ∃ v, chi B 0 = v := ⟨_, rfl⟩
      rw [hv0] at c0 hx hst hg5
      obtain ⟨vx, hvx⟩ : ∃ v, v0 ^^^ c = v := ⟨_, rfl⟩
      rw [hvx] at hx hst hg5
      clear hlc hv0 hvx hs4
      have HST := Lib.hid hst; clear hst
      go_wp2_with fail
      go_region
      clear hx
      go_wp2_with fail
      go_roundw
      case rel => exact ⟨k + 1, roundL A c, by omega, by go_num, by rw [HTK.out, ← HAK.out], lanes_round HAL.out hcl, HST.out, gr_drew hg5⟩
      case measure => simp [intOf]; omega
    · obtain rfl : k = 24 := by omega
      have hp : permL a = A := HAK.out.symm
      have HP := Lib.hid hp; clear hp
      go_wp2_with fail
      go_end0
      exact ⟨rfl, by rw [HP.out]; exact hsg, hgr⟩
end Go.Proofs.YtcekmedfphmpcaaDoor
