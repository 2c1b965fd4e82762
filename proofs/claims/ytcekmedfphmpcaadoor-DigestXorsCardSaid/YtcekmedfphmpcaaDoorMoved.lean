/-
  Contract of the program's moved.
-/
import Derived.Test.YtcekmedfphmpcaaDoorLaid
import Derived.Test.YtcekmedfphmpcaaDoorRot
namespace Go.Proofs.YtcekmedfphmpcaaDoor
set_option linter.unusedVariables false
set_option linter.unusedSimpArgs false
open Go.RowKit

/-- The state behind the second step. -/
def mvL (a : List Nat) : List Nat := (List.range 25).map fun j => rol (lat a (srcOf j)) (lat turns (srcOf j))
theorem mvL_length (a : List Nat) : (mvL a).length = 25 := by simp [mvL]
/-- Lane k lands there. -/
def dstOf (k : Nat) : Nat := k / 5 + 5 * ((2 * (k % 5) + 3 * (k / 5)) % 5)
theorem src_dst : ∀ k, k < 25 → srcOf (dstOf k) = k ∧ dstOf k < 25 := by decide +kernel
theorem dst_src : ∀ j, j < 25 → dstOf (srcOf j) = j ∧ srcOf j < 25 := by decide +kernel
def mvK (a : List Nat) (k : Nat) : List Nat := (List.range 25).map fun j => if srcOf j < k then rol (lat a (srcOf j)) (lat turns (srcOf j)) else 0
theorem mvK_length (a : List Nat) (k : Nat) : (mvK a k).length = 25 := by simp [mvK]
theorem mvK_zero (a : List Nat) : mvK a 0 = List.replicate 25 0 := by
  unfold mvK
  simp only [Nat.not_lt_zero, if_false]
  decide
theorem mvK_full (a : List Nat) : mvK a 25 = mvL a := by
  unfold mvK mvL
  apply List.map_congr_left
  intro j hj
  rw [if_pos (dst_src j (by simpa using hj)).2]
theorem mvK_succ (a : List Nat) (k : Nat) (hk : k < 25) : mvK a (k + 1) = (mvK a k).set (dstOf k) (rol (lat a k) (lat turns k)) := by
  apply List.ext_getElem
  · simp [mvK]
  · intro j h1 h2
    have hj : j < 25 := by simpa [mvK] using h1
    rw [List.getElem_set]
    simp only [mvK, List.getElem_map, List.getElem_range]
    by_cases e : dstOf k = j
    · subst e; rw [if_pos rfl, (src_dst k hk).1, if_pos (by omega)]
    · rw [if_neg e]
      have hne : srcOf j ≠ k := fun e2 => e (by rw [← e2]; exact (dst_src j hj).1)
      by_cases h : srcOf j < k
      · rw [if_pos (by omega), if_pos h]
      · rw [if_neg (by omega), if_neg h]

theorem rotV_info : (Tryd.prog.info? 55).map (·.size) = some rotV.size := by kernel_rfl
theorem state_info : (Tryd.prog.info? 38).map (·.size) = some 25 := by kernel_rfl
theorem uv_arr_size (l : List Nat) : (uv l).toArray.size = l.length := by rw [List.size_toArray, uv_length]
theorem uv_one (l : List Nat) : (uv l).toArray.all (·.oneCell') = true := by
  rw [Array.all_eq_true_iff_forall_mem]
  intro v hv
  have hv2 : v ∈ uv l := by simpa using hv
  obtain ⟨n, _, rfl⟩ := List.mem_map.1 hv2
  rfl

set_option maxRecDepth 100000 in
set_option maxHeartbeats 4000000 in
theorem movedP (g : Nat) (a : List Nat) (w : World) (hs : St w g a) (ha : lanes a) (hL : Laid w) :
    Calls Tryd.prog 37 #[.pointer (some ⟨g, 0, none⟩)] w fun e w' => e = .returned (.agg (uv (mvL a)).toArray) ∧ Below w.heap.size w w' := by
  obtain ⟨ha25, hal⟩ := ha
  have hgl := hs.lt
  have HAL := Lib.hid hal; clear hal
  obtain ⟨t2, fr2, hrow⟩ := hL.1
  have hrow2 : ∀ o1 o2, ((w.alloc o1).alloc o2).heap[2]? = some (.cells rotV t2 fr2) := fun o1 o2 =>
    (heap_alloc_old (w.alloc o1) o2 (by have := hL.lt; rw [size_new]; omega)).trans ((heap_alloc_old w o1 hL.lt.1).trans hrow)
  have hri := rot_idx
  have hinfo := rotV_info
  obtain ⟨R, hR⟩ : ∃ R, rotV = R := ⟨_, rfl⟩
  simp only [hR] at hri hrow2 hinfo
  have HRI := Lib.hid hri; clear hri hrow hR
  obtain ⟨B, hB⟩ : ∃ B, w.heap.size = B := ⟨_, rfl⟩
  have hgB : g < B := by omega
  have h0 : ∀ t1 t2, St ((w.alloc (.cells zero25 t1)).alloc (.cells zero25 t2)) g a ∧ St ((w.alloc (.cells zero25 t1)).alloc (.cells zero25 t2)) B (List.replicate 25 0) ∧ St ((w.alloc (.cells zero25 t1)).alloc (.cells zero25 t2)) (B + 1) (mvK a 0) ∧ Below B w ((w.alloc (.cells zero25 t1)).alloc (.cells zero25 t2)) := fun t1 t2 => by
    refine ⟨(hs.alloc _).alloc _, ⟨t1, ?_⟩, ⟨t2, ?_⟩, ?_⟩
    · rw [← hB, heap_alloc_old _ _ (by rw [size_new]; omega), heap_alloc_new]; rfl
    · have e := heap_alloc_new (w.alloc (.cells zero25 t1)) (.cells zero25 t2)
      rw [size_new, hB] at e
      rw [e, mvK_zero]; rfl
    · rw [← hB]; exact (below_new w _).alloc (by rw [size_new]; omega) _
  unfold zero25 at h0
  have H0 := Lib.hid h0; clear h0
  go_enter Tryd.func37, Tryd.ntmps37
  go_wp2_with (refine wpList_load_row rfl _ _ rfl 2 rfl t2 R fr2 _ (hrow2 _ _) Tryd.underlying55 rfl hinfo ?_)
  have HBB := Lib.hid hB; clear hB hinfo hrow2
  go_loopw [9] (fun i wl => ∃ k : Nat, k ≤ 25 ∧ i = .int .i64 k ∧ St wl g a ∧ St wl B (List.replicate 25 0) ∧ St wl (B + 1) (mvK a k) ∧ Below B w wl) (fun i _ => 25 - (intOf i).toNat)
  case atStart => exact ⟨0, by omega, rfl, H0.out _ _⟩
  case round =>
    obtain ⟨k, hk, rfl, hsg, hsr, hsq, hBl⟩ := hrel
    by_cases hlt : k < 25
    · have hx5 : k % 5 < 5 := by omega
      have hy5 : k / 5 < 5 := by omega
      have hd25 := (src_dst k hlt).2
      have ca := hsg.cell k (by omega)
      have hla := lat_lt64 HAL.out k
      have hdst : dstOf k = k / 5 + 5 * ((2 * (k % 5) + 3 * (k / 5)) % 5) := rfl
      have cq := hsq.cell (dstOf k) (by rw [mvK_length]; exact hd25)
      have fq := hsq.free (dstOf k)
      have hst := hsq.store (dstOf k) (rol (lat a k) (lat turns k))
      rw [← mvK_succ a k hlt] at hst
      have hsg2 := hsg.other (B + 1) (dstOf k) (.int .u64 (rol (lat a k) (lat turns k) : Nat)) (by omega)
      have hsr2 := hsr.other (B + 1) (dstOf k) (.int .u64 (rol (lat a k) (lat turns k) : Nat)) (by omega)
      have hB2 := hBl.setCell (p := ⟨B + 1, dstOf k, none⟩) (by show B ≤ B + 1; omega) (.int .u64 (rol (lat a k) (lat turns k) : Nat))
      have hrot := fun w => rotP (lat a k) (lat turns k) w hla (turns_lt k hlt)
      have hix := HRI.out k hlt
      obtain ⟨va, hva⟩ : ∃ n, lat a k = n := ⟨_, rfl⟩
      rw [hva] at ca hst hsg2 hsr2 hB2
      simp only [hva] at hrot
      obtain ⟨tn, htn⟩ : ∃ n, lat turns k = n := ⟨_, rfl⟩
      rw [htn] at hst hsg2 hsr2 hB2
      simp only [htn] at hrot hix
      obtain ⟨rv, hrv⟩ : ∃ n, rol va tn = n := ⟨_, rfl⟩
      rw [hrv] at hst hsg2 hsr2 hB2
      simp only [hrv] at hrot
      obtain ⟨qv, hqv⟩ : ∃ n, lat (mvK a k) (dstOf k) = n := ⟨_, rfl⟩
      rw [hqv] at cq
      clear hva htn hrv hqv hla
      rw [hdst] at cq fq hst hsg2 hsr2 hB2
      have HROT := Lib.hid hrot; clear hrot
      have HST := Lib.hid hst; clear hst
      have HSG := Lib.hid hsg2; clear hsg2 hsg
      have HSR := Lib.hid hsr2; clear hsr2 hsr hsq
      rw [hdst] at hd25
      clear hdst
      have ex : (k : Int) % 5 = ((k % 5 : Nat) : Int) := by omega
      have ey : (k : Int) / 5 = ((k / 5 : Nat) : Int) := by omega
      obtain ⟨x, hx⟩ : ∃ x, k % 5 = x := ⟨_, rfl⟩
      obtain ⟨y, hy⟩ : ∃ y, k / 5 = y := ⟨_, rfl⟩
      rw [hx] at ex hx5 hd25 cq fq
      rw [hy] at ey hy5 hd25 cq fq
      have HX := Lib.hid hx; clear hx
      have HY := Lib.hid hy; clear hy
      go_wp2_with fail
      refine (HROT.out _).mono ?_; rintro e w' ⟨rfl, rfl⟩
      go_wp2_with fail
      go_roundw
      case rel => 
        have h1 := HSG.out
        have h2 := HSR.out
        have h3 := HST.out
        rw [HX.out, HY.out] at h1 h2 h3 hB2
        exact ⟨k + 1, by omega, by go_num, h1, h2, h3, hB2⟩
      case measure => simp [intOf]; omega
    · obtain rfl : k = 25 := by omega
      rw [show (((25 : Nat) : Int)) = 25 from rfl]
      rw [mvK_full] at hsq
      obtain ⟨tq, hq⟩ := hsq
      obtain ⟨tr, hr⟩ := hsr
      have hi1 : (Tryd.prog.info? 38).map (·.size) = some (uv (mvL a)).toArray.size := by rw [uv_arr_size, mvL_length]; exact state_info
      have ho1 : (uv (List.replicate 25 0)).toArray.size = (uv (mvL a)).toArray.size := by rw [uv_arr_size, uv_arr_size, mvL_length]; rfl
      have hone := uv_one (mvL a)
      obtain ⟨C, hC⟩ : ∃ C, (uv (mvL a)).toArray = C := ⟨_, rfl⟩
      rw [hC] at hq hi1 ho1 hone
      obtain ⟨O, hO⟩ : ∃ O, (uv (List.replicate 25 0)).toArray = O := ⟨_, rfl⟩
      rw [hO] at hr ho1
      have HC := Lib.hid hC
      clear hC hO
      obtain ⟨w1, rfl⟩ : ∃ w1 : World, w1 = wr := ⟨_, rfl⟩
      go_wp2_with (first | (refine wpList_load_row rfl _ _ rfl (B + 1) rfl tq C (0, 0) _ hq Tryd.underlying38 rfl hi1 ?_) | (refine wpList_store_row rfl _ _ _ rfl B C rfl rfl tr O hr hi1 ho1 hone ?_))
      have hBs : Below B w (w1.setRow B C) := ⟨hBl.os, hBl.tape, hBl.output, by rw [size_setRow]; exact hBl.size, fun k hk => (setRow_other w1 B k C (by omega)).trans (hBl.block k hk)⟩
      go_wp2_with fail
      refine bodyPost_ret (v := .agg C) (results_cell_row Tryd.results37 _ _ B tr C (0, 0) _ rfl (setRow_heap w1 B O C tr (0, 0) hr) Tryd.underlying38 rfl hi1) rfl ⟨by rw [HC.out], by rw [HBB.out]; exact hBs⟩
end Go.Proofs.YtcekmedfphmpcaaDoor
