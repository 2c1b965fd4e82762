/-
  Contract of the program's mixColumns.
-/
import Derived.Test.YtcekmedfphmpcaaDoorState
import Derived.Test.YtcekmedfphmpcaaDoorRot
namespace Go.Proofs.YtcekmedfphmpcaaDoor
set_option linter.unusedVariables false
set_option linter.unusedSimpArgs false
open Go.RowKit

set_option maxRecDepth 100000 in
set_option maxHeartbeats 4000000 in
theorem mixC (g : Nat) (a : List Nat) (w : World) (hs : St w g a) (ha : lanes a) :
    Calls Tryd.prog 36 #[.pointer (some ⟨g, 0, none⟩)] w fun e w' => e = .returned (.tuple #[]) ∧ St w' g ((List.range 25).map (theta a (parL a))) ∧ w.grownBy w' (some g) := by
  obtain ⟨ha25, hal⟩ := ha
  have hgl := hs.lt
  have HAL := Lib.hid hal; clear hal
  have hPlt : ∀ x ∈ parL a, x < 18446744073709551616 := fun x hx => by
    obtain ⟨j, _, rfl⟩ := List.mem_map.1 hx
    exact par_lt HAL.out j
  have HPL := Lib.hid hPlt; clear hPlt
  obtain ⟨p, hp⟩ : ∃ p, w.heap.size = p := ⟨_, rfl⟩
  have hgp : g < p := by omega
  have hs0 : St (w.alloc (.cells #[.int .u64 0, .int .u64 0, .int .u64 0, .int .u64 0, .int .u64 0] 53)) g a := hs.alloc _
  have hp0 : St (w.alloc (.cells #[.int .u64 0, .int .u64 0, .int .u64 0, .int .u64 0, .int .u64 0] 53)) p (fillK (par a) (fun _ => 0) 5 0) := by
    rw [← hp]; exact ⟨53, heap_alloc_new w _⟩
  have hB0 : Below p w (w.alloc (.cells #[.int .u64 0, .int .u64 0, .int .u64 0, .int .u64 0, .int .u64 0] 53)) := by
    rw [← hp]; exact below_new w _
  go_enter Tryd.func36, Tryd.ntmps36
  go_wp2_with fail
  have HP := Lib.hid hp; clear hp
  go_loopw [7] (fun i wl => ∃ k : Nat, k ≤ 5 ∧ i = .int .i64 k ∧ St wl g a ∧ St wl p (fillK (par a) (fun _ => 0) 5 k) ∧ Below p w wl) (fun i _ => 5 - (intOf i).toNat)
  case atStart => exact ⟨0, by omega, rfl, hs0, hp0, hB0⟩
  case round =>
    obtain ⟨k, hk, rfl, hsg, hsp, hB⟩ := hrel
    by_cases hlt : k < 5
    · obtain ⟨b1, b2, b3, x1, x2, x3, x4⟩ := par_eqs HAL.out k
      have c0 := hsg.cell k (by omega)
      have c1 := hsg.cell (k + 5) (by omega)
      have c2 := hsg.cell (k + 10) (by omega)
      have c3 := hsg.cell (k + 15) (by omega)
      have c4 := hsg.cell (k + 20) (by omega)
      have cp := hsp.cell k (by rw [fillK_length]; exact hlt)
      have fp := hsp.free k
      have hst := hsp.store k (par a k)
      rw [← fillK_succ _ _ _ _ hlt] at hst
      have hsg2 := hsg.other p k (.int .u64 (par a k : Nat)) (by omega)
      have hB2 := hB.setCell (p := ⟨p, k, none⟩) (Nat.le_refl _) (.int .u64 (par a k : Nat))
      obtain ⟨l0, h0⟩ : ∃ n, lat a k = n := ⟨_, rfl⟩
      obtain ⟨l1, h1⟩ : ∃ n, lat a (k + 5) = n := ⟨_, rfl⟩
      obtain ⟨l2, h2⟩ : ∃ n, lat a (k + 10) = n := ⟨_, rfl⟩
      obtain ⟨l3, h3⟩ : ∃ n, lat a (k + 15) = n := ⟨_, rfl⟩
      obtain ⟨l4, h4⟩ : ∃ n, lat a (k + 20) = n := ⟨_, rfl⟩
      rw [h0] at x1 c0
      rw [h1] at x1 c1
      rw [h2] at x2 c2
      rw [h3] at x3 c3
      rw [h4] at x4 c4
      clear h0 h1 h2 h3 h4
      obtain ⟨pk, hpk⟩ : ∃ n, par a k = n := ⟨_, rfl⟩
      rw [hpk] at x4 hst hsg2 hB2
      clear hpk
      obtain ⟨pv, hpv⟩ : ∃ n, lat (fillK (par a) (fun _ => 0) 5 k) k = n := ⟨_, rfl⟩
      rw [hpv] at cp
      clear hpv
      have HST := Lib.hid hst; clear hst
      have HSG := Lib.hid hsg2; clear hsg2 hsg hsp
      have q0 : (0 : Int) ≤ k := by omega
      have q1 : IntKind.i64.wrap ((k : Int) + 5) = k + 5 := IntWalk.i64_in _ (by omega)
      have q2 : IntKind.i64.wrap ((k : Int) + 10) = k + 10 := IntWalk.i64_in _ (by omega)
      have q3 : IntKind.i64.wrap ((k : Int) + 15) = k + 15 := IntWalk.i64_in _ (by omega)
      have q4 : IntKind.i64.wrap ((k : Int) + 20) = k + 20 := IntWalk.i64_in _ (by omega)
      have r0 : (k : Int) < 25 := by omega
      have r1 : (k : Int) + 5 < 25 := by omega
      have r2 : (k : Int) + 10 < 25 := by omega
      have r3 : (k : Int) + 15 < 25 := by omega
      have r4 : (k : Int) + 20 < 25 := by omega
      have r5 : (k : Int) < 5 := by omega
      have s1 : ((k : Int) + 5).toNat = k + 5 := by omega
      have s2 : ((k : Int) + 10).toNat = k + 10 := by omega
      have s3 : ((k : Int) + 15).toNat = k + 15 := by omega
      have s4 : ((k : Int) + 20).toNat = k + 20 := by omega
      have t1 : (0 : Int) ≤ (k : Int) + 5 := by omega
      have t2 : (0 : Int) ≤ (k : Int) + 10 := by omega
      have t3 : (0 : Int) ≤ (k : Int) + 15 := by omega
      have t4 : (0 : Int) ≤ (k : Int) + 20 := by omega
      go_wp2_with fail
      go_region
      clear x1 x2 x3 x4 q1 q2 q3 q4 s1 s2 s3 s4 r1 r2 r3 r4 t1 t2 t3 t4
      go_wp2_with fail
      go_roundw
      case rel => exact ⟨k + 1, by omega, by go_num, HSG.out, HST.out, hB2.drew⟩
      case measure => simp [intOf]; omega
    · obtain rfl : k = 5 := by omega
      rw [show (((5 : Nat) : Int)) = 5 from rfl]
      have hgr : w.grownBy wr (some g) := grown_below (by rw [HP.out]; exact hB) _
      have hfull : fillK (par a) (fun _ => 0) 5 5 = parL a := fillK_full _ _ _
      rw [hfull] at hsp
      rw [← thK_zero a (parL a) ha25] at hsg
      obtain ⟨P, hP⟩ : ∃ P, parL a = P := ⟨_, rfl⟩
      have hP5 : P.length = 5 := by rw [← hP]; simp [parL]
      rw [hP] at hsp hsg
      rw [hP] at HPL
      have HPP := Lib.hid hP; clear hP hfull hB hs0 hp0 hB0
      obtain ⟨w1, rfl⟩ : ∃ w1 : World, w1 = wr := ⟨_, rfl⟩
      go_wp2_with fail
      go_loopw [46] (fun i wl => ∃ x : Nat, x ≤ 5 ∧ i = .int .i64 x ∧ St wl g (thK a P x 0) ∧ St wl p P ∧ w.grownBy wl (some g)) (fun i _ => 5 - (intOf i).toNat)
      case atStart => exact ⟨0, by omega, rfl, hsg, hsp, hgr⟩
      case round =>
        obtain ⟨x, hx, rfl, hsg, hsp, hgr⟩ := hrel
        by_cases hx5 : x < 5
        · have c4 := hsp.cell ((x + 4) % 5) (by omega)
          have c1 := hsp.cell ((x + 1) % 5) (by omega)
          have hl4 := lat_lt64 HPL.out ((x + 4) % 5)
          have hl1 := lat_lt64 HPL.out ((x + 1) % 5)
          have hth : ∀ y, theta a P (x + 5 * y) = lat a (x + 5 * y) ^^^ (lat P ((x + 4) % 5) ^^^ rol (lat P ((x + 1) % 5)) 1) := fun y => by rw [theta_at a P x y hx5, Nat.xor_assoc]
          obtain ⟨v4, hv4⟩ : ∃ n, lat P ((x + 4) % 5) = n := ⟨_, rfl⟩
          obtain ⟨v1, hv1⟩ : ∃ n, lat P ((x + 1) % 5) = n := ⟨_, rfl⟩
          rw [hv4] at c4 hl4
          rw [hv1] at c1 hl1
          simp only [hv4, hv1] at hth
          clear hv4 hv1
          have hr1 := rol_lt (n := 1) hl1 (by omega)
          have hrot := fun w => rotP v1 1 w hl1 (by omega)
          obtain ⟨r1, hr⟩ : ∃ n, rol v1 1 = n := ⟨_, rfl⟩
          simp only [hr] at hrot hth
          rw [hr] at hr1
          have HRT : Hid (∀ w, Calls Tryd.prog 39 #[.int .u64 (v1 : Nat), .int .i64 1] w fun e w' => e = .returned (.int .u64 (r1 : Nat)) ∧ w = w') := hrot
          clear hrot hr
          have x1 := bits_xor_u64_nat v4 r1 hl4 hr1
          have hm64 := xor64 hl4 hr1
          obtain ⟨m, hm⟩ : ∃ n, v4 ^^^ r1 = n := ⟨_, rfl⟩
          rw [hm] at x1 hm64
          simp only [hm] at hth
          have HTH := Lib.hid hth; clear hth hm hl4 hl1 hr1
          have HSG := Lib.hid hsg; clear hsg
          have HSP := Lib.hid hsp; clear hsp
          have q0 : (0 : Int) ≤ x := by omega
          have q1 : IntKind.i64.wrap ((x : Int) + 5) = x + 5 := IntWalk.i64_in _ (by omega)
          have q2 : IntKind.i64.wrap ((x : Int) + 5 - 1) = x + 4 := by rw [IntWalk.i64_in _ (by omega)]; omega
          have q6 : (x : Int) + 5 - 1 = x + 4 := by omega
          have q6' : IntKind.i64.wrap ((x : Int) + 4) = x + 4 := IntWalk.i64_in _ (by omega)
          have q7 : ((x : Int) + 4).tmod 5 = (x + 4) % 5 := Int.tmod_eq_emod_of_nonneg (by omega)
          have q8 : IntKind.i64.wrap (((x : Int) + 4) % 5) = (x + 4) % 5 := IntWalk.i64_in _ (by omega)
          have q9 : (0 : Int) ≤ ((x : Int) + 4) % 5 := by omega
          have q10 : ((x : Int) + 4) % 5 < 5 := by omega
          have q11 : (((x : Int) + 4) % 5).toNat = (x + 4) % 5 := by omega
          have q12 : IntKind.i64.wrap ((x : Int) + 1) = x + 1 := IntWalk.i64_in _ (by omega)
          have q13 : ((x : Int) + 1).tmod 5 = (x + 1) % 5 := Int.tmod_eq_emod_of_nonneg (by omega)
          have q14 : IntKind.i64.wrap (((x : Int) + 1) % 5) = (x + 1) % 5 := IntWalk.i64_in _ (by omega)
          have q15 : (0 : Int) ≤ ((x : Int) + 1) % 5 := by omega
          have q16 : ((x : Int) + 1) % 5 < 5 := by omega
          have q17 : (((x : Int) + 1) % 5).toNat = (x + 1) % 5 := by omega
          go_wp2_with fail
          first | (go_region_held3 (fun w' => w'.cell? ⟨p, (x + 4) % 5, none⟩ = some (.int .u64 v4) ∧ w'.cell? ⟨p, (x + 1) % 5, none⟩ = some (.int .u64 v1))
              (first | go_keep)
              (first | (go_at_call 39; refine (HRT.out _).mono ?_; rintro e w' ⟨rfl, rfl⟩))) | fail
          clear q1 q2 q6 q6' q7 q8 q9 q10 q11 q12 q13 q14 q15 q16 q17 x1 c4 c1 HRT
          go_wp2_with fail
          obtain ⟨w2, rfl⟩ : ∃ w2 : World, w2 = wr := ⟨_, rfl⟩
          go_loopw [6] (fun i wl => ∃ y : Nat, y ≤ 5 ∧ i = .int .i64 ((x + 5 * y : Nat) : Int) ∧ St wl g (thK a P x y) ∧ St wl p P ∧ w.grownBy wl (some g)) (fun i _ => 30 - (intOf i).toNat)
          case atStart => exact ⟨0, by omega, rfl, HSG.out, HSP.out, gr_drew hgr⟩
          case round =>
            obtain ⟨y, hy, rfl, hsg, hsp, hgr⟩ := hrel
            by_cases hy5 : y < 5
            · have ca := hsg.cell (x + 5 * y) (by rw [thK_length]; omega)
              have fa := hsg.free (x + 5 * y)
              rw [thK_lat _ _ _ _ hx5 hy5] at ca
              have hla := lat_lt64 HAL.out (x + 5 * y)
              have hst := hsg.store (x + 5 * y) (theta a P (x + 5 * y))
              rw [← thK_step _ _ _ _ hx5 hy5, HTH.out y] at hst
              have hgr2 := gr_set hgr (x + 5 * y) (.int .u64 ((lat a (x + 5 * y) ^^^ m : Nat) : Int))
              have hsp2 := hsp.other g (x + 5 * y) (.int .u64 ((lat a (x + 5 * y) ^^^ m : Nat) : Int)) (by omega)
              have x1 := bits_xor_u64_nat _ m hla hm64
              obtain ⟨va, hva⟩ : ∃ n, lat a (x + 5 * y) = n := ⟨_, rfl⟩
              rw [hva] at ca x1 hst hgr2 hsp2
              obtain ⟨vx, hvx⟩ : ∃ n, va ^^^ m = n := ⟨_, rfl⟩
              rw [hvx] at x1 hst hgr2 hsp2
              obtain ⟨n, hn⟩ : ∃ n, x + 5 * y = n := ⟨_, rfl⟩
              rw [hn] at ca fa hst hgr2 hsp2
              rw [hn]
              have hn25 : n < 25 := by omega
              have HN := Lib.hid hn
              clear hn hva hvx hla hsg hsp
              have HST := Lib.hid hst; clear hst
              have HSP2 := Lib.hid hsp2; clear hsp2
              have q0 : (0 : Int) ≤ n := by omega
              have q1 : (n : Int) < 25 := by omega
              go_wp2_with fail
              go_region
              clear x1
              go_wp2_with fail
              go_roundw
              case rel => exact ⟨y + 1, by omega, by rw [← HN.out]; congr 1 <;> omega, HST.out, HSP2.out, gr_drew hgr2⟩
              case measure => simp [intOf]; omega
            · obtain rfl : y = 5 := by omega
              rw [thK_turn] at hsg
              go_wp2_with fail
              go_roundw
              case rel => exact ⟨x + 1, by omega, by go_num, hsg, hsp, hgr⟩
              case measure => simp [intOf]; omega
        · obtain rfl : x = 5 := by omega
          rw [show (((5 : Nat) : Int)) = 5 from rfl]
          rw [thK_full] at hsg
          go_wp2_with fail
          go_end0
          exact ⟨rfl, by rw [HPP.out]; exact hsg, hgr⟩
end Go.Proofs.YtcekmedfphmpcaaDoor
