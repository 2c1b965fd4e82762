/-
  The walk of RoomSets, from what it asks of the program (Room).
-/
import Derived.Test.YtclbbeolkhmnlaaRoom
namespace Go.Proofs.Ytclbbeolkhmnlaa
set_option linter.unusedVariables false
set_option linter.unusedSimpArgs false
open Go.RowKit
set_option maxRecDepth 100000 in
theorem oneQ (a : Int) (w : World) : Calls Try.prog 24 #[.int .i64 a] w fun e w' => e = .returned (.agg #[.int .i64 a, .int .i64 1]) ∧ Below w.heap.size w w' := by
  go_enter Try.func24, Try.ntmps24
  go_wp2_with fail
  refine bodyPost_ret (v := .agg #[.int .i64 a, .int .i64 1]) (results_cell_row Try.results24 _ _ w.heap.size 24 #[.int .i64 a, .int .i64 1] (0, 0) _ rfl (heap_alloc_new w _) Try.underlying24 rfl (by kernel_rfl)) rfl ⟨rfl, below_new _ _⟩
section
variable (Q : Room)
include Q

set_option maxRecDepth 100000 in
set_option maxHeartbeats 4000000 in
theorem setsL (A : Option Addr) (n cap : Nat) (s : Sp) (a : Int) (w : World) (h : 40 < n) :
    Calls Try.prog 4 #[.slice A n cap, spv s, .int .i64 a] w fun e w' => e = .returned (.bool true) ∧ Below w.heap.size w w' := by
  have HSm := Lib.hid (fun w => smallQ Q w)
  unfold spv
  go_enter Try.func4, Try.ntmps4
  go_wp2_with fail
  have b0 := below_new w (.cells #[.int .i64 s.p, .int .i64 s.n] 24)
  refine (HSm.out _).mono ?_; rintro e w1 ⟨rfl, b1⟩
  replace b1 := b0.trans (b1.mono b0.size)
  go_wp2_with fail
  all_goals
    go_ret
    exact ⟨rfl, b1⟩
set_option maxRecDepth 100000 in
set_option maxHeartbeats 4000000 in
theorem setsB (v : Value) (l : List Sp) (s : Sp) (a : Int) (w : World) (hr : SRow w w.heap.size v l) (hl : l.length ≤ 40) (hwf : s.wf) (h : ¬ (right l ∧ s.ok ∧ 0 ≤ a ∧ a < 1099511627776)) :
    Calls Try.prog 4 #[v, spv s, .int .i64 a] w fun e w' => e = .returned (.bool true) ∧ Below w.heap.size w w' := by
  have HSm := Lib.hid (fun w => smallQ Q w)
  obtain ⟨p, n⟩ := s
  have hwf' := hwf
  unfold Sp.wf at hwf'
  simp only at hwf'
  obtain ⟨y1, y2, y3, y4⟩ := hwf'
  have hshape : ∃ A cap, v = .slice A l.length cap := by obtain ⟨_, _, A, cap, hv, _⟩ := hr; exact ⟨A, cap, hv⟩
  have hb0 := below_new w (.cells #[.int .i64 p, .int .i64 n] 24)
  have c0 : (w.alloc (.cells #[.int .i64 p, .int .i64 n] 24)).cell? ⟨w.heap.size, 0, none⟩ = some (.int .i64 p) := by rw [cell_of_row _ _ _ _ _ _ (heap_alloc_new w _)]; rfl
  have c1 : (w.alloc (.cells #[.int .i64 p, .int .i64 n] 24)).cell? ⟨w.heap.size, 0 + 1, none⟩ = some (.int .i64 n) := by rw [cell_of_row _ _ _ _ _ _ (heap_alloc_new w _)]; rfl
  have hlt : w.heap.size < (w.alloc (.cells #[.int .i64 p, .int .i64 n] 24)).heap.size := by rw [size_new]; omega
  have r0 := hr.keep hb0
  have HRi := Lib.hid (fun w (h : SRow w w.heap.size v l) => Q.right v l w (by omega) h)
  obtain ⟨A, cap, rfl⟩ := hshape
  obtain ⟨W, hW⟩ : ∃ W, w.alloc (.cells #[.int .i64 p, .int .i64 n] 24) = W := ⟨_, rfl⟩
  rw [hW] at hb0 c0 c1 hlt r0
  obtain ⟨g, hg⟩ : ∃ g, w.heap.size = g := ⟨_, rfl⟩
  rw [hg] at hb0 c0 c1 hlt
  unfold spv
  clear hr
  have HG := Lib.hid hg
  by_cases hri : right l
  · rw [show decide (right l) = true from decide_eq_true hri] at HRi
    by_cases h1 : 0 ≤ p
    · by_cases h2 : p ≤ 1099511627776
      · by_cases h3 : 0 ≤ n
        · by_cases h4 : n ≤ 1099511627776 - p
          · by_cases h5 : 0 ≤ a
            · by_cases h6 : a < 1099511627776
              · exact absurd ⟨hri, ⟨h1, h2, h3, h4⟩, h5, h6⟩ h
              · clear h
                go_enter Try.func4, Try.ntmps4
                go_wp2_with fail
                refine (HSm.out _).mono ?_; rintro e w1 ⟨rfl, b1⟩
                replace r0 := r0.keep b1
                go_wp2_with fail
                refine (HRi.out _ r0).mono ?_; rintro e w2 ⟨rfl, b2⟩
                replace r0 := r0.keep b2
                replace b2 := chain b1 b2 (Nat.le_refl _)
                have d0 := (b2.cell (p := ⟨g, 0, none⟩) hlt).trans c0
                have d1 := (b2.cell (p := ⟨g, 0 + 1, none⟩) hlt).trans c1
                go_wp2_with fail
                all_goals
                  go_ret
                  exact ⟨rfl, by rw [HG.out]; exact hb0.trans (b2.mono (Nat.le_of_lt hlt))⟩
            · clear h
              go_enter Try.func4, Try.ntmps4
              go_wp2_with fail
              refine (HSm.out _).mono ?_; rintro e w1 ⟨rfl, b1⟩
              replace r0 := r0.keep b1
              go_wp2_with fail
              refine (HRi.out _ r0).mono ?_; rintro e w2 ⟨rfl, b2⟩
              replace r0 := r0.keep b2
              replace b2 := chain b1 b2 (Nat.le_refl _)
              have d0 := (b2.cell (p := ⟨g, 0, none⟩) hlt).trans c0
              have d1 := (b2.cell (p := ⟨g, 0 + 1, none⟩) hlt).trans c1
              go_wp2_with fail
              all_goals
                go_ret
                exact ⟨rfl, by rw [HG.out]; exact hb0.trans (b2.mono (Nat.le_of_lt hlt))⟩
          · clear h
            go_enter Try.func4, Try.ntmps4
            go_wp2_with fail
            refine (HSm.out _).mono ?_; rintro e w1 ⟨rfl, b1⟩
            replace r0 := r0.keep b1
            go_wp2_with fail
            refine (HRi.out _ r0).mono ?_; rintro e w2 ⟨rfl, b2⟩
            replace r0 := r0.keep b2
            replace b2 := chain b1 b2 (Nat.le_refl _)
            have d0 := (b2.cell (p := ⟨g, 0, none⟩) hlt).trans c0
            have d1 := (b2.cell (p := ⟨g, 0 + 1, none⟩) hlt).trans c1
            go_wp2_with fail
            all_goals
              go_ret
              exact ⟨rfl, by rw [HG.out]; exact hb0.trans (b2.mono (Nat.le_of_lt hlt))⟩
        · clear h
          go_enter Try.func4, Try.ntmps4
          go_wp2_with fail
          refine (HSm.out _).mono ?_; rintro e w1 ⟨rfl, b1⟩
          replace r0 := r0.keep b1
          go_wp2_with fail
          refine (HRi.out _ r0).mono ?_; rintro e w2 ⟨rfl, b2⟩
          replace r0 := r0.keep b2
          replace b2 := chain b1 b2 (Nat.le_refl _)
          have d0 := (b2.cell (p := ⟨g, 0, none⟩) hlt).trans c0
          have d1 := (b2.cell (p := ⟨g, 0 + 1, none⟩) hlt).trans c1
          go_wp2_with fail
          all_goals
            go_ret
            exact ⟨rfl, by rw [HG.out]; exact hb0.trans (b2.mono (Nat.le_of_lt hlt))⟩
      · clear h
        go_enter Try.func4, Try.ntmps4
        go_wp2_with fail
        refine (HSm.out _).mono ?_; rintro e w1 ⟨rfl, b1⟩
        replace r0 := r0.keep b1
        go_wp2_with fail
        refine (HRi.out _ r0).mono ?_; rintro e w2 ⟨rfl, b2⟩
        replace r0 := r0.keep b2
        replace b2 := chain b1 b2 (Nat.le_refl _)
        have d0 := (b2.cell (p := ⟨g, 0, none⟩) hlt).trans c0
        have d1 := (b2.cell (p := ⟨g, 0 + 1, none⟩) hlt).trans c1
        go_wp2_with fail
        all_goals
          go_ret
          exact ⟨rfl, by rw [HG.out]; exact hb0.trans (b2.mono (Nat.le_of_lt hlt))⟩
    · clear h
      go_enter Try.func4, Try.ntmps4
      go_wp2_with fail
      refine (HSm.out _).mono ?_; rintro e w1 ⟨rfl, b1⟩
      replace r0 := r0.keep b1
      go_wp2_with fail
      refine (HRi.out _ r0).mono ?_; rintro e w2 ⟨rfl, b2⟩
      replace r0 := r0.keep b2
      replace b2 := chain b1 b2 (Nat.le_refl _)
      have d0 := (b2.cell (p := ⟨g, 0, none⟩) hlt).trans c0
      have d1 := (b2.cell (p := ⟨g, 0 + 1, none⟩) hlt).trans c1
      go_wp2_with fail
      all_goals
        go_ret
        exact ⟨rfl, by rw [HG.out]; exact hb0.trans (b2.mono (Nat.le_of_lt hlt))⟩
  · rw [show decide (right l) = false from decide_eq_false hri] at HRi
    clear h
    go_enter Try.func4, Try.ntmps4
    go_wp2_with fail
    refine (HSm.out _).mono ?_; rintro e w1 ⟨rfl, b1⟩
    replace r0 := r0.keep b1
    go_wp2_with fail
    refine (HRi.out _ r0).mono ?_; rintro e w2 ⟨rfl, b2⟩
    replace r0 := r0.keep b2
    replace b2 := chain b1 b2 (Nat.le_refl _)
    have d0 := (b2.cell (p := ⟨g, 0, none⟩) hlt).trans c0
    have d1 := (b2.cell (p := ⟨g, 0 + 1, none⟩) hlt).trans c1
    go_wp2_with fail
    all_goals
      go_ret
      exact ⟨rfl, by rw [HG.out]; exact hb0.trans (b2.mono (Nat.le_of_lt hlt))⟩
set_option maxRecDepth 100000 in
set_option maxHeartbeats 4000000 in
theorem setsM (v : Value) (l : List Sp) (s : Sp) (a : Int) (w : World) (hr : SRow w w.heap.size v l) (hl : l.length ≤ 40) (hwf : s.wf) (hri : right l) (hok : s.ok) (h5 : 0 ≤ a) (h6 : a < 1099511627776) :
    Calls Try.prog 4 #[v, spv s, .int .i64 a] w fun e w' => e = .returned (.bool true) ∧ Below w.heap.size w w' := by
  have ax := addL_right s hri
  have cx := cutL_right s hri
  have hin := has_one hri h5 h6
  have hia := has_one ax h5 h6
  have hic := has_one cx h5 h6
  have hme := meets_one hri h5 h6
  have ma := addL_mem hri hok a
  have mc := cutL_mem hri hok a
  have la := addL_length l s
  have lc := cutL_length hri hok
  have ow := (one_ok h5 h6).wf
  have HA := Lib.hid (fun w (h : SRow w w.heap.size v l) => Q.add v l s w (by omega) hwf h)
  have HC := Lib.hid (fun w (h : SRow w w.heap.size v l) => Q.cut v l s w (by omega) hwf h)
  have HH := Lib.hid (fun w (h : SRow w w.heap.size v l) => Q.has v l ⟨a, 1⟩ w (by omega) ow h)
  have HM := Lib.hid (fun w (h : SRow w w.heap.size v l) => Q.meets v l ⟨a, 1⟩ w (by omega) ow h)
  have HRA := Lib.hid (fun u w (h : SRow w w.heap.size u (addL l s)) => Q.right u (addL l s) w (by omega) h)
  have HRC := Lib.hid (fun u w (h : SRow w w.heap.size u (cutL l s)) => Q.right u (cutL l s) w (by omega) h)
  have HHA := Lib.hid (fun u w (h : SRow w w.heap.size u (addL l s)) => Q.has u (addL l s) ⟨a, 1⟩ w (by omega) ow h)
  have HHC := Lib.hid (fun u w (h : SRow w w.heap.size u (cutL l s)) => Q.has u (cutL l s) ⟨a, 1⟩ w (by omega) ow h)
  have HO := Lib.hid (fun w => oneQ a w)
  rw [hin] at HH
  rw [hme] at HM
  rw [hia] at HHA
  rw [hic] at HHC
  rw [show decide (right (addL l s)) = true from decide_eq_true ax] at HRA
  rw [show decide (right (cutL l s)) = true from decide_eq_true cx] at HRC
  have hhs : s.has a ↔ s.p ≤ a ∧ a < s.p + s.n := Iff.rfl
  unfold spv at HA HC HH HM HHA HHC
  clear hin hia hic hme la lc ow
  have HSm := Lib.hid (fun w => smallQ Q w)
  obtain ⟨p, n⟩ := s
  have hwf' := hwf
  unfold Sp.wf at hwf'
  simp only at hwf'
  obtain ⟨y1, y2, y3, y4⟩ := hwf'
  have hshape : ∃ A cap, v = .slice A l.length cap := by obtain ⟨_, _, A, cap, hv, _⟩ := hr; exact ⟨A, cap, hv⟩
  have hb0 := below_new w (.cells #[.int .i64 p, .int .i64 n] 24)
  have c0 : (w.alloc (.cells #[.int .i64 p, .int .i64 n] 24)).cell? ⟨w.heap.size, 0, none⟩ = some (.int .i64 p) := by rw [cell_of_row _ _ _ _ _ _ (heap_alloc_new w _)]; rfl
  have c1 : (w.alloc (.cells #[.int .i64 p, .int .i64 n] 24)).cell? ⟨w.heap.size, 0 + 1, none⟩ = some (.int .i64 n) := by rw [cell_of_row _ _ _ _ _ _ (heap_alloc_new w _)]; rfl
  have hlt : w.heap.size < (w.alloc (.cells #[.int .i64 p, .int .i64 n] 24)).heap.size := by rw [size_new]; omega
  have r0 := hr.keep hb0
  have HRi := Lib.hid (fun w (h : SRow w w.heap.size v l) => Q.right v l w (by omega) h)
  obtain ⟨A, cap, rfl⟩ := hshape
  obtain ⟨W, hW⟩ : ∃ W, w.alloc (.cells #[.int .i64 p, .int .i64 n] 24) = W := ⟨_, rfl⟩
  rw [hW] at hb0 c0 c1 hlt r0
  obtain ⟨g, hg⟩ : ∃ g, w.heap.size = g := ⟨_, rfl⟩
  rw [hg] at hb0 c0 c1 hlt
  unfold spv
  clear hr
  have HG := Lib.hid hg
  rw [show decide (right l) = true from decide_eq_true hri] at HRi
  have hok' := hok
  unfold Sp.ok at hok'
  simp only at hok'
  obtain ⟨h1, h2, h3, h4⟩ := hok'
  clear hri hok hwf
  go_enter Try.func4, Try.ntmps4
  go_wp2_with fail
  refine (HSm.out _).mono ?_; rintro e w1 ⟨rfl, b1⟩
  replace r0 := r0.keep b1
  go_wp2_with fail
  refine (HRi.out _ r0).mono ?_; rintro e w2 ⟨rfl, b2⟩
  replace r0 := r0.keep b2
  replace b2 := chain b1 b2 (Nat.le_refl _)
  have d0 := (b2.cell (p := ⟨g, 0, none⟩) hlt).trans c0
  have d1 := (b2.cell (p := ⟨g, 0 + 1, none⟩) hlt).trans c1
  have da : decide (inn (addL l ⟨p, n⟩) a) = (decide (inn l a) || decide (Sp.has ⟨p, n⟩ a)) := by rw [Bool.eq_iff_iff, Bool.or_eq_true, decide_eq_true_iff, decide_eq_true_iff, decide_eq_true_iff]; exact ma
  have dc : decide (inn (cutL l ⟨p, n⟩) a) = (decide (inn l a) && !decide (Sp.has ⟨p, n⟩ a)) := by rw [Bool.eq_iff_iff, Bool.and_eq_true, Bool.not_eq_true', decide_eq_true_iff, decide_eq_true_iff, decide_eq_false_iff_not]; exact mc
  rw [da] at HHA
  rw [dc] at HHC
  clear da dc ma mc
  have g1 : IntKind.i64.wrap (p + n) = p + n := IntWalk.i64_in _ (by omega)
  go_wp2_with fail
  refine (HA.out _ r0).mono ?_; rintro e w4 ⟨ua, rfl, ra, b4⟩
  replace r0 := r0.keep b4
  replace b4 := chain b2 b4 (Nat.le_refl _)
  have d2 := (b4.cell (p := ⟨g, 0, none⟩) hlt).trans c0
  have d3 := (b4.cell (p := ⟨g, 0 + 1, none⟩) hlt).trans c1
  go_wp2_with fail
  refine (HC.out _ r0).mono ?_; rintro e w6 ⟨uc, rfl, rc, b6⟩
  replace r0 := r0.keep b6
  replace ra := ra.keep b6
  replace b6 := chain b4 b6 (Nat.le_refl _)
  go_wp2_with fail
  refine (HO.out _).mono ?_; rintro e o1 ⟨rfl, k1⟩
  replace r0 := r0.keep k1
  replace ra := ra.keep k1
  replace rc := rc.keep k1
  replace k1 := chain b6 k1 (Nat.le_refl _)
  go_wp2_with fail
  refine (HH.out _ r0).mono ?_; rintro e w7 ⟨rfl, b7⟩
  replace r0 := r0.keep b7
  replace ra := ra.keep b7
  replace rc := rc.keep b7
  replace b7 := chain k1 b7 (Nat.le_refl _)
  have d4 := (b7.cell (p := ⟨g, 0, none⟩) hlt).trans c0
  have d5 := (b7.cell (p := ⟨g, 0 + 1, none⟩) hlt).trans c1

  by_cases hi : inn l a
  · rw [show decide (inn l a) = true from decide_eq_true hi] at HM HHA HHC ⊢
    clear hi HH
    by_cases z1 : p ≤ a
    · by_cases z2 : a < p + n
      · rw [show decide (Sp.has ⟨p, n⟩ a) = true from decide_eq_true (hhs.2 ⟨z1, z2⟩)] at HHA HHC
        clear hhs
        go_wp2_with fail
        refine (HRA.out _ _ ra).mono ?_; rintro e w8 ⟨rfl, b8⟩
        replace r0 := r0.keep b8
        replace ra := ra.keep b8
        replace rc := rc.keep b8
        replace b8 := chain b7 b8 (Nat.le_refl _)
        go_wp2_with fail
        refine (HRC.out _ _ rc).mono ?_; rintro e w9 ⟨rfl, b9⟩
        replace r0 := r0.keep b9
        replace ra := ra.keep b9
        replace rc := rc.keep b9
        replace b9 := chain b8 b9 (Nat.le_refl _)
        go_wp2_with fail
        refine (HO.out _).mono ?_; rintro e o2 ⟨rfl, k2⟩
        replace r0 := r0.keep k2
        replace ra := ra.keep k2
        replace rc := rc.keep k2
        replace k2 := chain b9 k2 (Nat.le_refl _)
        go_wp2_with fail
        refine (HHA.out _ _ ra).mono ?_; rintro e w10 ⟨rfl, b10⟩
        replace r0 := r0.keep b10
        replace rc := rc.keep b10
        replace b10 := chain k2 b10 (Nat.le_refl _)
        go_wp2_with fail
        refine (HO.out _).mono ?_; rintro e o3 ⟨rfl, k3⟩
        replace r0 := r0.keep k3
        replace rc := rc.keep k3
        replace k3 := chain b10 k3 (Nat.le_refl _)
        go_wp2_with fail
        refine (HHC.out _ _ rc).mono ?_; rintro e w11 ⟨rfl, b11⟩
        replace r0 := r0.keep b11
        replace b11 := chain k3 b11 (Nat.le_refl _)
        go_wp2_with fail
        refine (HO.out _).mono ?_; rintro e o4 ⟨rfl, k4⟩
        replace r0 := r0.keep k4
        replace k4 := chain b11 k4 (Nat.le_refl _)
        go_wp2_with fail
        refine (HM.out _ r0).mono ?_; rintro e w12 ⟨rfl, b12⟩
        replace b12 := chain k4 b12 (Nat.le_refl _)
        go_wp2_with fail
        go_ret
        exact ⟨rfl, by rw [HG.out]; exact hb0.trans (b12.mono (Nat.le_of_lt hlt))⟩
      · rw [show decide (Sp.has ⟨p, n⟩ a) = false from decide_eq_false (fun h => z2 (hhs.1 h).2)] at HHA HHC
        clear hhs
        have z3 : decide (a < p + n) = false := by simp; omega
        have z4 : p + n ≤ a := by omega
        go_wp2_with fail
        refine (HRA.out _ _ ra).mono ?_; rintro e w8 ⟨rfl, b8⟩
        replace r0 := r0.keep b8
        replace ra := ra.keep b8
        replace rc := rc.keep b8
        replace b8 := chain b7 b8 (Nat.le_refl _)
        go_wp2_with fail
        refine (HRC.out _ _ rc).mono ?_; rintro e w9 ⟨rfl, b9⟩
        replace r0 := r0.keep b9
        replace ra := ra.keep b9
        replace rc := rc.keep b9
        replace b9 := chain b8 b9 (Nat.le_refl _)
        go_wp2_with fail
        refine (HO.out _).mono ?_; rintro e o2 ⟨rfl, k2⟩
        replace r0 := r0.keep k2
        replace ra := ra.keep k2
        replace rc := rc.keep k2
        replace k2 := chain b9 k2 (Nat.le_refl _)
        go_wp2_with fail
        refine (HHA.out _ _ ra).mono ?_; rintro e w10 ⟨rfl, b10⟩
        replace r0 := r0.keep b10
        replace rc := rc.keep b10
        replace b10 := chain k2 b10 (Nat.le_refl _)
        go_wp2_with fail
        refine (HO.out _).mono ?_; rintro e o3 ⟨rfl, k3⟩
        replace r0 := r0.keep k3
        replace rc := rc.keep k3
        replace k3 := chain b10 k3 (Nat.le_refl _)
        go_wp2_with fail
        refine (HHC.out _ _ rc).mono ?_; rintro e w11 ⟨rfl, b11⟩
        replace r0 := r0.keep b11
        replace b11 := chain k3 b11 (Nat.le_refl _)
        go_wp2_with fail
        refine (HO.out _).mono ?_; rintro e o4 ⟨rfl, k4⟩
        replace r0 := r0.keep k4
        replace k4 := chain b11 k4 (Nat.le_refl _)
        go_wp2_with fail
        refine (HM.out _ r0).mono ?_; rintro e w12 ⟨rfl, b12⟩
        replace b12 := chain k4 b12 (Nat.le_refl _)
        go_wp2_with fail
        go_ret
        exact ⟨rfl, by rw [HG.out]; exact hb0.trans (b12.mono (Nat.le_of_lt hlt))⟩
    · rw [show decide (Sp.has ⟨p, n⟩ a) = false from decide_eq_false (fun h => z1 (hhs.1 h).1)] at HHA HHC
      clear hhs
      have z3 : decide (p ≤ a) = false := by simp; omega
      have z4 : a < p := by omega
      go_wp2_with fail
      refine (HRA.out _ _ ra).mono ?_; rintro e w8 ⟨rfl, b8⟩
      replace r0 := r0.keep b8
      replace ra := ra.keep b8
      replace rc := rc.keep b8
      replace b8 := chain b7 b8 (Nat.le_refl _)
      go_wp2_with fail
      refine (HRC.out _ _ rc).mono ?_; rintro e w9 ⟨rfl, b9⟩
      replace r0 := r0.keep b9
      replace ra := ra.keep b9
      replace rc := rc.keep b9
      replace b9 := chain b8 b9 (Nat.le_refl _)
      go_wp2_with fail
      refine (HO.out _).mono ?_; rintro e o2 ⟨rfl, k2⟩
      replace r0 := r0.keep k2
      replace ra := ra.keep k2
      replace rc := rc.keep k2
      replace k2 := chain b9 k2 (Nat.le_refl _)
      go_wp2_with fail
      refine (HHA.out _ _ ra).mono ?_; rintro e w10 ⟨rfl, b10⟩
      replace r0 := r0.keep b10
      replace rc := rc.keep b10
      replace b10 := chain k2 b10 (Nat.le_refl _)
      go_wp2_with fail
      refine (HO.out _).mono ?_; rintro e o3 ⟨rfl, k3⟩
      replace r0 := r0.keep k3
      replace rc := rc.keep k3
      replace k3 := chain b10 k3 (Nat.le_refl _)
      go_wp2_with fail
      refine (HHC.out _ _ rc).mono ?_; rintro e w11 ⟨rfl, b11⟩
      replace r0 := r0.keep b11
      replace b11 := chain k3 b11 (Nat.le_refl _)
      go_wp2_with fail
      refine (HO.out _).mono ?_; rintro e o4 ⟨rfl, k4⟩
      replace r0 := r0.keep k4
      replace k4 := chain b11 k4 (Nat.le_refl _)
      go_wp2_with fail
      refine (HM.out _ r0).mono ?_; rintro e w12 ⟨rfl, b12⟩
      replace b12 := chain k4 b12 (Nat.le_refl _)
      go_wp2_with fail
      go_ret
      exact ⟨rfl, by rw [HG.out]; exact hb0.trans (b12.mono (Nat.le_of_lt hlt))⟩
  · rw [show decide (inn l a) = false from decide_eq_false hi] at HM HHA HHC ⊢
    clear hi HH
    by_cases z1 : p ≤ a
    · by_cases z2 : a < p + n
      · rw [show decide (Sp.has ⟨p, n⟩ a) = true from decide_eq_true (hhs.2 ⟨z1, z2⟩)] at HHA HHC
        clear hhs
        go_wp2_with fail
        refine (HRA.out _ _ ra).mono ?_; rintro e w8 ⟨rfl, b8⟩
        replace r0 := r0.keep b8
        replace ra := ra.keep b8
        replace rc := rc.keep b8
        replace b8 := chain b7 b8 (Nat.le_refl _)
        go_wp2_with fail
        refine (HRC.out _ _ rc).mono ?_; rintro e w9 ⟨rfl, b9⟩
        replace r0 := r0.keep b9
        replace ra := ra.keep b9
        replace rc := rc.keep b9
        replace b9 := chain b8 b9 (Nat.le_refl _)
        go_wp2_with fail
        refine (HO.out _).mono ?_; rintro e o2 ⟨rfl, k2⟩
        replace r0 := r0.keep k2
        replace ra := ra.keep k2
        replace rc := rc.keep k2
        replace k2 := chain b9 k2 (Nat.le_refl _)
        go_wp2_with fail
        refine (HHA.out _ _ ra).mono ?_; rintro e w10 ⟨rfl, b10⟩
        replace r0 := r0.keep b10
        replace rc := rc.keep b10
        replace b10 := chain k2 b10 (Nat.le_refl _)
        go_wp2_with fail
        refine (HO.out _).mono ?_; rintro e o3 ⟨rfl, k3⟩
        replace r0 := r0.keep k3
        replace rc := rc.keep k3
        replace k3 := chain b10 k3 (Nat.le_refl _)
        go_wp2_with fail
        refine (HHC.out _ _ rc).mono ?_; rintro e w11 ⟨rfl, b11⟩
        replace r0 := r0.keep b11
        replace b11 := chain k3 b11 (Nat.le_refl _)
        go_wp2_with fail
        refine (HO.out _).mono ?_; rintro e o4 ⟨rfl, k4⟩
        replace r0 := r0.keep k4
        replace k4 := chain b11 k4 (Nat.le_refl _)
        go_wp2_with fail
        refine (HM.out _ r0).mono ?_; rintro e w12 ⟨rfl, b12⟩
        replace b12 := chain k4 b12 (Nat.le_refl _)
        go_wp2_with fail
        go_ret
        exact ⟨rfl, by rw [HG.out]; exact hb0.trans (b12.mono (Nat.le_of_lt hlt))⟩
      · rw [show decide (Sp.has ⟨p, n⟩ a) = false from decide_eq_false (fun h => z2 (hhs.1 h).2)] at HHA HHC
        clear hhs
        have z3 : decide (a < p + n) = false := by simp; omega
        have z4 : p + n ≤ a := by omega
        go_wp2_with fail
        refine (HRA.out _ _ ra).mono ?_; rintro e w8 ⟨rfl, b8⟩
        replace r0 := r0.keep b8
        replace ra := ra.keep b8
        replace rc := rc.keep b8
        replace b8 := chain b7 b8 (Nat.le_refl _)
        go_wp2_with fail
        refine (HRC.out _ _ rc).mono ?_; rintro e w9 ⟨rfl, b9⟩
        replace r0 := r0.keep b9
        replace ra := ra.keep b9
        replace rc := rc.keep b9
        replace b9 := chain b8 b9 (Nat.le_refl _)
        go_wp2_with fail
        refine (HO.out _).mono ?_; rintro e o2 ⟨rfl, k2⟩
        replace r0 := r0.keep k2
        replace ra := ra.keep k2
        replace rc := rc.keep k2
        replace k2 := chain b9 k2 (Nat.le_refl _)
        go_wp2_with fail
        refine (HHA.out _ _ ra).mono ?_; rintro e w10 ⟨rfl, b10⟩
        replace r0 := r0.keep b10
        replace rc := rc.keep b10
        replace b10 := chain k2 b10 (Nat.le_refl _)
        go_wp2_with fail
        refine (HO.out _).mono ?_; rintro e o3 ⟨rfl, k3⟩
        replace r0 := r0.keep k3
        replace rc := rc.keep k3
        replace k3 := chain b10 k3 (Nat.le_refl _)
        go_wp2_with fail
        refine (HHC.out _ _ rc).mono ?_; rintro e w11 ⟨rfl, b11⟩
        replace r0 := r0.keep b11
        replace b11 := chain k3 b11 (Nat.le_refl _)
        go_wp2_with fail
        refine (HO.out _).mono ?_; rintro e o4 ⟨rfl, k4⟩
        replace r0 := r0.keep k4
        replace k4 := chain b11 k4 (Nat.le_refl _)
        go_wp2_with fail
        refine (HM.out _ r0).mono ?_; rintro e w12 ⟨rfl, b12⟩
        replace b12 := chain k4 b12 (Nat.le_refl _)
        go_wp2_with fail
        go_ret
        exact ⟨rfl, by rw [HG.out]; exact hb0.trans (b12.mono (Nat.le_of_lt hlt))⟩
    · rw [show decide (Sp.has ⟨p, n⟩ a) = false from decide_eq_false (fun h => z1 (hhs.1 h).1)] at HHA HHC
      clear hhs
      have z3 : decide (p ≤ a) = false := by simp; omega
      have z4 : a < p := by omega
      go_wp2_with fail
      refine (HRA.out _ _ ra).mono ?_; rintro e w8 ⟨rfl, b8⟩
      replace r0 := r0.keep b8
      replace ra := ra.keep b8
      replace rc := rc.keep b8
      replace b8 := chain b7 b8 (Nat.le_refl _)
      go_wp2_with fail
      refine (HRC.out _ _ rc).mono ?_; rintro e w9 ⟨rfl, b9⟩
      replace r0 := r0.keep b9
      replace ra := ra.keep b9
      replace rc := rc.keep b9
      replace b9 := chain b8 b9 (Nat.le_refl _)
      go_wp2_with fail
      refine (HO.out _).mono ?_; rintro e o2 ⟨rfl, k2⟩
      replace r0 := r0.keep k2
      replace ra := ra.keep k2
      replace rc := rc.keep k2
      replace k2 := chain b9 k2 (Nat.le_refl _)
      go_wp2_with fail
      refine (HHA.out _ _ ra).mono ?_; rintro e w10 ⟨rfl, b10⟩
      replace r0 := r0.keep b10
      replace rc := rc.keep b10
      replace b10 := chain k2 b10 (Nat.le_refl _)
      go_wp2_with fail
      refine (HO.out _).mono ?_; rintro e o3 ⟨rfl, k3⟩
      replace r0 := r0.keep k3
      replace rc := rc.keep k3
      replace k3 := chain b10 k3 (Nat.le_refl _)
      go_wp2_with fail
      refine (HHC.out _ _ rc).mono ?_; rintro e w11 ⟨rfl, b11⟩
      replace r0 := r0.keep b11
      replace b11 := chain k3 b11 (Nat.le_refl _)
      go_wp2_with fail
      refine (HO.out _).mono ?_; rintro e o4 ⟨rfl, k4⟩
      replace r0 := r0.keep k4
      replace k4 := chain b11 k4 (Nat.le_refl _)
      go_wp2_with fail
      refine (HM.out _ r0).mono ?_; rintro e w12 ⟨rfl, b12⟩
      replace b12 := chain k4 b12 (Nat.le_refl _)
      go_wp2_with fail
      go_ret
      exact ⟨rfl, by rw [HG.out]; exact hb0.trans (b12.mono (Nat.le_of_lt hlt))⟩
end
end Go.Proofs.Ytclbbeolkhmnlaa
