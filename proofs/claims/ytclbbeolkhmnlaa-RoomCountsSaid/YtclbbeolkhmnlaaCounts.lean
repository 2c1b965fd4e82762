/-
  The walk of RoomCounts, from what it asks of the program (Room).
-/
import Derived.Test.YtclbbeolkhmnlaaRoom
namespace Go.Proofs.Ytclbbeolkhmnlaa
set_option linter.unusedVariables false
set_option linter.unusedSimpArgs false
open Go.RowKit
section
variable (Q : Room)
include Q

set_option maxRecDepth 100000 in
set_option maxHeartbeats 4000000 in
theorem countsL (A : Option Addr) (n cap : Nat) (s : Sp) (w : World) (h : 40 < n) :
    Calls Try.prog 5 #[.slice A n cap, spv s] w fun e w' => e = .returned (.bool true) ∧ Below w.heap.size w w' := by
  have HSm := Lib.hid (fun w => smallQ Q w)
  unfold spv
  go_enter Try.func5, Try.ntmps5
  go_wp2_with fail
  have b0 := below_new w (.cells #[.int .i64 s.p, .int .i64 s.n] 24)
  refine (HSm.out _).mono ?_; rintro e w1 ⟨rfl, b1⟩
  replace b1 := b0.trans (b1.mono b0.size)
  go_wp2_with fail
  all_goals
    go_ret
    exact ⟨rfl, b1⟩
set_option maxRecDepth 100000 in
set_option maxHeartbeats 4000000 in
theorem countsB (v : Value) (l : List Sp) (s : Sp) (w : World) (hr : SRow w w.heap.size v l) (hl : l.length ≤ 40) (hwf : s.wf) (h : ¬ (right l ∧ s.ok)) :
    Calls Try.prog 5 #[v, spv s] w fun e w' => e = .returned (.bool true) ∧ Below w.heap.size w w' := by
  have HSm := Lib.hid (fun w => smallQ Q w)
  obtain ⟨p, n⟩ := s
  have hwf' := hwf
  unfold Sp.wf at hwf'
  simp only at hwf'
  obtain ⟨y1, y2, y3, y4⟩ := hwf'
  have hshape : ∃ A cap, v = .slice A l.length cap := by obtain ⟨_, _, A, cap, hv, _⟩ := hr; exact ⟨A, cap, hv⟩
  have hb0 := below_new w (.cells #[.int .i64 p, .int .i64 n] 24)
  have c0 : (w.alloc (.cells #[.int .i64 p, .int .i64 n] 24)).cell? ⟨w.heap.size, 0, none⟩ = some (.int .i64 p) := by rw [cell_of_row _ _ _ _ _ _ (heap_alloc_new w _)]; rfl
  have c1 : (w.alloc (.cells #[.int .i64 p, .int .i64 n] 24)).cell? ⟨w.heap.size, 0 + 1, none⟩ = some (.int .i64 n) := by rw [cell_of_row _ _ _ _ _ _ (heap_alloc_new w _)]; rfl
  have hlt : w.heap.size < (w.alloc (.cells #[.int .i64 p, .int .i64 n] 24)).heap.size := by rw [size_new]; omega
  have r0 := hr.keep hb0
  have HRi := Lib.hid (fun w (h : SRow w w.heap.size v l) => Q.right v l w (by omega) h)
  obtain ⟨A, cap, rfl⟩ := hshape
  obtain ⟨W, hW⟩ : ∃ W, w.alloc (.cells #[.int .i64 p, .int .i64 n] 24) = W := ⟨_, rfl⟩
  rw [hW] at hb0 c0 c1 hlt r0
  obtain ⟨g, hg⟩ : ∃ g, w.heap.size = g := ⟨_, rfl⟩
  rw [hg] at hb0 c0 c1 hlt
  unfold spv
  clear hr
  have HG := Lib.hid hg
  by_cases hri : right l
  · rw [show decide (right l) = true from decide_eq_true hri] at HRi
    by_cases h1 : 0 ≤ p
    · by_cases h2 : p ≤ 1099511627776
      · by_cases h3 : 0 ≤ n
        · by_cases h4 : n ≤ 1099511627776 - p
          · exact absurd ⟨hri, ⟨h1, h2, h3, h4⟩⟩ h
          · clear h
            go_enter Try.func5, Try.ntmps5
            go_wp2_with fail
            refine (HSm.out _).mono ?_; rintro e w1 ⟨rfl, b1⟩
            replace r0 := r0.keep b1
            go_wp2_with fail
            refine (HRi.out _ r0).mono ?_; rintro e w2 ⟨rfl, b2⟩
            replace r0 := r0.keep b2
            replace b2 := chain b1 b2 (Nat.le_refl _)
            have d0 := (b2.cell (p := ⟨g, 0, none⟩) hlt).trans c0
            have d1 := (b2.cell (p := ⟨g, 0 + 1, none⟩) hlt).trans c1
            go_wp2_with fail
            all_goals
              go_ret
              exact ⟨rfl, by rw [HG.out]; exact hb0.trans (b2.mono (Nat.le_of_lt hlt))⟩
        · clear h
          go_enter Try.func5, Try.ntmps5
          go_wp2_with fail
          refine (HSm.out _).mono ?_; rintro e w1 ⟨rfl, b1⟩
          replace r0 := r0.keep b1
          go_wp2_with fail
          refine (HRi.out _ r0).mono ?_; rintro e w2 ⟨rfl, b2⟩
          replace r0 := r0.keep b2
          replace b2 := chain b1 b2 (Nat.le_refl _)
          have d0 := (b2.cell (p := ⟨g, 0, none⟩) hlt).trans c0
          have d1 := (b2.cell (p := ⟨g, 0 + 1, none⟩) hlt).trans c1
          go_wp2_with fail
          all_goals
            go_ret
            exact ⟨rfl, by rw [HG.out]; exact hb0.trans (b2.mono (Nat.le_of_lt hlt))⟩
      · clear h
        go_enter Try.func5, Try.ntmps5
        go_wp2_with fail
        refine (HSm.out _).mono ?_; rintro e w1 ⟨rfl, b1⟩
        replace r0 := r0.keep b1
        go_wp2_with fail
        refine (HRi.out _ r0).mono ?_; rintro e w2 ⟨rfl, b2⟩
        replace r0 := r0.keep b2
        replace b2 := chain b1 b2 (Nat.le_refl _)
        have d0 := (b2.cell (p := ⟨g, 0, none⟩) hlt).trans c0
        have d1 := (b2.cell (p := ⟨g, 0 + 1, none⟩) hlt).trans c1
        go_wp2_with fail
        all_goals
          go_ret
          exact ⟨rfl, by rw [HG.out]; exact hb0.trans (b2.mono (Nat.le_of_lt hlt))⟩
    · clear h
      go_enter Try.func5, Try.ntmps5
      go_wp2_with fail
      refine (HSm.out _).mono ?_; rintro e w1 ⟨rfl, b1⟩
      replace r0 := r0.keep b1
      go_wp2_with fail
      refine (HRi.out _ r0).mono ?_; rintro e w2 ⟨rfl, b2⟩
      replace r0 := r0.keep b2
      replace b2 := chain b1 b2 (Nat.le_refl _)
      have d0 := (b2.cell (p := ⟨g, 0, none⟩) hlt).trans c0
      have d1 := (b2.cell (p := ⟨g, 0 + 1, none⟩) hlt).trans c1
      go_wp2_with fail
      all_goals
        go_ret
        exact ⟨rfl, by rw [HG.out]; exact hb0.trans (b2.mono (Nat.le_of_lt hlt))⟩
  · rw [show decide (right l) = false from decide_eq_false hri] at HRi
    clear h
    go_enter Try.func5, Try.ntmps5
    go_wp2_with fail
    refine (HSm.out _).mono ?_; rintro e w1 ⟨rfl, b1⟩
    replace r0 := r0.keep b1
    go_wp2_with fail
    refine (HRi.out _ r0).mono ?_; rintro e w2 ⟨rfl, b2⟩
    replace r0 := r0.keep b2
    replace b2 := chain b1 b2 (Nat.le_refl _)
    have d0 := (b2.cell (p := ⟨g, 0, none⟩) hlt).trans c0
    have d1 := (b2.cell (p := ⟨g, 0 + 1, none⟩) hlt).trans c1
    go_wp2_with fail
    all_goals
      go_ret
      exact ⟨rfl, by rw [HG.out]; exact hb0.trans (b2.mono (Nat.le_of_lt hlt))⟩
set_option maxRecDepth 100000 in
set_option maxHeartbeats 4000000 in
theorem countsM (v : Value) (l : List Sp) (s : Sp) (w : World) (hr : SRow w w.heap.size v l) (hl : l.length ≤ 40) (hwf : s.wf) (hri : right l) (hok : s.ok) :
    Calls Try.prog 5 #[v, spv s] w fun e w' => e = .returned (.bool true) ∧ Below w.heap.size w w' := by
  have hac := add_cut hri hok
  have hadd := tot_bound (addL_right s hri)
  have hcut := tot_bound (cutL_right s hri)
  have htl := tot_bound hri
  have t0 : totalL l = tot l := by unfold totalL; rw [if_pos hri]
  have t1 : totalL (addL l s) = tot (addL l s) := by unfold totalL; rw [if_pos (addL_right s hri)]
  have t2 : totalL (cutL l s) = tot (cutL l s) := by unfold totalL; rw [if_pos (cutL_right s hri)]
  have hh : hasL l s = decide (tot (addL l s) = tot l) := by unfold hasL; rw [decide_eq_decide]; exact ⟨fun h => h.2.2, fun h => ⟨hri, hok, h⟩⟩
  have hm : meetsL l s = decide (tot (cutL l s) < tot l) := by unfold meetsL; rw [decide_eq_decide]; exact ⟨fun h => h.2.2, fun h => ⟨hri, hok, h⟩⟩
  have la := addL_length l s
  have lc := cutL_length hri hok
  have HA := Lib.hid (fun w (h : SRow w w.heap.size v l) => Q.add v l s w (by omega) hwf h)
  have HC := Lib.hid (fun w (h : SRow w w.heap.size v l) => Q.cut v l s w (by omega) hwf h)
  have HT := Lib.hid (fun w (h : SRow w w.heap.size v l) => Q.total v l w (by omega) h)
  have HTA := Lib.hid (fun u w (h : SRow w w.heap.size u (addL l s)) => Q.total u (addL l s) w (by omega) h)
  have HTC := Lib.hid (fun u w (h : SRow w w.heap.size u (cutL l s)) => Q.total u (cutL l s) w (by omega) h)
  have HH := Lib.hid (fun w (h : SRow w w.heap.size v l) => Q.has v l s w (by omega) hwf h)
  have HM := Lib.hid (fun w (h : SRow w w.heap.size v l) => Q.meets v l s w (by omega) hwf h)
  rw [t0] at HT
  rw [t1] at HTA
  rw [t2] at HTC
  rw [hh] at HH
  rw [hm] at HM
  obtain ⟨x, hx⟩ : ∃ x, tot (addL l s) = x := ⟨_, rfl⟩
  obtain ⟨y, hy⟩ : ∃ y, tot (cutL l s) = y := ⟨_, rfl⟩
  obtain ⟨z, hz⟩ : ∃ z, tot l = z := ⟨_, rfl⟩
  rw [hx] at HTA hac hadd
  rw [hy] at HTC hac hcut
  rw [hz] at HT htl
  rw [hx, hz] at HH
  rw [hy, hz] at HM
  clear hx hy hz t0 t1 t2 hh hm la lc
  unfold spv at HA HC HH HM
  have HSm := Lib.hid (fun w => smallQ Q w)
  obtain ⟨p, n⟩ := s
  have hwf' := hwf
  unfold Sp.wf at hwf'
  simp only at hwf'
  obtain ⟨y1, y2, y3, y4⟩ := hwf'
  have hshape : ∃ A cap, v = .slice A l.length cap := by obtain ⟨_, _, A, cap, hv, _⟩ := hr; exact ⟨A, cap, hv⟩
  have hb0 := below_new w (.cells #[.int .i64 p, .int .i64 n] 24)
  have c0 : (w.alloc (.cells #[.int .i64 p, .int .i64 n] 24)).cell? ⟨w.heap.size, 0, none⟩ = some (.int .i64 p) := by rw [cell_of_row _ _ _ _ _ _ (heap_alloc_new w _)]; rfl
  have c1 : (w.alloc (.cells #[.int .i64 p, .int .i64 n] 24)).cell? ⟨w.heap.size, 0 + 1, none⟩ = some (.int .i64 n) := by rw [cell_of_row _ _ _ _ _ _ (heap_alloc_new w _)]; rfl
  have hlt : w.heap.size < (w.alloc (.cells #[.int .i64 p, .int .i64 n] 24)).heap.size := by rw [size_new]; omega
  have r0 := hr.keep hb0
  have HRi := Lib.hid (fun w (h : SRow w w.heap.size v l) => Q.right v l w (by omega) h)
  obtain ⟨A, cap, rfl⟩ := hshape
  obtain ⟨W, hW⟩ : ∃ W, w.alloc (.cells #[.int .i64 p, .int .i64 n] 24) = W := ⟨_, rfl⟩
  rw [hW] at hb0 c0 c1 hlt r0
  obtain ⟨g, hg⟩ : ∃ g, w.heap.size = g := ⟨_, rfl⟩
  rw [hg] at hb0 c0 c1 hlt
  unfold spv
  clear hr
  have HG := Lib.hid hg
  rw [show decide (right l) = true from decide_eq_true hri] at HRi
  have hok' := hok
  unfold Sp.ok at hok'
  simp only at hok'
  obtain ⟨h1, h2, h3, h4⟩ := hok'
  clear hri hok hwf
  go_enter Try.func5, Try.ntmps5
  go_wp2_with fail
  refine (HSm.out _).mono ?_; rintro e w1 ⟨rfl, b1⟩
  replace r0 := r0.keep b1
  go_wp2_with fail
  refine (HRi.out _ r0).mono ?_; rintro e w2 ⟨rfl, b2⟩
  replace r0 := r0.keep b2
  replace b2 := chain b1 b2 (Nat.le_refl _)
  have d0 := (b2.cell (p := ⟨g, 0, none⟩) hlt).trans c0
  have d1 := (b2.cell (p := ⟨g, 0 + 1, none⟩) hlt).trans c1
  go_wp2_with fail
  refine (HT.out _ r0).mono ?_; rintro e w3 ⟨rfl, b3⟩
  replace r0 := r0.keep b3
  replace b3 := chain b2 b3 (Nat.le_refl _)
  have d2 := (b3.cell (p := ⟨g, 0, none⟩) hlt).trans c0
  have d3 := (b3.cell (p := ⟨g, 0 + 1, none⟩) hlt).trans c1
  go_wp2_with fail
  refine (HA.out _ r0).mono ?_; rintro e w4 ⟨ua, rfl, ra, b4⟩
  replace r0 := r0.keep b4
  replace b4 := chain b3 b4 (Nat.le_refl _)
  go_wp2_with fail
  refine (HTA.out _ _ ra).mono ?_; rintro e w5 ⟨rfl, b5⟩
  replace r0 := r0.keep b5
  replace b5 := chain b4 b5 (Nat.le_refl _)
  have d4 := (b5.cell (p := ⟨g, 0, none⟩) hlt).trans c0
  have d5 := (b5.cell (p := ⟨g, 0 + 1, none⟩) hlt).trans c1
  go_wp2_with fail
  refine (HC.out _ r0).mono ?_; rintro e w6 ⟨uc, rfl, rc, b6⟩
  replace r0 := r0.keep b6
  replace b6 := chain b5 b6 (Nat.le_refl _)
  go_wp2_with fail
  refine (HTC.out _ _ rc).mono ?_; rintro e w7 ⟨rfl, b7⟩
  replace r0 := r0.keep b7
  replace b7 := chain b6 b7 (Nat.le_refl _)
  have d6 := (b7.cell (p := ⟨g, 0, none⟩) hlt).trans c0
  have d7 := (b7.cell (p := ⟨g, 0 + 1, none⟩) hlt).trans c1
  have q1 : x - z + z - y = n := by omega
  have q2 : ((x - z + z - y) == n) = true := by rw [q1]; simp
  have q3 : x - z + z = x := by omega
  have q4 : x - y = n := by omega
  go_wp2_with fail
  refine (HH.out _ r0).mono ?_; rintro e w8 ⟨rfl, b8⟩
  replace r0 := r0.keep b8
  replace b8 := chain b7 b8 (Nat.le_refl _)
  have d8 := (b8.cell (p := ⟨g, 0, none⟩) hlt).trans c0
  have d9 := (b8.cell (p := ⟨g, 0 + 1, none⟩) hlt).trans c1
  have q5 : (x == z) = decide (x = z) := by by_cases h : x = z <;> simp [h]
  go_wp2_with fail
  refine (HM.out _ r0).mono ?_; rintro e w9 ⟨rfl, b9⟩
  replace b9 := chain b8 b9 (Nat.le_refl _)
  go_wp2_with fail
  go_ret
  exact ⟨by first | rfl | simp, by rw [HG.out]; exact hb0.trans (b9.mono (Nat.le_of_lt hlt))⟩
end
end Go.Proofs.Ytclbbeolkhmnlaa
