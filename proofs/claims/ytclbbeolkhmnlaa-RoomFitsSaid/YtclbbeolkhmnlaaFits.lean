/-
  The walk of RoomFits, from what it asks of the program (Room).
-/
import Derived.Test.YtclbbeolkhmnlaaRoom
namespace Go.Proofs.Ytclbbeolkhmnlaa
set_option linter.unusedVariables false
set_option linter.unusedSimpArgs false
open Go.RowKit

theorem mul_le_div {n d : Int} (h0 : 0 ≤ n) (h : 1 ≤ d) (h1 : n ≤ 1099511627776 / d) : 0 ≤ n * d ∧ n * d ≤ 1099511627776 ∧ n * d % d = 0 := by
  refine ⟨Int.mul_nonneg h0 (by omega), ?_, Int.mul_emod_left _ _⟩
  have h2 := Int.mul_le_mul_of_nonneg_right h1 (show 0 ≤ d by omega)
  have h3 := Int.ediv_mul_le 1099511627776 (show d ≠ 0 by omega)
  omega
/-- A place that is not the least one is not free. -/
theorem not_free {l : List Sp} {size d from_ until_ b : Int} (hr : right l) (h1 : 1 ≤ size) (h0 : 0 ≤ b) (hb : b % d = 0) (hf : from_ ≤ b) (hu : b + size ≤ until_) (h : ¬ Place l size d from_ until_ b) : hasL l ⟨b, size⟩ = false := by
  rw [Bool.eq_false_iff]
  intro hh
  have hok : Sp.ok ⟨b, size⟩ := by unfold hasL at hh; rw [decide_eq_true_iff] at hh; exact hh.2.1
  have h2 := (hasL_iff hr hok).1 hh
  exact h ⟨h0, hb, hf, hu, fun c h3 h4 => h2 c ⟨h3, h4⟩⟩
/-- Behind the place that was cut. -/
theorem fit_behind {l : List Sp} {size d from_ until_ a c : Int} (hr : right l) (h1 : 1 ≤ size) (hok : Sp.ok ⟨a, size⟩) (hm : ∀ b, Place l size d from_ until_ b → a ≤ b) (h : fitL (cutL l ⟨a, size⟩) size d from_ until_ = some c) : a + size ≤ c ∧ c ≤ 1099511627776 := by
  obtain ⟨hp, _⟩ := fitL_some h
  have hin : ∀ b, c ≤ b → b < c + size → inn l b ∧ ¬ Sp.has ⟨a, size⟩ b := fun b h2 h3 => (cutL_mem hr hok b).1 (hp.has b h2 h3)
  have h2 := hm c ⟨hp.pos, hp.mul, hp.low, hp.high, fun b h2 h3 => (hin b h2 h3).1⟩
  have h3 := hin c (Int.le_refl _) (by omega)
  have h4 := inn_bound hr h3.1
  have h5 := h3.2
  unfold Sp.has Sp.e at h5
  simp only at h5
  omega

section
variable (Q : Room)
include Q

set_option maxRecDepth 100000 in
set_option maxHeartbeats 0 in
theorem fitsL (A : Option Addr) (len cap : Nat) (size d from_ until_ n : Int) (w : World) (h : 40 < len) :
    Calls Try.prog 7 #[.slice A len cap, .int .i64 size, .int .i64 d, .int .i64 from_, .int .i64 until_, .int .i64 n] w fun e w' => e = .returned (.bool true) ∧ Below w.heap.size w w' := by
  have HSm := Lib.hid (fun w => smallQ Q w)
  go_enter Try.func7, Try.ntmps7
  go_wp2_with fail
  refine (HSm.out _).mono ?_; rintro e w1 ⟨rfl, b1⟩
  go_wp2_with fail
  all_goals
    go_ret
    exact ⟨rfl, b1⟩

set_option maxRecDepth 100000 in
set_option maxHeartbeats 0 in
theorem fitsB (v : Value) (l : List Sp) (size d from_ until_ n : Int) (w : World) (hr : SRow w w.heap.size v l) (hl : l.length ≤ 40) (h : ¬ (right l ∧ 1 ≤ size ∧ size ≤ 1099511627776 ∧ 1 ≤ d ∧ d ≤ 1099511627776)) :
    Calls Try.prog 7 #[v, .int .i64 size, .int .i64 d, .int .i64 from_, .int .i64 until_, .int .i64 n] w fun e w' => e = .returned (.bool true) ∧ Below w.heap.size w w' := by
  have HSm := Lib.hid (fun w => smallQ Q w)
  have HRi := Lib.hid (fun w (h : SRow w w.heap.size v l) => Q.right v l w (by omega) h)
  obtain ⟨A, cap, rfl⟩ : ∃ A cap, v = .slice A l.length cap := by obtain ⟨_, _, A, cap, hv, _⟩ := hr; exact ⟨A, cap, hv⟩
  by_cases hri : right l
  · rw [show decide (right l) = true from decide_eq_true hri] at HRi
    by_cases h1 : 1 ≤ size
    · by_cases h2 : size ≤ 1099511627776
      · by_cases h3 : 1 ≤ d
        · by_cases h4 : d ≤ 1099511627776
          · exact absurd ⟨hri, h1, h2, h3, h4⟩ h
          · clear h
            go_enter Try.func7, Try.ntmps7
            go_wp2_with fail
            refine (HSm.out _).mono ?_; rintro e w1 ⟨rfl, b1⟩
            replace hr := hr.keep b1
            go_wp2_with fail
            refine (HRi.out _ hr).mono ?_; rintro e w2 ⟨rfl, b2⟩
            replace hr := hr.keep b2
            replace b2 := chain b1 b2 (Nat.le_refl _)
            go_wp2_with fail
            all_goals
              go_ret
              exact ⟨rfl, b2⟩
        · clear h
          go_enter Try.func7, Try.ntmps7
          go_wp2_with fail
          refine (HSm.out _).mono ?_; rintro e w1 ⟨rfl, b1⟩
          replace hr := hr.keep b1
          go_wp2_with fail
          refine (HRi.out _ hr).mono ?_; rintro e w2 ⟨rfl, b2⟩
          replace hr := hr.keep b2
          replace b2 := chain b1 b2 (Nat.le_refl _)
          go_wp2_with fail
          all_goals
            go_ret
            exact ⟨rfl, b2⟩
      · clear h
        go_enter Try.func7, Try.ntmps7
        go_wp2_with fail
        refine (HSm.out _).mono ?_; rintro e w1 ⟨rfl, b1⟩
        replace hr := hr.keep b1
        go_wp2_with fail
        refine (HRi.out _ hr).mono ?_; rintro e w2 ⟨rfl, b2⟩
        replace hr := hr.keep b2
        replace b2 := chain b1 b2 (Nat.le_refl _)
        go_wp2_with fail
        all_goals
          go_ret
          exact ⟨rfl, b2⟩
    · clear h
      go_enter Try.func7, Try.ntmps7
      go_wp2_with fail
      refine (HSm.out _).mono ?_; rintro e w1 ⟨rfl, b1⟩
      replace hr := hr.keep b1
      go_wp2_with fail
      refine (HRi.out _ hr).mono ?_; rintro e w2 ⟨rfl, b2⟩
      replace hr := hr.keep b2
      replace b2 := chain b1 b2 (Nat.le_refl _)
      go_wp2_with fail
      all_goals
        go_ret
        exact ⟨rfl, b2⟩
  · rw [show decide (right l) = false from decide_eq_false hri] at HRi
    clear h
    go_enter Try.func7, Try.ntmps7
    go_wp2_with fail
    refine (HSm.out _).mono ?_; rintro e w1 ⟨rfl, b1⟩
    replace hr := hr.keep b1
    go_wp2_with fail
    refine (HRi.out _ hr).mono ?_; rintro e w2 ⟨rfl, b2⟩
    replace hr := hr.keep b2
    replace b2 := chain b1 b2 (Nat.le_refl _)
    go_wp2_with fail
    all_goals
      go_ret
      exact ⟨rfl, b2⟩
set_option maxRecDepth 100000 in
set_option maxHeartbeats 0 in
theorem fitsN (v : Value) (l : List Sp) (size d from_ until_ n : Int) (w : World) (hr : SRow w w.heap.size v l) (hl : l.length ≤ 40) (hri : right l) (h1 : 1 ≤ size) (h2 : size ≤ 1099511627776) (h3 : 1 ≤ d) (h4 : d ≤ 1099511627776) (wf : Sp.wf ⟨from_, until_⟩) (wn : Sp.wf ⟨n, n⟩) (hf : fitL l size d from_ until_ = none) :
    Calls Try.prog 7 #[v, .int .i64 size, .int .i64 d, .int .i64 from_, .int .i64 until_, .int .i64 n] w fun e w' => e = .returned (.bool true) ∧ Below w.heap.size w w' := by
  have HSm := Lib.hid (fun w => smallQ Q w)
  have HRi := Lib.hid (fun w (h : SRow w w.heap.size v l) => Q.right v l w (by omega) h)
  rw [show decide (right l) = true from decide_eq_true hri] at HRi
  have HF := Lib.hid (fun w (h : SRow w w.heap.size v l) => Q.fit v l size d from_ until_ w (by omega) h (by unfold Sp.wf; simp only; omega) wf)
  rw [hf] at HF
  unfold fitRes at HF
  have HN := Lib.hid (fitL_none hri h1 h2 h3 h4 hf)
  have HHB := Lib.hid (fun b (hb : Sp.wf ⟨b, size⟩) w (h : SRow w w.heap.size v l) => Q.has v l ⟨b, size⟩ w (by omega) hb h)
  unfold spv at HHB
  obtain ⟨A, cap, rfl⟩ : ∃ A cap, v = .slice A l.length cap := by obtain ⟨_, _, A, cap, hv, _⟩ := hr; exact ⟨A, cap, hv⟩
  unfold Sp.wf at wf wn
  simp only at wf wn
  obtain ⟨y1, y2, y3, y4⟩ := wf
  obtain ⟨y5, y6, _, _⟩ := wn
  have HRR := Lib.hid hri; clear hri
  go_enter Try.func7, Try.ntmps7
  go_wp2_with fail
  refine (HSm.out _).mono ?_; rintro e w1 ⟨rfl, b1⟩
  replace hr := hr.keep b1
  go_wp2_with fail
  refine (HRi.out _ hr).mono ?_; rintro e w2 ⟨rfl, b2⟩
  replace hr := hr.keep b2
  replace b2 := chain b1 b2 (Nat.le_refl _)
  go_wp2_with fail
  refine (HF.out _ hr).mono ?_; rintro e w3 ⟨rfl, b3⟩
  replace hr := hr.keep b3
  replace b3 := chain b2 b3 (Nat.le_refl _)
  by_cases n0 : 0 ≤ n
  · by_cases n1 : n ≤ 1099511627776 / d
    · obtain ⟨m1, m2, m3⟩ := mul_le_div n0 h3 n1
      have m4 : IntKind.i64.wrap (n * d) = n * d := IntWalk.i64_in _ (by omega)
      obtain ⟨b, hb⟩ : ∃ b, n * d = b := ⟨_, rfl⟩
      rw [hb] at m1 m2 m3 m4
      have m5 : b ≤ 1099511627776 := m2
      by_cases f1 : from_ ≤ b
      · obtain ⟨u, hu⟩ : ∃ u, IntKind.i64.wrap (until_ - size) = u := ⟨_, rfl⟩
        by_cases f2 : b ≤ u
        · by_cases f3 : until_ ≤ 1099511627776
          · by_cases f4 : size ≤ until_
            · have f6 : b + size ≤ until_ := by
                have := IntWalk.i64_in (until_ - size) (by omega)
                omega
              have hno := not_free HRR.out h1 m1 m3 f1 f6 (HN.out b)
              have HX := Lib.hid (fun w (h : SRow w w.heap.size (.slice A l.length cap) l) => HHB.out b (by unfold Sp.wf; simp only; omega) w h)
              rw [hno] at HX
              go_wp2_with fail
              refine (HX.out _ hr).mono ?_; rintro e w4 ⟨rfl, b4⟩
              replace b4 := chain b3 b4 (Nat.le_refl _)
              go_wp2_with fail
              go_ret
              exact ⟨rfl, b4⟩
            · go_wp2_with fail
              all_goals
                go_ret
                exact ⟨rfl, b3⟩
          · go_wp2_with fail
            all_goals
              go_ret
              exact ⟨rfl, b3⟩
        · go_wp2_with fail
          all_goals
            go_ret
            exact ⟨rfl, b3⟩
      · go_wp2_with fail
        all_goals
          go_ret
          exact ⟨rfl, b3⟩
    · have n2 : 1099511627776 / d < n := by omega
      go_wp2_with fail
      all_goals
        go_ret
        exact ⟨rfl, b3⟩
  · go_wp2_with fail
    all_goals
      go_ret
      exact ⟨rfl, b3⟩
set_option maxRecDepth 100000 in
set_option maxHeartbeats 0 in
theorem fitsS (v : Value) (l : List Sp) (size d from_ until_ n : Int) (w : World) (hr : SRow w w.heap.size v l) (hl : l.length ≤ 40) (hri : right l) (h1 : 1 ≤ size) (h2 : size ≤ 1099511627776) (h3 : 1 ≤ d) (h4 : d ≤ 1099511627776) (wf : Sp.wf ⟨from_, until_⟩) (wn : Sp.wf ⟨n, n⟩) (a : Int) (hf : fitL l size d from_ until_ = some a) :
    Calls Try.prog 7 #[v, .int .i64 size, .int .i64 d, .int .i64 from_, .int .i64 until_, .int .i64 n] w fun e w' => e = .returned (.bool true) ∧ Below w.heap.size w w' := by
  have HSm := Lib.hid (fun w => smallQ Q w)
  have HRi := Lib.hid (fun w (h : SRow w w.heap.size v l) => Q.right v l w (by omega) h)
  rw [show decide (right l) = true from decide_eq_true hri] at HRi
  have HF := Lib.hid (fun w (h : SRow w w.heap.size v l) => Q.fit v l size d from_ until_ w (by omega) h (by unfold Sp.wf; simp only; omega) wf)
  rw [hf] at HF
  unfold fitRes at HF
  obtain ⟨hp, hm⟩ := fitL_some hf
  have hbd := inn_bound hri (hp.has (a + size - 1) (by omega) (by omega))
  have pok : Sp.ok ⟨a, size⟩ := by have := hp.pos; unfold Sp.ok; simp only; omega
  have hhas : hasL l ⟨a, size⟩ = true := (hasL_iff hri pok).2 fun b hb => hp.has b hb.1 hb.2
  have HH := Lib.hid (fun w (h : SRow w w.heap.size v l) => Q.has v l ⟨a, size⟩ w (by omega) pok.wf h)
  rw [hhas] at HH
  unfold spv at HH
  have HHB := Lib.hid (fun b (hb : Sp.wf ⟨b, size⟩) w (h : SRow w w.heap.size v l) => Q.has v l ⟨b, size⟩ w (by omega) hb h)
  unfold spv at HHB
  have HC := Lib.hid (fun w (h : SRow w w.heap.size v l) => Q.cut v l ⟨a, size⟩ w (by omega) pok.wf h)
  unfold spv at HC
  have hcl := cutL_length hri pok
  have HF2 := Lib.hid (fun u w (h : SRow w w.heap.size u (cutL l ⟨a, size⟩)) => Q.fit u (cutL l ⟨a, size⟩) size d from_ until_ w (by omega) h (by unfold Sp.wf; simp only; omega) wf)
  have HB2 := Lib.hid (fun c (h : fitL (cutL l ⟨a, size⟩) size d from_ until_ = some c) => fit_behind hri h1 pok hm h)
  have HM := Lib.hid hm; clear hm hcl hhas
  obtain ⟨p1, p2, p3, p4, _⟩ := hp
  obtain ⟨A, cap, rfl⟩ : ∃ A cap, v = .slice A l.length cap := by obtain ⟨_, _, A, cap, hv, _⟩ := hr; exact ⟨A, cap, hv⟩
  unfold Sp.wf at wf wn
  simp only at wf wn
  obtain ⟨y1, y2, y3, y4⟩ := wf
  obtain ⟨y5, y6, _, _⟩ := wn
  have HRR := Lib.hid hri; clear hri
  go_enter Try.func7, Try.ntmps7
  go_wp2_with fail
  refine (HSm.out _).mono ?_; rintro e w1 ⟨rfl, b1⟩
  replace hr := hr.keep b1
  go_wp2_with fail
  refine (HRi.out _ hr).mono ?_; rintro e w2 ⟨rfl, b2⟩
  replace hr := hr.keep b2
  replace b2 := chain b1 b2 (Nat.le_refl _)
  go_wp2_with fail
  refine (HF.out _ hr).mono ?_; rintro e w3 ⟨rfl, b3⟩
  replace hr := hr.keep b3
  replace b3 := chain b2 b3 (Nat.le_refl _)
  go_wp2_with fail
  all_goals
    refine (HH.out _ hr).mono ?_; rintro e w4 ⟨rfl, b4⟩
    replace hr := hr.keep b4
    replace b4 := chain b3 b4 (Nat.le_refl _)
    by_cases n0 : 0 ≤ n
    · by_cases n1 : n ≤ 1099511627776 / d
      · obtain ⟨m1, m2, m3⟩ := mul_le_div n0 h3 n1
        have m4 : IntKind.i64.wrap (n * d) = n * d := IntWalk.i64_in _ (by omega)
        obtain ⟨b, hb⟩ : ∃ b, n * d = b := ⟨_, rfl⟩
        rw [hb] at m1 m2 m3 m4
        have m5 : b ≤ 1099511627776 := m2
        by_cases f1 : from_ ≤ b
        · obtain ⟨u, hu⟩ : ∃ u, IntKind.i64.wrap (until_ - size) = u := ⟨_, rfl⟩
          by_cases f2 : b ≤ u
          · by_cases f3 : until_ ≤ 1099511627776
            · by_cases f4 : size ≤ until_
              · have f6 : b + size ≤ until_ := by
                  have := IntWalk.i64_in (until_ - size) (by omega)
                  omega
                by_cases f5 : b < a
                · have hno := not_free HRR.out h1 m1 m3 f1 f6 (fun h => by have := HM.out b h; omega)
                  have HX := Lib.hid (fun w (h : SRow w w.heap.size (.slice A l.length cap) l) => HHB.out b (by unfold Sp.wf; simp only; omega) w h)
                  rw [hno] at HX
                  go_wp2_with fail
                  refine (HX.out _ hr).mono ?_; rintro e w7 ⟨rfl, b7⟩
                  replace hr := hr.keep b7
                  replace b7 := chain b4 b7 (Nat.le_refl _)
                  first
                    | (exfalso; omega)
                    | (go_wp2_with fail
                       refine (HC.out _ hr).mono ?_; rintro e w5 ⟨uc, rfl, rc, b5⟩
                       replace b5 := chain b7 b5 (Nat.le_refl _)
                       go_wp2_with fail
                       refine (HF2.out _ _ rc).mono ?_; rintro e w6 ⟨rfl, b6⟩
                       replace b6 := chain b5 b6 (Nat.le_refl _)
                       rcases hf2 : fitL (cutL l ⟨a, size⟩) size d from_ until_ with _ | c
                       · unfold fitRes
                         go_wp2_with fail
                         go_ret
                         exact ⟨rfl, b6⟩
                       · obtain ⟨z1, z2⟩ := HB2.out c hf2
                         unfold fitRes
                         clear hf2
                         go_wp2_with fail
                         go_ret
                         exact ⟨rfl, b6⟩)
                · have f7 : a ≤ b := by omega
                  first
                    | (exfalso; omega)
                    | (go_wp2_with fail
                       refine (HC.out _ hr).mono ?_; rintro e w5 ⟨uc, rfl, rc, b5⟩
                       replace b5 := chain b4 b5 (Nat.le_refl _)
                       go_wp2_with fail
                       refine (HF2.out _ _ rc).mono ?_; rintro e w6 ⟨rfl, b6⟩
                       replace b6 := chain b5 b6 (Nat.le_refl _)
                       rcases hf2 : fitL (cutL l ⟨a, size⟩) size d from_ until_ with _ | c
                       · unfold fitRes
                         go_wp2_with fail
                         go_ret
                         exact ⟨rfl, b6⟩
                       · obtain ⟨z1, z2⟩ := HB2.out c hf2
                         unfold fitRes
                         clear hf2
                         go_wp2_with fail
                         go_ret
                         exact ⟨rfl, b6⟩)
              · first
                  | (exfalso; omega)
                  | (go_wp2_with fail
                     refine (HC.out _ hr).mono ?_; rintro e w5 ⟨uc, rfl, rc, b5⟩
                     replace b5 := chain b4 b5 (Nat.le_refl _)
                     go_wp2_with fail
                     refine (HF2.out _ _ rc).mono ?_; rintro e w6 ⟨rfl, b6⟩
                     replace b6 := chain b5 b6 (Nat.le_refl _)
                     rcases hf2 : fitL (cutL l ⟨a, size⟩) size d from_ until_ with _ | c
                     · unfold fitRes
                       go_wp2_with fail
                       go_ret
                       exact ⟨rfl, b6⟩
                     · obtain ⟨z1, z2⟩ := HB2.out c hf2
                       unfold fitRes
                       clear hf2
                       go_wp2_with fail
                       go_ret
                       exact ⟨rfl, b6⟩)
            · first
                | (exfalso; omega)
                | (go_wp2_with fail
                   refine (HC.out _ hr).mono ?_; rintro e w5 ⟨uc, rfl, rc, b5⟩
                   replace b5 := chain b4 b5 (Nat.le_refl _)
                   go_wp2_with fail
                   refine (HF2.out _ _ rc).mono ?_; rintro e w6 ⟨rfl, b6⟩
                   replace b6 := chain b5 b6 (Nat.le_refl _)
                   rcases hf2 : fitL (cutL l ⟨a, size⟩) size d from_ until_ with _ | c
                   · unfold fitRes
                     go_wp2_with fail
                     go_ret
                     exact ⟨rfl, b6⟩
                   · obtain ⟨z1, z2⟩ := HB2.out c hf2
                     unfold fitRes
                     clear hf2
                     go_wp2_with fail
                     go_ret
                     exact ⟨rfl, b6⟩)
          · first
              | (exfalso; omega)
              | (go_wp2_with fail
                 refine (HC.out _ hr).mono ?_; rintro e w5 ⟨uc, rfl, rc, b5⟩
                 replace b5 := chain b4 b5 (Nat.le_refl _)
                 go_wp2_with fail
                 refine (HF2.out _ _ rc).mono ?_; rintro e w6 ⟨rfl, b6⟩
                 replace b6 := chain b5 b6 (Nat.le_refl _)
                 rcases hf2 : fitL (cutL l ⟨a, size⟩) size d from_ until_ with _ | c
                 · unfold fitRes
                   go_wp2_with fail
                   go_ret
                   exact ⟨rfl, b6⟩
                 · obtain ⟨z1, z2⟩ := HB2.out c hf2
                   unfold fitRes
                   clear hf2
                   go_wp2_with fail
                   go_ret
                   exact ⟨rfl, b6⟩)
        · first
            | (exfalso; omega)
            | (go_wp2_with fail
               refine (HC.out _ hr).mono ?_; rintro e w5 ⟨uc, rfl, rc, b5⟩
               replace b5 := chain b4 b5 (Nat.le_refl _)
               go_wp2_with fail
               refine (HF2.out _ _ rc).mono ?_; rintro e w6 ⟨rfl, b6⟩
               replace b6 := chain b5 b6 (Nat.le_refl _)
               rcases hf2 : fitL (cutL l ⟨a, size⟩) size d from_ until_ with _ | c
               · unfold fitRes
                 go_wp2_with fail
                 go_ret
                 exact ⟨rfl, b6⟩
               · obtain ⟨z1, z2⟩ := HB2.out c hf2
                 unfold fitRes
                 clear hf2
                 go_wp2_with fail
                 go_ret
                 exact ⟨rfl, b6⟩)
      · have n2 : 1099511627776 / d < n := by omega
        first
          | (exfalso; omega)
          | (go_wp2_with fail
             refine (HC.out _ hr).mono ?_; rintro e w5 ⟨uc, rfl, rc, b5⟩
             replace b5 := chain b4 b5 (Nat.le_refl _)
             go_wp2_with fail
             refine (HF2.out _ _ rc).mono ?_; rintro e w6 ⟨rfl, b6⟩
             replace b6 := chain b5 b6 (Nat.le_refl _)
             rcases hf2 : fitL (cutL l ⟨a, size⟩) size d from_ until_ with _ | c
             · unfold fitRes
               go_wp2_with fail
               go_ret
               exact ⟨rfl, b6⟩
             · obtain ⟨z1, z2⟩ := HB2.out c hf2
               unfold fitRes
               clear hf2
               go_wp2_with fail
               go_ret
               exact ⟨rfl, b6⟩)
    · first
        | (exfalso; omega)
        | (go_wp2_with fail
           refine (HC.out _ hr).mono ?_; rintro e w5 ⟨uc, rfl, rc, b5⟩
           replace b5 := chain b4 b5 (Nat.le_refl _)
           go_wp2_with fail
           refine (HF2.out _ _ rc).mono ?_; rintro e w6 ⟨rfl, b6⟩
           replace b6 := chain b5 b6 (Nat.le_refl _)
           rcases hf2 : fitL (cutL l ⟨a, size⟩) size d from_ until_ with _ | c
           · unfold fitRes
             go_wp2_with fail
             go_ret
             exact ⟨rfl, b6⟩
           · obtain ⟨z1, z2⟩ := HB2.out c hf2
             unfold fitRes
             clear hf2
             go_wp2_with fail
             go_ret
             exact ⟨rfl, b6⟩)
end
end Go.Proofs.Ytclbbeolkhmnlaa
