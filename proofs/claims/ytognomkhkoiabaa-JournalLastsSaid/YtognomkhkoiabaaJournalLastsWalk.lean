/-
  The walk of the law JournalLasts.
-/
import Derived.Test.YtognomkhkoiabaaZLb
import Derived.Deep.DeepCutAuto
import Derived.Deep.CutBlock
import Derived.StillTailTactics
namespace Go.Proofs.Ytognomkhkoiabaa.journalLasts
set_option linter.unusedVariables false
set_option linter.unusedSimpArgs false
open Go.RowKit

theorem ext_few (l : List ByteArray) (h1 : l.length ≤ 6) (h2 : ∀ r ∈ l, r.size ≤ 200) : ext l ≤ 1264 := by
  have : ∀ l : List ByteArray, (∀ r ∈ l, r.size ≤ 200) → ext l ≤ 16 + 208 * l.length := fun l => by
    induction l with
    | nil => intro _; simp [ext]
    | cons a l ih =>
      intro h
      have h1 := ih fun r hr => h r (by simp [hr])
      have h2 := h a (by simp)
      unfold ext at *
      simp only [List.map_cons, List.sum_cons, List.length_cons]
      omega
  have := this l h2
  omega
set_option maxRecDepth 100000 in
set_option maxHeartbeats 0 in
theorem walk (W : World) (v0 : Value) (l : List De) (v1 : Value) (at_ : List Int) (w0 : OpenDeeds W v0 l) (w1 : IRow W W.heap.size v1 at_ ∧ ∀ z ∈ at_, -9223372036854775808 ≤ z ∧ z ≤ 9223372036854775807) :
    Calls Try.prog 3 #[v0, v1] W fun e w' => e = .returned (.bool true) ∧ Below W.heap.size W w' := by
  obtain ⟨her, hwf, hlen⟩ := w0
  obtain ⟨hat, hab⟩ := w1
  obtain ⟨A, cap, rfl, hA⟩ := her
  have HER : Hid (ERow W W.heap.size (.slice A l.length cap) l) := Lib.hid ⟨A, cap, rfl, hA⟩
  obtain ⟨Aa, capa, rfl, -, -, -, -⟩ := id hat
  have HAT := Lib.hid hat
  have HAB := Lib.hid hab
  have HS := Lib.hid (small7 W)
  have HWF := Lib.hid hwf
  clear hA hwf hat hab
  go_enter Try.func3, Try.ntmps3
  go_wp2_with fail
  refine HS.out.mono ?_; rintro e w2 ⟨rfl, hb2⟩
  have HB2 := Lib.hid hb2
  have HF := Lib.hid (few7P _ l w2 (HER.out.keep hb2) hlen)
  clear hb2 HS
  rcases hfew : fewB7 l
  · rw [hfew] at HF
    clear hfew
    go_wp2_with fail
    refine HF.out.mono ?_; rintro e w3 ⟨rfl, rfl⟩
    go_wp2_with fail
    go_ret
    exact ⟨rfl, HB2.out⟩
  · rw [hfew] at HF
    obtain ⟨h30, hok⟩ := fewB7_parts hfew
    have HOK := Lib.hid hok
    clear hok hfew
    by_cases h10 : 10 < at_.length
    · have k1 : decide ((at_.length : Int) > 10) = true := by rw [decide_eq_true_iff]; omega
      have k2 : decide ((10 : Int) < (at_.length : Int)) = true := by rw [decide_eq_true_iff]; omega
      clear h10
      go_wp2_with fail
      refine HF.out.mono ?_; rintro e w3 ⟨rfl, rfl⟩
      go_wp2_with fail
      go_ret
      exact ⟨rfl, HB2.out⟩
    · have k1 : decide ((at_.length : Int) > 10) = false := by rw [decide_eq_false_iff_not]; omega
      have k2 : decide ((10 : Int) < (at_.length : Int)) = false := by rw [decide_eq_false_iff_not]; omega
      have hal : at_.length ≤ 10 := by omega
      clear h10
      go_wp2_with fail
      refine HF.out.mono ?_; rintro e w3 ⟨rfl, rfl⟩
      clear HF
      have HC := Lib.hid (dNew w2)
      go_wp2_with fail
      refine HC.out.mono ?_; rintro e w3 ⟨db, rfl, h3⟩
      have HD := Lib.hid (h3.base HB2.out); clear h3 HC HB2
      have HC := Lib.hid (jOpen HD.out 3 (by decide) (bs []) [] (read_of dk0 3 (by decide) rfl) (by decide) (by decide +kernel))
      go_wp2_with fail
      refine HC.out.mono ?_; rintro e w4 ⟨lb0, v4, rfl, h4, -⟩
      have H0 := Lib.hid ((LX.start h4).one (.slice none 0 0)); clear h4 HC HD k1 k2
      go_wp2_with fail
      go_loopg [8, 10, 11, 12] l.length (fun q lv mv av iv wl => JRel W at_.length l db q lv mv av iv wl)
      case atStart => exact ⟨0, 0, lb0, [], _, _, _, dk0, _, [[]], rfl, rfl, rfl, rfl, by omega, by omega, by omega, H0.out, pu0⟩
      case round =>
        clear H0
        obtain ⟨k, A1, lb, X, vl, v, g, s, us, M, rfl, rfl, rfl, rfl, hk, hq0, hA1, hL, hP⟩ := hrel
        have HG := Lib.hid hq0
        obtain ⟨A7, cap7, rfl⟩ := hL.form
        have HL := Lib.hid hL
        have HP00 := Lib.hid hP
        clear hL hP hq0
        by_cases hlt : k < l.length
        · have hk30 : k < 30 := by omega
          have hbel := HL.out.bel
          obtain ⟨A', cap', he, hA⟩ := HER.out
          injection he with he1 _ he2
          subst he1; subst he2
          obtain ⟨b, off, rfl, hb, hc⟩ := hA (by omega)
          obtain ⟨ur, uk, hur, huk, c0, c1, c2, c3, c4⟩ := hc k hlt
          replace c0 := keep_below hbel c0
          replace c1 := keep_below hbel c1
          replace c2 := keep_below hbel c2
          replace c3 := keep_below hbel c3
          replace c4 := keep_below hbel c4
          obtain ⟨Ar, capr, hur1, -⟩ := id hur
          obtain ⟨Ak, capk, huk1, -⟩ := id huk
          rw [sv_length] at hur1
          subst hur1; subst huk1
          have hokk := HOK.out k hlt
          have hwk := HWF.out k hlt
          have q1 : (k : Int) < l.length := by omega
          obtain ⟨⟨o, row, rs, ks, nn⟩, ha⟩ : ∃ a, gd l k = a := ⟨_, rfl⟩
          rw [ha] at c0 c1 c2 c3 c4 hur huk hokk hwk
          simp only at c0 c1 c2 c3 c4 hur huk
          have HUR := Lib.hid hur
          have HUK := Lib.hid huk
          have HRW : Hid (row.size ≤ 200) := Lib.hid hokk.row
          have HXR : Hid (ext rs ≤ 1264) := Lib.hid (ext_few rs hokk.rows hokk.each)
          have HKL : Hid (ks.length ≤ 60) := Lib.hid hokk.keep
          have HNN : Hid (-9223372036854775808 ≤ nn ∧ nn ≤ 9223372036854775807) := Lib.hid hwk.n
          have HX := Lib.hid (HL.out.add 35 #[.int .i64 o, .string row, .slice Ar rs.length capr, .slice Ak ks.length capk, .int .i64 nn])
          have HP0 := Lib.hid (HP00.out.mono (Y := (wr.heap.size, 35, #[.int .i64 o, .string row, .slice Ar rs.length capr, .slice Ak ks.length capk, .int .i64 nn]) :: X) fun x hx => List.mem_cons_of_mem _ hx)
          have x5 := Blk.new wr 35 #[.int .i64 o, .string row, .slice Ar rs.length capr, .slice Ak ks.length capk, .int .i64 nn]
          have x0 := x5.cell 0
          have x1 := x5.cell 1
          have x2 := x5.cell 2
          have x3 := x5.cell 3
          have x4 := x5.cell 4
          simp at x0 x1 x2 x3 x4
          have ha7 := and7 o
          obtain ⟨R, hR⟩ : ∃ R, o % 8 = R := ⟨_, rfl⟩
          rw [hR] at ha7
          have hR8 : (R = 0 ∨ R = 1 ∨ R = 2) ∨ R = 3 ∨ R = 4 ∨ R = 5 ∨ R = 6 ∨ R = 7 := by omega
          clear hA hc hur huk hokk hwk ha x5 hR hb hbel HL HP00
          go_upto_region 15 with fail
          go_cut [59] (fun bv wx => BRel A1 at_.length (wr.alloc (.cells #[.int .i64 o, .string row, .slice Ar rs.length capr, .slice Ak ks.length capk, .int .i64 nn] 35)) bv wx)
          case first =>
            clear x0 x1 x2 x3 x4 c0 c1 c2 c3 c4 hR8 ha7
            by_cases hk3 : k % 3 = 0
            · have m1 : ((k : Int) % 3 == 0) = true := by rw [beq_iff_eq]; omega
              clear hk3
              by_cases hA2 : A1 < at_.length
              · have m2 : decide ((A1 : Int) < (at_.length : Int)) = true := by rw [decide_eq_true_iff]; omega
                go_wp2_with fail
                go_meet
                exact ⟨true, rfl, fun _ => hA2, rfl⟩
              · have m2 : decide ((A1 : Int) < (at_.length : Int)) = false := by rw [decide_eq_false_iff_not]; omega
                go_wp2_with fail
                go_meet
                exact ⟨false, rfl, (fun h => by cases h), rfl⟩
            · have m1 : ((k : Int) % 3 == 0) = false := by rw [beq_eq_false_iff_ne]; omega
              clear hk3
              go_wp2_with fail
              go_meet
              exact ⟨false, rfl, (fun h => by cases h), rfl⟩
          case rest =>
            obtain ⟨bb, rfl, hbb, rfl⟩ := hcut
            have HBB := Lib.hid hbb; clear hbb c0 c1 c2 c3 c4
            go_upto_if 59 with fail
            go_cut [11] (fun av wl => ArmRel W at_.length k ((wr.heap.size, 35, #[.int .i64 o, .string row, .slice Ar rs.length capr, .slice Ak ks.length capk, .int .i64 nn]) :: X) lb db vl g (.slice A7 us.length cap7) us M av wl)
            case first =>
              cases bb
              · go_wp2_with fail
                go_meet
                exact ⟨A1, s, rfl, hA1, HX.out, HP0.out⟩
              · have ha := HBB.out rfl
                have hbel := HX.out.bel
                obtain ⟨Aa', capa', ea, -, -, -, hca⟩ := HAT.out
                injection ea with ea1 _ ea2
                subst ea1; subst ea2
                obtain ⟨ba, offa, rfl, hba, hcc⟩ := hca (by omega)
                have c0 := (hbel.cell (p := ⟨ba, offa + A1, none⟩) hba).trans (hcc A1 ha)
                have hz := HAB.out _ (List.getElem_mem ha)
                obtain ⟨z, hzz⟩ : ∃ z, at_[A1] = z := ⟨_, rfl⟩
                rw [hzz] at c0 hz
                have HC := Lib.hid (xArm HX.out.drew z hz.2 (.slice Ak ks.length capk) ks (HUK.out.keep HX.out.drew.bel) (by have := HKL.out; omega))
                have qa : (A1 : Int) < at_.length := by omega
                clear hcc hca hzz hz hbel
                go_wp2_with fail
                go_region_with (go_at_call 8; refine HC.out.mono ?_; rintro e w3 ⟨rfl, h3⟩; have H3 := Lib.hid h3)
                all_goals
                  go_wp2_with fail
                  go_meet
                  exact ⟨A1 + 1, s.arm z ks, by go_num, by omega, H3.out, HP0.out.arm z ks⟩
            case rest =>
              obtain ⟨A2, s2, rfl, hA2, h2, hp2⟩ := hcut
              have HXX := Lib.hid h2
              have HPP := Lib.hid hp2
              clear h2 hp2 x0 x1 x2 x3 x4
              obtain ⟨w3, hw3⟩ : ∃ w, w = wc := ⟨_, rfl⟩
              rw [← hw3] at HXX ⊢
              clear hw3
              have HC := Lib.hid (xAll HXX.out)
              unfold XA at HC
              go_wp2_with fail
              refine HC.out.mono ?_; rintro e w4 ⟨Aw, capw, Y, rfl, h4, hY, hel⟩
              obtain ⟨gw, hgw⟩ : ∃ gw, g.rows.length = gw := ⟨_, rfl⟩
              rw [hgw] at hel ⊢
              clear hgw
              have H := Lib.hid h4
              have HY := Lib.hid hY
              have HEL := Lib.hid hel
              have HP := Lib.hid (HPP.out.mono hY)
              have hbx : Blk w4 wr.heap.size 35 #[.int .i64 o, .string row, .slice Ar rs.length capr, .slice Ak ks.length capk, .int .i64 nn] := h4.box (hY _ List.mem_cons_self)
              have x0 := hbx.cell 0
              have x1 := hbx.cell 1
              have x2 := hbx.cell 2
              have x3 := hbx.cell 3
              have x4 := hbx.cell 4
              simp at x0 x1 x2 x3 x4
              clear h4 hY hel hbx HC HXX HPP
              go_upto_block 2 with fail
              go_cut [9, 10] (fun ev mv wl => DoneRel W k lb db ev mv wl)
              case first =>
                rcases hR8 with hR8 | rfl | rfl | rfl | rfl | rfl
                · have hq3 : (R == 3) = false := by simp; omega
                  have hq4 : (R == 4) = false := by simp; omega
                  have hq5 : (R == 5) = false := by simp; omega
                  have hq6 : (R == 6) = false := by simp; omega
                  have hq7 : (R == 7) = false := by simp; omega
                  clear hR8
                  obtain ⟨⟨E, g2, s3⟩, hr⟩ : ∃ q, g.append s2 row = q := ⟨_, rfl⟩
                  have ha := HP.out.append hk30 row HRW.out
                  rw [hr] at ha
                  have HAF := Lib.hid ha
                  have HC := Lib.hid (xAppend H.out row (by rw [ext_app]; have := HP.out.gi.ex; have := HRW.out; omega) (by have := HP.out.gi.pe; have := HRW.out; omega))
                  rw [hr] at HC
                  clear ha hr H
                  go_wp2_with fail
                  refine HC.out.mono ?_; rintro e w5 ⟨rfl, vl2, h5⟩
                  have H := Lib.hid h5; clear h5 HC x0 x1 x2 x3 x4
                  go_wp2_with fail
                  go_meet
                  exact ⟨E, Y, vl2, _, g2, s3, us, M, rfl, rfl, H.out, HAF.out⟩
                · have HUL : Hid (us.length ≤ 100) := Lib.hid (by have := HP.out.li.len; have := HP.out.mn; omega)
                  have HC := Lib.hid (xFlush H.out (by have := HP.out.gi.ex; omega) (by have := HP.out.gi.pe; omega) HP.out.gi.su)
                  have haf0 := fun h0 => HP.out.flush0 hk30 HEL.out h0
                  have haf1 := fun h0 => HP.out.flush1 hk30 HEL.out h0
                  obtain ⟨⟨E, g2, s3⟩, hr⟩ : ∃ q, g.flush s2 = q := ⟨_, rfl⟩
                  rw [hr] at HC haf0 haf1
                  simp only at haf0 haf1
                  have HA0 := Lib.hid haf0
                  have HA1 := Lib.hid haf1
                  clear hr haf0 haf1 H
                  go_wp2_with fail
                  refine HC.out.mono ?_; rintro e w5 ⟨rfl, vl2, h5⟩
                  simp only at h5
                  have H := Lib.hid h5; clear h5 HC x0 x1 x2 x3 x4
                  by_cases hE : E = 0
                  · subst hE
                    have HAF := Lib.hid (HA0.out rfl)
                    replace H := Lib.hid H.out.nil7
                    obtain ⟨A8, hA8⟩ : ∃ A8 : Option Addr, A8 = none := ⟨_, rfl⟩
                    obtain ⟨cap8, hcap8⟩ : ∃ c : Nat, c = 0 := ⟨_, rfl⟩
                    clear HA0 HA1 HUL
                    have HUL : Hid (([] : List Value).length ≤ 100) := Lib.hid (by decide)
                    obtain ⟨i0, hi, hz0, hz1, hz2⟩ := info_parts infoSS
                    have HW2 : Hid (W.heap.size ≤ (w5.alloc (.cells #[Value.slice Aw gw capw] 33)).heap.size) := Lib.hid (by have := H.out.bel.size; simp; omega)
                    go_wp2_with (at_builtin; refine wpList_append_lies _ rfl _ _ 32 rfl W.heap.size 33 i0 (.slice none 0 0) 1 24 Try.underlying32 hi hz0 hz1 hz2 rfl (by decide) _ _ _ rfl (H.out.own.alloc _) ⟨w5.heap.size, 0, none⟩ 1 1 [Value.slice Aw gw capw] rfl rfl ?c1 ?c2 (by decide) ?c3 ?c4 HW2.out (w5.heap.size + 1) (by simp) ?_)
                    case c1 =>
                      intro i y hy
                      rw [Addr.add_lit, Nat.zero_add, (Blk.new w5 33 #[Value.slice Aw gw capw]).cell]
                      simpa using hy
                    case c2 => intro y hy; rw [List.mem_singleton] at hy; rw [hy]; rfl
                    case c3 => have := HUL.out; unfold maxLen; first | omega | (simp only [List.length_nil]; omega)
                    case c4 => have := HUL.out; first | omega | (simp only [List.length_nil]; omega)
                    intro gg cap4 w7 hown hgrow hat hlt5
                    have hg5 : w5.grownBy w7 (Value.slice none 0 0).ownBlock := grown_trans (grown_below (below_new w5 _) _) hgrow
                    have hown5 : w7.ownsRow W.heap.size 33 1 (.slice (some ⟨gg, 0, none⟩) (([] : List Value) ++ [Value.slice Aw gw capw]).length cap4) (([] : List Value) ++ [Value.slice Aw gw capw]).length (([] : List Value) ++ [Value.slice Aw gw capw]) := by
                      rw [List.length_append]; exact hown
                    have hh := LX.rows H.out hg5 hown5 (fun j hj => by
                      have hj2 : gg = j := by simpa [Value.ownBlock] using hj
                      rcases hat with h | h
                      · exact .inl (by rw [h, hj2])
                      · exact .inr (by omega))
                    replace H := Lib.hid hh
                    clear hg5 hown5 hh hown hgrow hat hlt5 HW2 hi hz0 hz1 hz2
                    have hlen1 : ([] : List Value).length + 1 = (([] : List Value) ++ [Value.slice Aw gw capw]).length := by simp
                    go_wp2_with fail
                    go_meet
                    exact ⟨0, Y, vl2, _, g2, s3, [] ++ [Value.slice Aw gw capw], [g.rows], rfl, rfl, H.out, HAF.out⟩
                  · have HAF := Lib.hid (HA1.out hE)
                    have hE0 : (E == 0) = false := by rw [beq_eq_false_iff_ne]; exact hE
                    have HEN := Lib.hid hE
                    clear HA0 HA1 hE
                    obtain ⟨A8, rfl⟩ : ∃ A8, A8 = A7 := ⟨_, rfl⟩
                    obtain ⟨cap8, rfl⟩ : ∃ c, c = cap7 := ⟨_, rfl⟩
                    obtain ⟨i0, hi, hz0, hz1, hz2⟩ := info_parts infoSS
                    have HW2 : Hid (W.heap.size ≤ (w5.alloc (.cells #[Value.slice Aw gw capw] 33)).heap.size) := Lib.hid (by have := H.out.bel.size; simp; omega)
                    go_wp2_with (at_builtin; refine wpList_append_lies _ rfl _ _ 32 rfl W.heap.size 33 i0 (.slice none 0 0) 1 24 Try.underlying32 hi hz0 hz1 hz2 rfl (by decide) _ _ _ rfl (H.out.own.alloc _) ⟨w5.heap.size, 0, none⟩ 1 1 [Value.slice Aw gw capw] rfl rfl ?c1 ?c2 (by decide) ?c3 ?c4 HW2.out (w5.heap.size + 1) (by simp) ?_)
                    case c1 =>
                      intro i y hy
                      rw [Addr.add_lit, Nat.zero_add, (Blk.new w5 33 #[Value.slice Aw gw capw]).cell]
                      simpa using hy
                    case c2 => intro y hy; rw [List.mem_singleton] at hy; rw [hy]; rfl
                    case c3 => have := HUL.out; unfold maxLen; first | omega | (simp only [List.length_nil]; omega)
                    case c4 => have := HUL.out; first | omega | (simp only [List.length_nil]; omega)
                    intro gg cap4 w7 hown hgrow hat hlt5
                    have hg5 : w5.grownBy w7 (Value.slice A8 (us).length cap8).ownBlock := grown_trans (grown_below (below_new w5 _) _) hgrow
                    have hown5 : w7.ownsRow W.heap.size 33 1 (.slice (some ⟨gg, 0, none⟩) ((us) ++ [Value.slice Aw gw capw]).length cap4) ((us) ++ [Value.slice Aw gw capw]).length ((us) ++ [Value.slice Aw gw capw]) := by
                      rw [List.length_append]; exact hown
                    have hh := LX.rows H.out hg5 hown5 (fun j hj => by
                      have hj2 : gg = j := by simpa [Value.ownBlock] using hj
                      rcases hat with h | h
                      · exact .inl (by rw [h, hj2])
                      · exact .inr (by omega))
                    replace H := Lib.hid hh
                    clear hg5 hown5 hh hown hgrow hat hlt5 HW2 hi hz0 hz1 hz2
                    have hlen1 : (us).length + 1 = ((us) ++ [Value.slice Aw gw capw]).length := by simp
                    go_wp2_with fail
                    go_meet
                    exact ⟨E, Y, vl2, _, g2, s3, us ++ [Value.slice Aw gw capw], M ++ [g.rows], rfl, by rw [hlen1], H.out, HAF.out⟩
                · have HUL : Hid (us.length ≤ 100) := Lib.hid (by have := HP.out.li.len; have := HP.out.mn; omega)
                  have HC := Lib.hid (xFlush H.out (by have := HP.out.gi.ex; omega) (by have := HP.out.gi.pe; omega) HP.out.gi.su)
                  have haf0 := fun h0 => HP.out.flush0 hk30 HEL.out h0
                  have haf1 := fun h0 => HP.out.flush1 hk30 HEL.out h0
                  obtain ⟨⟨E, g2, s3⟩, hr⟩ : ∃ q, g.flush s2 = q := ⟨_, rfl⟩
                  rw [hr] at HC haf0 haf1
                  simp only at haf0 haf1
                  have HA0 := Lib.hid haf0
                  have HA1 := Lib.hid haf1
                  clear hr haf0 haf1 H
                  go_wp2_with fail
                  refine HC.out.mono ?_; rintro e w5 ⟨rfl, vl2, h5⟩
                  simp only at h5
                  have H := Lib.hid h5; clear h5 HC x0 x1 x2 x3 x4
                  by_cases hE : E = 0
                  · subst hE
                    have HAF := Lib.hid (HA0.out rfl)
                    replace H := Lib.hid H.out.nil7
                    obtain ⟨A8, hA8⟩ : ∃ A8 : Option Addr, A8 = none := ⟨_, rfl⟩
                    obtain ⟨cap8, hcap8⟩ : ∃ c : Nat, c = 0 := ⟨_, rfl⟩
                    clear HA0 HA1 HUL
                    have HUL : Hid (([] : List Value).length ≤ 100) := Lib.hid (by decide)
                    obtain ⟨i0, hi, hz0, hz1, hz2⟩ := info_parts infoSS
                    have HW2 : Hid (W.heap.size ≤ (w5.alloc (.cells #[Value.slice Aw gw capw] 33)).heap.size) := Lib.hid (by have := H.out.bel.size; simp; omega)
                    go_wp2_with (at_builtin; refine wpList_append_lies _ rfl _ _ 32 rfl W.heap.size 33 i0 (.slice none 0 0) 1 24 Try.underlying32 hi hz0 hz1 hz2 rfl (by decide) _ _ _ rfl (H.out.own.alloc _) ⟨w5.heap.size, 0, none⟩ 1 1 [Value.slice Aw gw capw] rfl rfl ?c1 ?c2 (by decide) ?c3 ?c4 HW2.out (w5.heap.size + 1) (by simp) ?_)
                    case c1 =>
                      intro i y hy
                      rw [Addr.add_lit, Nat.zero_add, (Blk.new w5 33 #[Value.slice Aw gw capw]).cell]
                      simpa using hy
                    case c2 => intro y hy; rw [List.mem_singleton] at hy; rw [hy]; rfl
                    case c3 => have := HUL.out; unfold maxLen; first | omega | (simp only [List.length_nil]; omega)
                    case c4 => have := HUL.out; first | omega | (simp only [List.length_nil]; omega)
                    intro gg cap4 w7 hown hgrow hat hlt5
                    have hg5 : w5.grownBy w7 (Value.slice none 0 0).ownBlock := grown_trans (grown_below (below_new w5 _) _) hgrow
                    have hown5 : w7.ownsRow W.heap.size 33 1 (.slice (some ⟨gg, 0, none⟩) (([] : List Value) ++ [Value.slice Aw gw capw]).length cap4) (([] : List Value) ++ [Value.slice Aw gw capw]).length (([] : List Value) ++ [Value.slice Aw gw capw]) := by
                      rw [List.length_append]; exact hown
                    have hh := LX.rows H.out hg5 hown5 (fun j hj => by
                      have hj2 : gg = j := by simpa [Value.ownBlock] using hj
                      rcases hat with h | h
                      · exact .inl (by rw [h, hj2])
                      · exact .inr (by omega))
                    replace H := Lib.hid hh
                    clear hg5 hown5 hh hown hgrow hat hlt5 HW2 hi hz0 hz1 hz2
                    have hlen1 : ([] : List Value).length + 1 = (([] : List Value) ++ [Value.slice Aw gw capw]).length := by simp
                    go_wp2_with fail
                    go_meet
                    exact ⟨0, Y, vl2, _, g2, s3, [] ++ [Value.slice Aw gw capw], [g.rows], rfl, rfl, H.out, HAF.out⟩
                  · have HAF := Lib.hid (HA1.out hE)
                    have hE0 : (E == 0) = false := by rw [beq_eq_false_iff_ne]; exact hE
                    have HEN := Lib.hid hE
                    clear HA0 HA1 hE
                    obtain ⟨A8, rfl⟩ : ∃ A8, A8 = A7 := ⟨_, rfl⟩
                    obtain ⟨cap8, rfl⟩ : ∃ c, c = cap7 := ⟨_, rfl⟩
                    obtain ⟨i0, hi, hz0, hz1, hz2⟩ := info_parts infoSS
                    have HW2 : Hid (W.heap.size ≤ (w5.alloc (.cells #[Value.slice Aw gw capw] 33)).heap.size) := Lib.hid (by have := H.out.bel.size; simp; omega)
                    go_wp2_with (at_builtin; refine wpList_append_lies _ rfl _ _ 32 rfl W.heap.size 33 i0 (.slice none 0 0) 1 24 Try.underlying32 hi hz0 hz1 hz2 rfl (by decide) _ _ _ rfl (H.out.own.alloc _) ⟨w5.heap.size, 0, none⟩ 1 1 [Value.slice Aw gw capw] rfl rfl ?c1 ?c2 (by decide) ?c3 ?c4 HW2.out (w5.heap.size + 1) (by simp) ?_)
                    case c1 =>
                      intro i y hy
                      rw [Addr.add_lit, Nat.zero_add, (Blk.new w5 33 #[Value.slice Aw gw capw]).cell]
                      simpa using hy
                    case c2 => intro y hy; rw [List.mem_singleton] at hy; rw [hy]; rfl
                    case c3 => have := HUL.out; unfold maxLen; first | omega | (simp only [List.length_nil]; omega)
                    case c4 => have := HUL.out; first | omega | (simp only [List.length_nil]; omega)
                    intro gg cap4 w7 hown hgrow hat hlt5
                    have hg5 : w5.grownBy w7 (Value.slice A8 (us).length cap8).ownBlock := grown_trans (grown_below (below_new w5 _) _) hgrow
                    have hown5 : w7.ownsRow W.heap.size 33 1 (.slice (some ⟨gg, 0, none⟩) ((us) ++ [Value.slice Aw gw capw]).length cap4) ((us) ++ [Value.slice Aw gw capw]).length ((us) ++ [Value.slice Aw gw capw]) := by
                      rw [List.length_append]; exact hown
                    have hh := LX.rows H.out hg5 hown5 (fun j hj => by
                      have hj2 : gg = j := by simpa [Value.ownBlock] using hj
                      rcases hat with h | h
                      · exact .inl (by rw [h, hj2])
                      · exact .inr (by omega))
                    replace H := Lib.hid hh
                    clear hg5 hown5 hh hown hgrow hat hlt5 HW2 hi hz0 hz1 hz2
                    have hlen1 : (us).length + 1 = ((us) ++ [Value.slice Aw gw capw]).length := by simp
                    go_wp2_with fail
                    go_meet
                    exact ⟨E, Y, vl2, _, g2, s3, us ++ [Value.slice Aw gw capw], M ++ [g.rows], rfl, by rw [hlen1], H.out, HAF.out⟩
                · have HUL : Hid (us.length ≤ 100) := Lib.hid (by have := HP.out.li.len; have := HP.out.mn; omega)
                  have HC := Lib.hid (xRewrite H.out (.slice Ar rs.length capr) rs HUR.out ⟨by rw [HP.out.gi.fi]; decide, by rw [HP.out.gi.fi]; decide⟩ (by have := HXR.out; omega) (by have := HP.out.gi.pe; have := HXR.out; omega))
                  have haf0 := fun h0 => HP.out.rewrite0 hk30 rs HXR.out (.inl HUR.out) h0
                  have haf1 := fun h0 => HP.out.rewrite1 hk30 rs HXR.out (.inl HUR.out) h0
                  obtain ⟨⟨E, g2, s3⟩, hr⟩ : ∃ q, g.rewrite s2 rs = q := ⟨_, rfl⟩
                  rw [hr] at HC haf0 haf1
                  simp only at haf0 haf1
                  have HA0 := Lib.hid haf0
                  have HA1 := Lib.hid haf1
                  clear hr haf0 haf1 H
                  go_wp2_with fail
                  refine HC.out.mono ?_; rintro e w5 ⟨rfl, vl2, h5⟩
                  simp only at h5
                  have H := Lib.hid h5; clear h5 HC x0 x1 x2 x3 x4
                  have hbx : Blk w5 wr.heap.size 35 #[.int .i64 o, .string row, .slice Ar rs.length capr, .slice Ak ks.length capk, .int .i64 nn] := H.out.box (HY.out _ List.mem_cons_self)
                  have x2 := hbx.cell 2
                  simp at x2
                  clear hbx
                  by_cases hE : E = 0
                  · subst hE
                    have HAF := Lib.hid (HA0.out rfl)
                    replace H := Lib.hid H.out.nil7
                    obtain ⟨A8, hA8⟩ : ∃ A8 : Option Addr, A8 = none := ⟨_, rfl⟩
                    obtain ⟨cap8, hcap8⟩ : ∃ c : Nat, c = 0 := ⟨_, rfl⟩
                    clear HA0 HA1 HUL
                    have HUL : Hid (([] : List Value).length ≤ 100) := Lib.hid (by decide)
                    obtain ⟨i0, hi, hz0, hz1, hz2⟩ := info_parts infoSS
                    have HW2 : Hid (W.heap.size ≤ (w5.alloc (.cells #[Value.slice Ar rs.length capr] 33)).heap.size) := Lib.hid (by have := H.out.bel.size; simp; omega)
                    go_wp2_with (at_builtin; refine wpList_append_lies _ rfl _ _ 32 rfl W.heap.size 33 i0 (.slice none 0 0) 1 24 Try.underlying32 hi hz0 hz1 hz2 rfl (by decide) _ _ _ rfl (H.out.own.alloc _) ⟨w5.heap.size, 0, none⟩ 1 1 [Value.slice Ar rs.length capr] rfl rfl ?c1 ?c2 (by decide) ?c3 ?c4 HW2.out (w5.heap.size + 1) (by simp) ?_)
                    case c1 =>
                      intro i y hy
                      rw [Addr.add_lit, Nat.zero_add, (Blk.new w5 33 #[Value.slice Ar rs.length capr]).cell]
                      simpa using hy
                    case c2 => intro y hy; rw [List.mem_singleton] at hy; rw [hy]; rfl
                    case c3 => have := HUL.out; unfold maxLen; first | omega | (simp only [List.length_nil]; omega)
                    case c4 => have := HUL.out; first | omega | (simp only [List.length_nil]; omega)
                    intro gg cap4 w7 hown hgrow hat hlt5
                    have hg5 : w5.grownBy w7 (Value.slice none 0 0).ownBlock := grown_trans (grown_below (below_new w5 _) _) hgrow
                    have hown5 : w7.ownsRow W.heap.size 33 1 (.slice (some ⟨gg, 0, none⟩) (([] : List Value) ++ [Value.slice Ar rs.length capr]).length cap4) (([] : List Value) ++ [Value.slice Ar rs.length capr]).length (([] : List Value) ++ [Value.slice Ar rs.length capr]) := by
                      rw [List.length_append]; exact hown
                    have hh := LX.rows H.out hg5 hown5 (fun j hj => by
                      have hj2 : gg = j := by simpa [Value.ownBlock] using hj
                      rcases hat with h | h
                      · exact .inl (by rw [h, hj2])
                      · exact .inr (by omega))
                    replace H := Lib.hid hh
                    clear hg5 hown5 hh hown hgrow hat hlt5 HW2 hi hz0 hz1 hz2
                    have hlen1 : ([] : List Value).length + 1 = (([] : List Value) ++ [Value.slice Ar rs.length capr]).length := by simp
                    go_wp2_with fail
                    go_meet
                    exact ⟨0, Y, vl2, _, g2, s3, [] ++ [Value.slice Ar rs.length capr], [rs], rfl, rfl, H.out, HAF.out⟩
                  · have HAF := Lib.hid (HA1.out hE)
                    have hE0 : (E == 0) = false := by rw [beq_eq_false_iff_ne]; exact hE
                    have HEN := Lib.hid hE
                    clear HA0 HA1 hE
                    obtain ⟨A8, rfl⟩ : ∃ A8, A8 = A7 := ⟨_, rfl⟩
                    obtain ⟨cap8, rfl⟩ : ∃ c, c = cap7 := ⟨_, rfl⟩
                    obtain ⟨i0, hi, hz0, hz1, hz2⟩ := info_parts infoSS
                    have HW2 : Hid (W.heap.size ≤ (w5.alloc (.cells #[Value.slice Ar rs.length capr] 33)).heap.size) := Lib.hid (by have := H.out.bel.size; simp; omega)
                    go_wp2_with (at_builtin; refine wpList_append_lies _ rfl _ _ 32 rfl W.heap.size 33 i0 (.slice none 0 0) 1 24 Try.underlying32 hi hz0 hz1 hz2 rfl (by decide) _ _ _ rfl (H.out.own.alloc _) ⟨w5.heap.size, 0, none⟩ 1 1 [Value.slice Ar rs.length capr] rfl rfl ?c1 ?c2 (by decide) ?c3 ?c4 HW2.out (w5.heap.size + 1) (by simp) ?_)
                    case c1 =>
                      intro i y hy
                      rw [Addr.add_lit, Nat.zero_add, (Blk.new w5 33 #[Value.slice Ar rs.length capr]).cell]
                      simpa using hy
                    case c2 => intro y hy; rw [List.mem_singleton] at hy; rw [hy]; rfl
                    case c3 => have := HUL.out; unfold maxLen; first | omega | (simp only [List.length_nil]; omega)
                    case c4 => have := HUL.out; first | omega | (simp only [List.length_nil]; omega)
                    intro gg cap4 w7 hown hgrow hat hlt5
                    have hg5 : w5.grownBy w7 (Value.slice A8 (us).length cap8).ownBlock := grown_trans (grown_below (below_new w5 _) _) hgrow
                    have hown5 : w7.ownsRow W.heap.size 33 1 (.slice (some ⟨gg, 0, none⟩) ((us) ++ [Value.slice Ar rs.length capr]).length cap4) ((us) ++ [Value.slice Ar rs.length capr]).length ((us) ++ [Value.slice Ar rs.length capr]) := by
                      rw [List.length_append]; exact hown
                    have hh := LX.rows H.out hg5 hown5 (fun j hj => by
                      have hj2 : gg = j := by simpa [Value.ownBlock] using hj
                      rcases hat with h | h
                      · exact .inl (by rw [h, hj2])
                      · exact .inr (by omega))
                    replace H := Lib.hid hh
                    clear hg5 hown5 hh hown hgrow hat hlt5 HW2 hi hz0 hz1 hz2
                    have hlen1 : (us).length + 1 = ((us) ++ [Value.slice Ar rs.length capr]).length := by simp
                    go_wp2_with fail
                    go_meet
                    exact ⟨E, Y, vl2, _, g2, s3, us ++ [Value.slice Ar rs.length capr], M ++ [rs], rfl, by rw [hlen1], H.out, HAF.out⟩
                · have HAF := Lib.hid (HP.out.crash ks)
                  have HC := Lib.hid (xCrash H.out _ ks (HUK.out.keep H.out.bel) (by have := HKL.out; unfold maxLen; omega))
                  clear H
                  go_wp2_with fail
                  refine HC.out.mono ?_; rintro e w5 ⟨rfl, h5⟩
                  have H := Lib.hid h5; clear h5 HC x0 x1 x2 x3 x4
                  go_wp2_with fail
                  go_meet
                  exact ⟨10, Y, vl, _, g, s2.crash ks, us, M, rfl, rfl, H.out, HAF.out⟩
                · have HPK := Lib.hid (fun w => pick3P nn HNN.out.1 HNN.out.2 w)
                  have HN3 : Hid (nn % 3 ≤ 9223372036854775807) := Lib.hid (by omega)
                  obtain ⟨N3, hN3⟩ : ∃ N, nn % 3 = N := ⟨_, rfl⟩
                  rw [hN3] at HPK HN3
                  clear hN3
                  have HAF := Lib.hid (HP.out.lose N3)
                  have HC := Lib.hid (xLose H.out N3 HN3.out)
                  clear H
                  go_wp2_with fail
                  refine (HPK.out _).mono ?_; rintro e w1 ⟨rfl, rfl⟩
                  go_wp2_with fail
                  refine HC.out.mono ?_; rintro e w5 ⟨rfl, h5⟩
                  have H := Lib.hid h5; clear h5 HC HPK x0 x1 x2 x3 x4
                  go_wp2_with fail
                  go_meet
                  exact ⟨0, Y, vl, _, g, s2.lose N3, us, M, rfl, rfl, H.out, HAF.out⟩
              case rest =>
                obtain ⟨E, Z, vl3, v3, g3, s3, us3, M3, rfl, rfl, h6, ha⟩ := hcut
                have H := Lib.hid h6; have HAF := Lib.hid ha; clear h6 ha
                clear x0 x1 x2 x3 x4 HX HP0 HP HEL HY HBB
                obtain ⟨w6, rfl⟩ : ∃ w, w = wc := ⟨_, rfl⟩
                by_cases hE : E = 10
                · obtain ⟨R, hRM, hRe⟩ := HAF.out.dead hE H.out.ok
                  subst hE
                  have HRM := Lib.hid hRM; have HRE := Lib.hid hRe; clear hRM hRe
                  have HC := Lib.hid (xArm H.out 0 (by decide) (.slice none 0 0) [] (irow_nil _ _) (by decide))
                  go_wp2_with fail
                  refine HC.out.mono ?_; rintro e w7 ⟨rfl, h7⟩
                  replace H := Lib.hid h7; clear h7 HC
                  have HC := Lib.hid (xLose H.out 0 (by decide))
                  go_wp2_with fail
                  refine HC.out.mono ?_; rintro e w8 ⟨rfl, h7⟩
                  replace H := Lib.hid h7; clear h7 HC
                  have HC := Lib.hid (xStart H.out)
                  go_wp2_with fail
                  refine HC.out.mono ?_; rintro e w9 ⟨rfl, h7⟩
                  replace H := Lib.hid h7; clear h7 HC
                  obtain ⟨s4, hs4⟩ : ∃ s4, ((s3.arm 0 []).lose 0).start = s4 := ⟨_, rfl⟩
                  rw [hs4] at H HRE; clear hs4
                  have HC := Lib.hid (xOpen H.out R HRE.out)
                  go_wp2_with fail
                  refine HC.out.mono ?_; rintro e w10 ⟨lb2, vl4, rfl, h7⟩
                  replace H := Lib.hid h7; clear h7 HC
                  have HC := Lib.hid (xSure H.out)
                  simp only at HC
                  have HC2 := Lib.hid (xAll H.out)
                  unfold XA at HC2
                  simp only at HC2
                  have hq : ((R.length : Int) != (R.length : Int)) = false := by simp
                  have HRL : Hid (R.length ≤ 1000000000) := Lib.hid (HAF.out.ml R HRM.out)
                  go_wp2_with fail
                  refine HC.out.mono ?_; rintro e w11 ⟨rfl, rfl⟩
                  go_wp2_with fail
                  refine HC2.out.mono ?_; rintro e w11 ⟨A5, cap5, Z5, rfl, h7, hZ5, -⟩
                  replace H := Lib.hid h7; have HLI := Lib.hid (HAF.out.li.mono hZ5); clear h7 hZ5 HC HC2
                  have HC2 := Lib.hid (xAll H.out)
                  unfold XA at HC2
                  simp only at HC2
                  go_wp2_with fail
                  refine HC2.out.mono ?_; rintro e w12 ⟨A6, cap6, Z6, rfl, h7, hZ6, hel⟩
                  replace H := Lib.hid h7; replace HLI := Lib.hid (HLI.out.mono hZ6); have HEL := Lib.hid hel; clear h7 hZ6 hel HC2 hq
                  have HC := Lib.hid (foundP R M3 us3 (.slice A6 R.length cap6) _ w12 (HEL.out.row H.out) (Row.of_own H.out.own) HLI.out.len (fun i y hy => by obtain ⟨l, h1, h2⟩ := HLI.out.at_ i y hy; exact ⟨l, h1, h2.row H.out⟩) (by have := HRL.out; omega) (fun l hl => by have := HAF.out.ml l hl; omega) (by have := HAF.out.mn; omega) HRM.out)
                  go_wp2_with fail
                  refine HC.out.mono ?_; rintro e w13 ⟨rfl, hb⟩
                  replace H := Lib.hid (H.out.below hb); clear hb HC
                  have H9 := Lib.hid (H.out.one (.slice A6 R.length cap6))
                  have HPN := Lib.hid (HRE.out.next k HEL.out)
                  clear H HLI HAF HEL HRE HRM
                  go_wp2_with fail
                  go_roundg (l.length - (k + 1))
                  case measure => rw [HG.out]; omega
                  case rel => exact ⟨k + 1, A2, lb2, Z6, vl4, _, _, s4, _, [R], rfl, rfl, rfl, by go_num, by omega, rfl, hA2, H9.out, HPN.out⟩
                · have hE1 : (E != 10) = true := by rw [bne_iff_ne]; exact hE
                  have HPN := Lib.hid (HAF.out.next hE)
                  clear HAF hE
                  go_wp2_with fail
                  go_roundg (l.length - (k + 1))
                  case measure => rw [HG.out]; omega
                  case rel => exact ⟨k + 1, A2, lb, Z, vl3, _, g3, s3, us3, M3, rfl, rfl, rfl, by go_num, by omega, rfl, hA2, H.out, HPN.out⟩
        · obtain rfl : k = l.length := by omega
          have HE := Lib.hid HL.out.bel
          clear HL hlt HP00
          go_wp2_with fail
          go_ret
          exact ⟨rfl, HE.out⟩
end Go.Proofs.Ytognomkhkoiabaa.journalLasts
