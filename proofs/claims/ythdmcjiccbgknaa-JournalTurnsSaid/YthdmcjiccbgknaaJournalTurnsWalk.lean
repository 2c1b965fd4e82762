/-
  The walk of the law JournalTurns.
-/
import Derived.Test.YthdmcjiccbgknaaJ28
namespace Go.Proofs.Ythdmcjiccbgknaa.journalTurns
set_option linter.unusedVariables false
set_option linter.unusedSimpArgs false
open Go.RowKit

theorem ext_few (l : List ByteArray) (h1 : l.length ≤ 6) (h2 : ∀ r ∈ l, r.size ≤ 200) : ext l ≤ 1264 := by
  have : ∀ l : List ByteArray, (∀ r ∈ l, r.size ≤ 200) → ext l ≤ 16 + 208 * l.length := fun l => by
    induction l with
    | nil => intro _; simp [ext]
    | cons a l ih =>
      intro h
      have h1 := ih fun r hr => h r (by simp [hr])
      have h2 := h a (by simp)
      unfold ext at *
      simp only [List.map_cons, List.sum_cons, List.length_cons]
      omega
  have := this l h2
  omega
set_option maxRecDepth 100000 in
set_option maxHeartbeats 0 in
theorem walk (W : World) (v0 : Value) (old : List ByteArray) (v1 : Value) (rows : List ByteArray) (n : Int) (v3 : Value) (keep : List Int) (w0 : Row W W.heap.size v0 (sv old)) (w1 : Row W W.heap.size v1 (sv rows)) (w2 : (Lit.int .i64 n).wf = true) (w3 : IRow W W.heap.size v3 keep ∧ ∀ z ∈ keep, -9223372036854775808 ≤ z ∧ z ≤ 9223372036854775807) :
    Calls Try.prog 7 #[v0, v1, .int .i64 n, v3] W fun e w' => e = .returned (.bool true) ∧ Below W.heap.size W w' := by
  have hn := int_wf w2
  replace w3 := w3.1
  obtain ⟨A0, cap0, e0, -⟩ := id w0
  obtain ⟨A1, cap1, e1, -⟩ := id w1
  obtain ⟨A3, cap3, e3, -⟩ := id w3
  rw [sv_length] at e0 e1
  subst e0; subst e1; subst e3
  have HR0 := Lib.hid w0
  have HR1 := Lib.hid w1
  have HK := Lib.hid w3
  have HS := Lib.hid (small7 W)
  have HPK := Lib.hid (fun w => pick5P n hn.1 hn.2 w)
  clear w0 w1 w2 w3
  obtain ⟨P, hP⟩ : ∃ P, n % 5 = P := ⟨_, rfl⟩
  have hP0 : 0 ≤ P ∧ P < 5 := by omega
  obtain ⟨hP1, hP2⟩ := hP0
  rw [hP] at HPK
  clear hP hn
  go_enter Try.func7, Try.ntmps7
  go_wp2_with fail
  refine HS.out.mono ?_; rintro e w2 ⟨rfl, hb2⟩
  have HB2 := Lib.hid hb2
  have HF := Lib.hid (few7P _ [⟨0, bs [], old, keep, 0⟩, ⟨0, bs [], rows, [], 0⟩] _ (erow2 (HR0.out.keep hb2) (HR1.out.keep hb2) (HK.out.keep hb2)) (by simp))
  have HB2b := Lib.hid (hb2.trans ((below_new w2 (.cells #[.int .i64 0, .string (bs []), .slice A0 old.length cap0, .slice A3 keep.length cap3, .int .i64 0, .int .i64 0, .string (bs []), .slice A1 rows.length cap1, .slice none 0 0, .int .i64 0] 39)).mono hb2.size))
  clear hb2 HS
  rcases hfew : fewB7 [⟨0, bs [], old, keep, 0⟩, ⟨0, bs [], rows, [], 0⟩]
  · rw [hfew] at HF
    clear hfew
    go_wp2_with fail
    refine HF.out.mono ?_; rintro e w3 ⟨rfl, rfl⟩
    go_wp2_with fail
    go_ret
    exact ⟨rfl, HB2b.out⟩
  · rw [hfew] at HF
    obtain ⟨-, hok⟩ := fewB7_parts hfew
    have ok0 := hok 0 (by simp)
    have ok1 := hok 1 (by simp)
    have HXO : Hid (ext old ≤ 1264) := Lib.hid (ext_few old ok0.rows ok0.each)
    have HXR : Hid (ext rows ≤ 1264) := Lib.hid (ext_few rows ok1.rows ok1.each)
    have HKL : Hid (keep.length ≤ 60) := Lib.hid ok0.keep
    have HLN : Hid (old.length ≤ 6 ∧ rows.length ≤ 6) := Lib.hid ⟨ok0.rows, ok1.rows⟩
    clear hok hfew ok0 ok1
    go_wp2_with fail
    refine HF.out.mono ?_; rintro e w3 ⟨rfl, rfl⟩
    clear HF
    have HC := Lib.hid (dNew (w2.alloc (.cells #[.int .i64 0, .string (bs []), .slice A0 old.length cap0, .slice A3 keep.length cap3, .int .i64 0, .int .i64 0, .string (bs []), .slice A1 rows.length cap1, .slice none 0 0, .int .i64 0] 39)))
    go_wp2_with fail
    refine HC.out.mono ?_; rintro e w3 ⟨db, rfl, h3⟩
    have HD := Lib.hid (h3.base HB2b.out); clear h3 HC HB2 HB2b
    have HC := Lib.hid (jOpen HD.out 5 (by decide) (bs []) [] (read_of dk0 5 (by decide) rfl) (by decide) (by decide +kernel))
    go_wp2_with fail
    refine HC.out.mono ?_; rintro e w4 ⟨lb, v4, rfl, h4, -⟩
    have HL := Lib.hid h4; clear h4 HC HD
    obtain ⟨s1, hs1, hu1, hp1⟩ := rw_ok (rewrite_up (g := ⟨5, [], ([] : List ByteArray).length⟩) (up0 5 (by decide)) rfl (by omega) rfl old (by have := HXO.out; omega))
    have HC := Lib.hid (jRewriteO HL.out _ old HR0.out ⟨by show (0 : Int) ≤ 5; decide, by show (5 : Int) ≤ 6; decide⟩ (by have := HXO.out; omega) (by show 0 + ext old ≤ _; have := HXO.out; omega))
    rw [hs1] at HC
    have HU1 := Lib.hid hu1
    have HP1 := Lib.hid hp1
    clear hs1 hu1 hp1
    go_wp2_with fail
    refine HC.out.mono ?_; rintro e w5 ⟨rfl, v5, h5⟩
    simp only at h5
    replace HL := Lib.hid h5; clear h5 HC
    go_wp2_with fail
    refine (HPK.out _).mono ?_; rintro e w5' ⟨rfl, rfl⟩
    clear HPK
    have HC := Lib.hid (jArm HL.out (1 + P) (by omega) _ keep (HK.out.keep HL.out.2) (by have := HKL.out; omega))
    go_wp2_with fail
    refine HC.out.mono ?_; rintro e w6 ⟨rfl, h6⟩
    replace HL := Lib.hid h6; clear h6 HC
    have hrw := rewrite_up (g := ⟨((5 : Nat) : Int), old, old.length⟩) (HU1.out.arm (1 + P) keep) HP1.out (by omega) rfl rows (by have := HXR.out; omega)
    have HC := Lib.hid (jRewriteO HL.out _ rows HR1.out ⟨by show (0 : Int) ≤ 5; decide, by show (5 : Int) ≤ 6; decide⟩ (by have := HXR.out; omega) (by rw [show (s1.arm (1 + P) keep).pend = [] from HP1.out]; have := HXR.out; simp only [List.length_nil]; omega))
    obtain ⟨⟨E, g3, s3⟩, hr⟩ : ∃ r, (⟨((5 : Nat) : Int), old, old.length⟩ : Lg).rewrite (s1.arm (1 + P) keep) rows = r := ⟨_, rfl⟩
    rw [hr] at HC hrw
    have hcs := hrw.cases_
    simp only at hcs
    clear hrw hr HU1 HP1
    rcases hcs with ⟨rfl, -, hdn⟩ | ⟨rfl, -, hup, hpe⟩
    · have HN3 := Lib.hid hdn
      clear hdn
      go_wp2_with fail
      refine HC.out.mono ?_; rintro e w7 ⟨rfl, v7, h7⟩
      simp only at h7
      have HD := Lib.hid h7.dsk; clear h7 HC HL
      have HC := Lib.hid (dArm HD.out 0 (by decide) (.slice none 0 0) [] (irow_nil _ _) (by decide))
      go_wp2_with fail
      refine HC.out.mono ?_; rintro e w7b ⟨rfl, h7⟩
      replace HD := Lib.hid h7; clear h7 HC
      have HC := Lib.hid (dStart HD.out)
      go_wp2_with fail
      refine HC.out.mono ?_; rintro e w7c ⟨rfl, h7⟩
      replace HD := Lib.hid h7; clear h7 HC
      have HU5 := Lib.hid (HN3.out.up [])
      have HP5 : Hid (((s3.arm 0 []).start).pend = []) := Lib.hid HN3.out.pe
      obtain ⟨s5, hs5⟩ : ∃ s5, (s3.arm 0 []).start = s5 := ⟨_, rfl⟩
      rw [hs5] at HD HU5 HP5
      clear hs5 HN3
      have HC := Lib.hid (jOpen HD.out 5 (by decide) (whl old) old (HU5.out.read HP5.out (by decide)) (by rw [whl_size]; have := HXO.out; omega) (parse_whl old (by have := HXO.out; omega)))
      go_wp2_with fail
      refine HC.out.mono ?_; rintro e w8 ⟨mb, v8, rfl, h8, -⟩
      have HL := Lib.hid h8; clear h8 HC HD
      have HC := Lib.hid (jAll HL.out)
      go_wp2_with fail
      refine HC.out.mono ?_; rintro e w9 ⟨u9, rfl, hu, hb⟩
      have HV := Lib.hid hu
      replace HL := Lib.hid (HL.out.below hb)
      clear hu hb HC
      have HC := Lib.hid (sameP old old u9 _ w9 HV.out (HR0.out.keep HL.out.2) (by have := HLN.out; omega) (by have := HLN.out; omega))
      obtain ⟨q1, hq1⟩ : ∃ q, decide (old = old) = q := ⟨_, rfl⟩
      rw [hq1] at HC
      have HQ1 := Lib.hid hq1
      clear hq1
      go_wp2_with fail
      refine HC.out.mono ?_; rintro e w10 ⟨rfl, hb⟩
      replace HL := Lib.hid (HL.out.below hb)
      clear hb HC HV
      have HC := Lib.hid (jAll HL.out)
      go_wp2_with fail
      refine HC.out.mono ?_; rintro e w11 ⟨u11, rfl, hu, hb⟩
      have HV := Lib.hid hu
      replace HL := Lib.hid (HL.out.below hb)
      clear hu hb HC
      have HC := Lib.hid (sameP old rows u11 _ w11 HV.out (HR1.out.keep HL.out.2) (by have := HLN.out; omega) (by have := HLN.out; omega))
      obtain ⟨q2, hq2⟩ : ∃ q, decide (old = rows) = q := ⟨_, rfl⟩
      rw [hq2] at HC
      have HQ2 := Lib.hid hq2
      clear hq2
      go_wp2_with fail
      refine HC.out.mono ?_; rintro e w12 ⟨rfl, hb⟩
      replace HL := Lib.hid (HL.out.below hb)
      clear hb HC HV
      have hrw := rewrite_up (g := ⟨5, old, (old).length⟩) HU5.out HP5.out (by omega) rfl rows (by have := HXR.out; omega)
      obtain ⟨s6, hs6, hu6, hp6⟩ := rw_ok hrw
      have HU6 := Lib.hid hu6
      have HP6 := Lib.hid hp6
      have HC := Lib.hid (jRewriteO HL.out _ rows HR1.out ⟨by show (0 : Int) ≤ 5; decide, by show (5 : Int) ≤ 6; decide⟩ (by have := HXR.out; omega) (by rw [HP5.out]; have := HXR.out; simp only [List.length_nil]; omega))
      rw [hs6] at HC
      clear hrw hs6 hu6 hp6
      have hq1t : q1 = true := by rw [← HQ1.out]; simp
      subst hq1t
      go_wp2_with fail
      refine HC.out.mono ?_; rintro e w13 ⟨rfl, v13, h13⟩
      simp only at h13
      have HD := Lib.hid h13.dsk; clear h13 HC HL
      have HC := Lib.hid (dCrash HD.out _ keep (HK.out.keep HD.out.2))
      have HN := Lib.hid (crash_dn HU6.out.dn HU6.out.lo HU6.out.d5 (by decide) (nopend HP6.out) keep)
      go_wp2_with fail
      refine HC.out.mono ?_; rintro e w14 ⟨rfl, h14⟩
      replace HD := Lib.hid h14; clear h14 HC
      have HC := Lib.hid (dStart HD.out)
      go_wp2_with fail
      refine HC.out.mono ?_; rintro e w15 ⟨rfl, h15⟩
      replace HD := Lib.hid h15; clear h15 HC
      have HC := Lib.hid (jOpen HD.out 5 (by decide) (whl rows) rows (HN.out.start.read HN.out.pe (by decide)) (by rw [whl_size]; have := HXR.out; omega) (parse_whl rows (by have := HXR.out; omega)))
      go_wp2_with fail
      refine HC.out.mono ?_; rintro e w16 ⟨cb, v16, rfl, h16, -⟩
      have HL := Lib.hid h16; clear h16 HC HD
      have HC := Lib.hid (jAll HL.out)
      go_wp2_with fail
      refine HC.out.mono ?_; rintro e w17 ⟨u17, rfl, hu, hb⟩
      have HV := Lib.hid hu
      replace HL := Lib.hid (HL.out.below hb)
      clear hu hb HC
      have HC := Lib.hid (sameP rows rows u17 _ w17 HV.out (HR1.out.keep HL.out.2) (by have := HLN.out; omega) (by have := HLN.out; omega))
      rw [decide_eq_true rfl] at HC
      go_wp2_with fail
      refine HC.out.mono ?_; rintro e w18 ⟨rfl, hb⟩
      have HE := Lib.hid (HL.out.below hb).2
      clear hb HC HL HV
      go_wp2_with fail
      go_ret
      exact ⟨rfl, HE.out⟩
    · have HN3 := Lib.hid hup
      have HPE3 := Lib.hid hpe
      clear hup hpe
      go_wp2_with fail
      refine HC.out.mono ?_; rintro e w7 ⟨rfl, v7, h7⟩
      simp only at h7
      have HD := Lib.hid h7.dsk; clear h7 HC HL
      have HC := Lib.hid (dArm HD.out 0 (by decide) (.slice none 0 0) [] (irow_nil _ _) (by decide))
      go_wp2_with fail
      refine HC.out.mono ?_; rintro e w7b ⟨rfl, h7⟩
      replace HD := Lib.hid h7; clear h7 HC
      have HU5 := Lib.hid (HN3.out.arm 0 [])
      have HP5 : Hid ((s3.arm 0 []).pend = []) := Lib.hid HPE3.out
      obtain ⟨s5, hs5⟩ : ∃ s5, s3.arm 0 [] = s5 := ⟨_, rfl⟩
      rw [hs5] at HD HU5 HP5
      clear hs5 HN3 HPE3
      have HC := Lib.hid (jOpen HD.out 5 (by decide) (whl rows) rows (HU5.out.read HP5.out (by decide)) (by rw [whl_size]; have := HXR.out; omega) (parse_whl rows (by have := HXR.out; omega)))
      go_wp2_with fail
      refine HC.out.mono ?_; rintro e w8 ⟨mb, v8, rfl, h8, -⟩
      have HL := Lib.hid h8; clear h8 HC HD
      have HC := Lib.hid (jAll HL.out)
      go_wp2_with fail
      refine HC.out.mono ?_; rintro e w9 ⟨u9, rfl, hu, hb⟩
      have HV := Lib.hid hu
      replace HL := Lib.hid (HL.out.below hb)
      clear hu hb HC
      have HC := Lib.hid (sameP rows old u9 _ w9 HV.out (HR0.out.keep HL.out.2) (by have := HLN.out; omega) (by have := HLN.out; omega))
      obtain ⟨q1, hq1⟩ : ∃ q, decide (rows = old) = q := ⟨_, rfl⟩
      rw [hq1] at HC
      have HQ1 := Lib.hid hq1
      clear hq1
      go_wp2_with fail
      refine HC.out.mono ?_; rintro e w10 ⟨rfl, hb⟩
      replace HL := Lib.hid (HL.out.below hb)
      clear hb HC HV
      have HC := Lib.hid (jAll HL.out)
      go_wp2_with fail
      refine HC.out.mono ?_; rintro e w11 ⟨u11, rfl, hu, hb⟩
      have HV := Lib.hid hu
      replace HL := Lib.hid (HL.out.below hb)
      clear hu hb HC
      have HC := Lib.hid (sameP rows rows u11 _ w11 HV.out (HR1.out.keep HL.out.2) (by have := HLN.out; omega) (by have := HLN.out; omega))
      obtain ⟨q2, hq2⟩ : ∃ q, decide (rows = rows) = q := ⟨_, rfl⟩
      rw [hq2] at HC
      have HQ2 := Lib.hid hq2
      clear hq2
      go_wp2_with fail
      refine HC.out.mono ?_; rintro e w12 ⟨rfl, hb⟩
      replace HL := Lib.hid (HL.out.below hb)
      clear hb HC HV
      have hrw := rewrite_up (g := ⟨5, rows, (rows).length⟩) HU5.out HP5.out (by omega) rfl rows (by have := HXR.out; omega)
      obtain ⟨s6, hs6, hu6, hp6⟩ := rw_ok hrw
      have HU6 := Lib.hid hu6
      have HP6 := Lib.hid hp6
      have HC := Lib.hid (jRewriteO HL.out _ rows HR1.out ⟨by show (0 : Int) ≤ 5; decide, by show (5 : Int) ≤ 6; decide⟩ (by have := HXR.out; omega) (by rw [HP5.out]; have := HXR.out; simp only [List.length_nil]; omega))
      rw [hs6] at HC
      clear hrw hs6 hu6 hp6
      have hq2t : q2 = true := by rw [← HQ2.out]; simp
      subst hq2t
      clear HQ1 HQ2
      cases q1
      · go_wp2_with fail
        refine HC.out.mono ?_; rintro e w13 ⟨rfl, v13, h13⟩
        simp only at h13
        have HD := Lib.hid h13.dsk; clear h13 HC HL
        have HC := Lib.hid (dCrash HD.out _ keep (HK.out.keep HD.out.2))
        have HN := Lib.hid (crash_dn HU6.out.dn HU6.out.lo HU6.out.d5 (by decide) (nopend HP6.out) keep)
        go_wp2_with fail
        refine HC.out.mono ?_; rintro e w14 ⟨rfl, h14⟩
        replace HD := Lib.hid h14; clear h14 HC
        have HC := Lib.hid (dStart HD.out)
        go_wp2_with fail
        refine HC.out.mono ?_; rintro e w15 ⟨rfl, h15⟩
        replace HD := Lib.hid h15; clear h15 HC
        have HC := Lib.hid (jOpen HD.out 5 (by decide) (whl rows) rows (HN.out.start.read HN.out.pe (by decide)) (by rw [whl_size]; have := HXR.out; omega) (parse_whl rows (by have := HXR.out; omega)))
        go_wp2_with fail
        refine HC.out.mono ?_; rintro e w16 ⟨cb, v16, rfl, h16, -⟩
        have HL := Lib.hid h16; clear h16 HC HD
        have HC := Lib.hid (jAll HL.out)
        go_wp2_with fail
        refine HC.out.mono ?_; rintro e w17 ⟨u17, rfl, hu, hb⟩
        have HV := Lib.hid hu
        replace HL := Lib.hid (HL.out.below hb)
        clear hu hb HC
        have HC := Lib.hid (sameP rows rows u17 _ w17 HV.out (HR1.out.keep HL.out.2) (by have := HLN.out; omega) (by have := HLN.out; omega))
        rw [decide_eq_true rfl] at HC
        go_wp2_with fail
        refine HC.out.mono ?_; rintro e w18 ⟨rfl, hb⟩
        have HE := Lib.hid (HL.out.below hb).2
        clear hb HC HL HV
        go_wp2_with fail
        go_ret
        exact ⟨rfl, HE.out⟩
      · go_wp2_with fail
        refine HC.out.mono ?_; rintro e w13 ⟨rfl, v13, h13⟩
        simp only at h13
        have HD := Lib.hid h13.dsk; clear h13 HC HL
        have HC := Lib.hid (dCrash HD.out _ keep (HK.out.keep HD.out.2))
        have HN := Lib.hid (crash_dn HU6.out.dn HU6.out.lo HU6.out.d5 (by decide) (nopend HP6.out) keep)
        go_wp2_with fail
        refine HC.out.mono ?_; rintro e w14 ⟨rfl, h14⟩
        replace HD := Lib.hid h14; clear h14 HC
        have HC := Lib.hid (dStart HD.out)
        go_wp2_with fail
        refine HC.out.mono ?_; rintro e w15 ⟨rfl, h15⟩
        replace HD := Lib.hid h15; clear h15 HC
        have HC := Lib.hid (jOpen HD.out 5 (by decide) (whl rows) rows (HN.out.start.read HN.out.pe (by decide)) (by rw [whl_size]; have := HXR.out; omega) (parse_whl rows (by have := HXR.out; omega)))
        go_wp2_with fail
        refine HC.out.mono ?_; rintro e w16 ⟨cb, v16, rfl, h16, -⟩
        have HL := Lib.hid h16; clear h16 HC HD
        have HC := Lib.hid (jAll HL.out)
        go_wp2_with fail
        refine HC.out.mono ?_; rintro e w17 ⟨u17, rfl, hu, hb⟩
        have HV := Lib.hid hu
        replace HL := Lib.hid (HL.out.below hb)
        clear hu hb HC
        have HC := Lib.hid (sameP rows rows u17 _ w17 HV.out (HR1.out.keep HL.out.2) (by have := HLN.out; omega) (by have := HLN.out; omega))
        rw [decide_eq_true rfl] at HC
        go_wp2_with fail
        refine HC.out.mono ?_; rintro e w18 ⟨rfl, hb⟩
        have HE := Lib.hid (HL.out.below hb).2
        clear hb HC HL HV
        go_wp2_with fail
        go_ret
        exact ⟨rfl, HE.out⟩
end Go.Proofs.Ythdmcjiccbgknaa.journalTurns
