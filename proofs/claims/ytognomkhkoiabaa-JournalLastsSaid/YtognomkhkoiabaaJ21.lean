/-
  Layer 7: the laws' small example, walked.
-/
import Derived.Test.YtognomkhkoiabaaJ20
namespace Go.Proofs.Ytognomkhkoiabaa
set_option linter.unusedVariables false
set_option linter.unusedSimpArgs false
open Go.RowKit

theorem Row.keep {w w' : World} {v : Value} {xs : List Value} (h : Row w w.heap.size v xs) (hb : Below w.heap.size w w') : Row w' w'.heap.size v xs := by
  obtain ⟨A, cap, hv, hA⟩ := h.below hb
  refine ⟨A, cap, hv, fun h0 => ?_⟩
  obtain ⟨b, off, ha, hB, hc⟩ := hA h0
  exact ⟨b, off, ha, Nat.lt_of_lt_of_le hB hb.size, hc⟩
theorem row_blk {w : World} {b cap : Nat} {t : TypeId} {l : List ByteArray} (h : Blk w b t (sv l).toArray) : Row w w.heap.size (.slice (some ⟨b, 0, none⟩) l.length cap) (sv l) := by
  refine ⟨_, cap, by rw [sv_length], fun _ => ⟨b, 0, rfl, h.lt, fun k hk => ?_⟩⟩
  rw [Nat.zero_add, h.cell]
  simp
theorem row1 (w : World) (a : ByteArray) : Row (w.alloc (.cells #[.string a] 9)) (w.alloc (.cells #[.string a] 9)).heap.size (.slice (some ⟨w.heap.size, 0, none⟩) 1 1) (sv [a]) := row_blk (l := [a]) (Blk.new w _ _)
theorem row2 (w : World) (a b : ByteArray) : Row (w.alloc (.cells #[.string a, .string b] 9)) (w.alloc (.cells #[.string a, .string b] 9)).heap.size (.slice (some ⟨w.heap.size, 0, none⟩) 2 2) (sv [a, b]) := row_blk (l := [a, b]) (Blk.new w _ _)
/-- Rewrite with two rows that were just laid. -/
theorem jRewrite2 {W w1 : World} {lb db : Nat} {v : Value} {g : Lg} {s : Dk} (h : LJ W w1 lb db v g s) (a b : ByteArray) (hf : 0 ≤ g.file ∧ g.file ≤ 6) (hx : ext [a, b] ≤ 900000) (hp : s.pend.length + ext [a, b] ≤ 1000000) :
    Calls Try.prog 11 #[.pointer (some ⟨lb, 0, none⟩), .slice (some ⟨w1.heap.size, 0, none⟩) 2 2] (w1.alloc (.cells #[.string a, .string b] 9)) (JP W lb db (g.rewrite s [a, b])) :=
  jRewrite h (below_new _ _) _ [a, b] (fun w' hk hs => row_blk (l := [a, b]) (t := 9) ((hk w1.heap.size (.inr (Nat.le_refl _)) (by simp)).trans (Blk.new w1 _ _))) hf hx hp
set_option maxRecDepth 100000 in
set_option maxHeartbeats 8000000 in
theorem small7 (w : World) : Calls Try.prog 4 #[] w fun e w' => e = .returned (.bool true) ∧ Below w.heap.size w w' := by
  obtain ⟨g1, g2, g3, g5, s1, s2, s3, s5, t4, t6, F⟩ := sf
  have HF := Lib.hid F
  clear F
  have HC := Lib.hid (dNew w)
  go_enter Try.func4, Try.ntmps4
  go_wp2_with fail
  refine HC.out.mono ?_; rintro e w1 ⟨d, rfl, h1⟩
  have HD := Lib.hid h1; clear h1 HC
  have HC := Lib.hid (jOpen HD.out 2 (by decide) (bs []) [] (read_of dk0 2 (by decide) rfl) (by decide) (by decide +kernel))
  go_wp2_with fail
  refine HC.out.mono ?_; rintro e w2 ⟨lb, v, rfl, h2, -⟩
  have HL := Lib.hid h2; clear h2 HC HD
  have HC := Lib.hid (jAppend HL.out ba (by decide) (by decide))
  rw [show (⟨2, [], ([] : List ByteArray).length⟩ : Lg).append dk0 ba = _ from HF.out.a1] at HC
  go_wp2_with fail
  refine HC.out.mono ?_; rintro e w3 ⟨rfl, v3, h3⟩
  have HL1 := Lib.hid h3; clear h3 HC HL
  simp only at HL1
  have HC := Lib.hid (jFlush HL1.out HF.out.f1.1 HF.out.f1.2.1 HF.out.f1.2.2)
  rw [HF.out.a2] at HC
  go_wp2_with fail
  refine HC.out.mono ?_; rintro e w4 ⟨rfl, v4, h4⟩
  have HL2 := Lib.hid h4; clear h4 HC HL1
  simp only at HL2
  have HC := Lib.hid (jAppend HL2.out bb HF.out.f2.1 HF.out.f2.2)
  rw [HF.out.a3] at HC
  go_wp2_with fail
  refine HC.out.mono ?_; rintro e w5 ⟨rfl, v5, h5⟩
  have HL3 := Lib.hid h5; clear h5 HC HL2
  simp only at HL3
  have HC := Lib.hid (jSure HL3.out)
  rw [HF.out.f3] at HC
  go_wp2_with fail
  refine HC.out.mono ?_; rintro e w6 ⟨rfl, rfl⟩
  clear HC
  have HC := Lib.hid (dCrash HL3.out.dsk (.slice none 0 0) [] (irow_nil _ _))
  go_wp2_with fail
  refine HC.out.mono ?_; rintro e w7 ⟨rfl, h7⟩
  have HD := Lib.hid h7; clear h7 HC HL3
  have HC := Lib.hid (dStart HD.out)
  go_wp2_with fail
  refine HC.out.mono ?_; rintro e w8 ⟨rfl, h8⟩
  have HD2 := Lib.hid h8; clear h8 HC HD
  have HC := Lib.hid (jOpen HD2.out 2 (by decide) t4 [ba] HF.out.a4 HF.out.f4.1 HF.out.f4.2.1)
  go_wp2_with fail
  refine HC.out.mono ?_; rintro e w9 ⟨mb, v9, rfl, h9, -⟩
  have HL := Lib.hid h9; clear h9 HC HD2
  have HC := Lib.hid (jAll HL.out)
  go_wp2_with fail
  refine HC.out.mono ?_; rintro e w10 ⟨u, rfl, hu, hb⟩
  have HU := Lib.hid (hu.keep (below_new w10 (.cells #[.string ba] 9)))
  replace HL := Lib.hid (HL.out.below (chainB hb (below_new w10 (.cells #[.string ba] 9))))
  clear hu hb HC
  have HC := Lib.hid (sameP [ba] [ba] u _ _ HU.out (row1 w10 ba) (by decide) (by decide))
  rw [decide_eq_true rfl] at HC
  go_wp2_with fail
  refine HC.out.mono ?_; rintro e w11 ⟨rfl, hb⟩
  replace HL := Lib.hid (HL.out.below hb)
  clear hb HC HU
  have HC := Lib.hid (jRewrite2 HL.out bb bc' (by decide) (by decide) HF.out.f4.2.2)
  rw [HF.out.a5] at HC
  go_wp2_with fail
  refine HC.out.mono ?_; rintro e w12 ⟨rfl, v12, h12⟩
  have HL5 := Lib.hid h12; clear h12 HC HL
  simp only at HL5
  have HC := Lib.hid (dCrash HL5.out.dsk (.slice none 0 0) [] (irow_nil _ _))
  go_wp2_with fail
  refine HC.out.mono ?_; rintro e w13 ⟨rfl, h13⟩
  have HD := Lib.hid h13; clear h13 HC HL5
  have HC := Lib.hid (dStart HD.out)
  go_wp2_with fail
  refine HC.out.mono ?_; rintro e w14 ⟨rfl, h14⟩
  have HD2 := Lib.hid h14; clear h14 HC HD
  have HC := Lib.hid (jOpen HD2.out 2 (by decide) t6 [bb, bc'] HF.out.a6 HF.out.f6.1 HF.out.f6.2)
  go_wp2_with fail
  refine HC.out.mono ?_; rintro e w15 ⟨nb, v15, rfl, h15, -⟩
  have HL := Lib.hid h15; clear h15 HC HD2
  have HC := Lib.hid (jAll HL.out)
  go_wp2_with fail
  refine HC.out.mono ?_; rintro e w16 ⟨u2, rfl, hu, hb⟩
  have HU := Lib.hid (hu.keep (below_new w16 (.cells #[.string bb, .string bc'] 9)))
  replace HL := Lib.hid (HL.out.below (chainB hb (below_new w16 (.cells #[.string bb, .string bc'] 9))))
  clear hu hb HC
  have HC := Lib.hid (sameP [bb, bc'] [bb, bc'] u2 _ _ HU.out (row2 w16 bb bc') (by decide) (by decide))
  rw [decide_eq_true rfl] at HC
  go_wp2_with fail
  refine HC.out.mono ?_; rintro e w17 ⟨rfl, hb⟩
  replace HL := Lib.hid (HL.out.below hb)
  clear hb HC HU
  have HC := Lib.hid (jSure HL.out)
  have HE := Lib.hid HL.out.2
  go_wp2_with fail
  refine HC.out.mono ?_; rintro e w18 ⟨rfl, rfl⟩
  go_wp2_with fail
  go_ret
  exact ⟨rfl, HE.out⟩
end Go.Proofs.Ytognomkhkoiabaa
