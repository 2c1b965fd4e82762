/-
  The walk of GraphSame.
-/
import Derived.Test.YtobpolmlblpmjaaOwnA
import Derived.BigRegion
namespace Go.Proofs.Ytobpolmlblpmjaa.graphSame
open Go.Proofs.Ytobpolmlblpmjaa
set_option linter.unusedVariables false
set_option linter.unusedSimpArgs false
open Go.RowKit

def dbl (l : List Int) : List Int := l.flatMap fun z => [z, z]
theorem dbl_snoc (l : List Int) (z : Int) : dbl (l ++ [z]) = dbl l ++ [z, z] := by simp [dbl]
theorem dbl_len (l : List Int) : (dbl l).length = 2 * l.length := by
  induction l with
  | nil => rfl
  | cons x l ih => unfold dbl at *; rw [List.flatMap_cons, List.length_append, ih]; simp; omega
theorem mem_dbl {l : List Int} {z : Int} : z ∈ dbl l ↔ z ∈ l := by simp [dbl]
def S1Rel (l : List Sp) (w : World) (s i : Value) (wl : World) : Prop := ∃ k : Nat, i = .int .i64 ((k : Int) - 1) ∧ k ≤ l.length ∧ Own wl w.heap.size s (l.drop k).reverse ∧ Below w.heap.size w wl
def S2Rel (rs : List Int) (w : World) (s i : Value) (wl : World) : Prop := ∃ k : Nat, i = .int .i64 ((k : Int) - 1) ∧ k ≤ rs.length ∧ OwnI wl w.heap.size s (dbl (rs.drop k).reverse) ∧ Below w.heap.size w wl
theorem drop_rev {α : Type} (l : List α) (j : Nat) (h : j < l.length) : (l.drop j).reverse = (l.drop (j + 1)).reverse ++ [l[j]] := by
  rw [List.drop_eq_getElem_cons h, List.reverse_cons]
set_option maxRecDepth 100000 in
set_option maxHeartbeats 8000000 in
theorem walk (w : World) (n : Int) (v : Value) (A : Option Addr) (m c : Nat) (rv : Value) (A2 : Option Addr) (m2 c2 : Nat) (tt : Int) (wn : (Lit.int .i64 n).wf = true) (hv : v = .slice A m c ∧ (m ≤ 1000000 → ∃ l : List Sp, l.length = m ∧ SRow w w.heap.size v l)) (hrv : rv = .slice A2 m2 c2 ∧ (m2 ≤ 1000000 → ∃ l : List Int, l.length = m2 ∧ IRow w w.heap.size rv l ∧ ∀ z ∈ l, -9223372036854775808 ≤ z ∧ z ≤ 9223372036854775807)) (wt : (Lit.int .i64 tt).wf = true) :
    Calls Try.prog 9 #[.int .i64 n, v, rv, .int .i64 tt] w fun e w' => e = .returned (.bool true) ∧ Below w.heap.size w w' := by
  obtain ⟨rfl, hl⟩ := hv
  obtain ⟨rfl, hl2⟩ := hrv
  have HSM := Lib.hid (smallP w)
  have HFW := Lib.hid (fun w => fewP n A A2 m m2 c c2 w)
  cases hfw : fewB n m m2 with
  | false =>
    rw [hfw] at HFW
    clear hl hl2 hfw
    go_enter Try.func9, Try.ntmps9
    go_wp2_with fail
    refine HSM.out.mono ?_; rintro e w1 ⟨rfl, hb⟩
    have HB := Lib.hid hb
    clear hb
    go_wp2_with fail
    refine (HFW.out _).mono ?_; rintro e w2 ⟨rfl, rfl⟩
    go_wp2_with fail
    go_ret
    exact ⟨rfl, HB.out⟩
  | true =>
    rw [hfw] at HFW
    obtain ⟨hn14, hm60, hm20⟩ := fewB_iff.1 hfw
    obtain ⟨l, rfl, hr⟩ := hl (by omega)
    obtain ⟨rs, rfl, hrs, _⟩ := hl2 (by omega)
    obtain ⟨i0, hi, hz0, hz1, hz2⟩ := info_parts infoI
    have HR := Lib.hid hr
    have HRS := Lib.hid hrs
    obtain ⟨⟨hwf, _⟩, _, SA, scap, hsv, hrd⟩ := hr
    injection hsv with e1 _ e3
    subst e1; subst e3
    have HRD := Lib.hid hrd
    have HWF := Lib.hid hwf
    obtain ⟨_, RA, rcap, hrv, _, _, _, hrrd⟩ := hrs
    injection hrv with e1 _ e3
    subst e1; subst e3
    have HRR := Lib.hid hrrd
    clear hl hl2 hfw hrd hrrd hwf
    go_enter Try.func9, Try.ntmps9
    go_wp2_with fail
    refine HSM.out.mono ?_; rintro e w1 ⟨rfl, hb⟩
    have HB := Lib.hid hb
    clear hb HSM
    go_wp2_with fail
    refine (HFW.out _).mono ?_; rintro e w2 ⟨rfl, rfl⟩
    clear HFW
    go_wp2_with fail
    go_loopw [10, 11] (fun s i wl => S1Rel l w1 s i wl) (fun _ i _ => (intOf i + 1).toNat)
    case atStart => exact ⟨l.length, rfl, Nat.le_refl _, by rw [List.drop_length]; exact ⟨World.ownsRow_nil _ _ _ _, by simp, by simp⟩, Below.refl _ _⟩
    case round =>
      obtain ⟨k, rfl, hk, ho, hB⟩ := hrel
      have hBw := HB.out.trans (hB.mono HB.out.size)
      cases k with
      | succ j =>
        rw [show (((j + 1 : Nat) : Int) - 1) = (j : Int) by omega]
        have hj : j < l.length := by omega
        have hji : (j : Int) < l.length := by omega
        obtain ⟨b, off, rfl, hb1, hc⟩ := HRD.out (by omega)
        have c1 := (hBw.cell (p := ⟨b, off + j * 2, none⟩) hb1).trans (hc j hj).1
        have c2' := (hBw.cell (p := ⟨b, off + j * 2 + 1, none⟩) hb1).trans (hc j hj).2
        have hdr := drop_rev l j hj
        have hgl := gt_get l j hj
        have hsw := HWF.out (l[j]) (List.getElem_mem hj)
        rw [← hgl] at hdr hsw
        obtain ⟨⟨x, y⟩, hxy⟩ : ∃ s, gt l j = s := ⟨_, rfl⟩
        rw [hxy] at c1 c2' hdr hsw
        simp only at c1 c2'
        have hsl := srow_lit wr [⟨x, y⟩] #[.int .i64 x, .int .i64 y] 1 rfl (by omega) (by simpa using hsw) (fun i hi => by
          have : i = 0 := by simp at hi; omega
          subst this; exact ⟨rfl, rfl⟩)
        have hol : (l.drop (j + 1)).reverse.length ≤ 60 := by rw [List.length_reverse, List.length_drop]; omega
        obtain ⟨v', w6, hrun, hO, hG, _⟩ := run_apps (wr.alloc (.cells #[.int .i64 x, .int .i64 y] 36)) 22 w1.heap.size _ _ _ _ _ (ho.below (below_new wr _)) hsl (by simp at hol ⊢; omega) (by have := hB.size; simp; omega)
        rw [← hdr] at hO
        have hlt := fun k hk => (World.ownsRow.lt ho.row k hk).1
        have HB6 := Lib.hid ((hB.alloc hB.size (.cells #[.int .i64 x, .int .i64 y] 36)).grown hG (by have := hB.size; simp; omega) hlt)
        have HO := Lib.hid hO
        have HRUN := Lib.hid hrun
        clear ho hB hBw hc hdr hgl hsw hxy hsl hol hO hG hlt hrun
        go_wp2_with (at_builtin; refine Lib.wpList_append_run_sl _ rfl _ _ 22 rfl _ _ rfl rfl HRUN.out ?_)
        go_roundw
        case rel => exact ⟨j, by go_num, by omega, HO.out, HB6.out⟩
        case measure => simp [intOf]
      | zero =>
        rw [show (((0 : Nat) : Int) - 1) = -1 from rfl]
        rw [List.drop_zero] at ho
        have hol : l.reverse.length ≤ 60 := by rw [List.length_reverse]; omega
        obtain ⟨v', w6, hrun, hO, hG, _⟩ := run_apps wr 22 w1.heap.size w.heap.size _ (.slice A l.length c) _ l ho (HR.out.below hBw) (by omega) hB.size
        have hlt := fun k hk => (World.ownsRow.lt ho.row k hk).1
        have HB6 := Lib.hid (HB.out.trans ((hB.grown hG hB.size hlt).mono HB.out.size))
        have HSG : Hid (SameG l (l.reverse ++ l)) := Lib.hid ⟨fun s => by simp⟩
        have hbl : (l.reverse ++ l).length ≤ 120 := by simp; omega
        obtain ⟨bk, hbk⟩ : ∃ bk, l.reverse ++ l = bk := ⟨_, rfl⟩
        rw [hbk] at hO HSG hbl
        have HO := Lib.hid hO.srow
        have HRUN := Lib.hid hrun
        clear ho hB hBw hol hO hG hlt hrun hbk hk
        go_wp2_with (at_builtin; refine Lib.wpList_append_run_sl _ rfl _ _ 22 rfl _ _ rfl rfl HRUN.out ?_)
        clear HRUN
        go_loopw [12, 13] (fun s i wl => S2Rel rs w6 s i wl) (fun _ i _ => (intOf i + 1).toNat)
        case atStart => exact ⟨rs.length, rfl, Nat.le_refl _, by rw [List.drop_length]; exact OwnI.nil _ _, Below.refl _ _⟩
        case round =>
          obtain ⟨k, rfl, hk, ho, hB⟩ := hrel
          have hBw := HB6.out.trans (hB.mono HB6.out.size)
          obtain ⟨FA, fcap, hfs⟩ := own_slice ho
          cases k with
          | succ j =>
            rw [show (((j + 1 : Nat) : Int) - 1) = (j : Int) by omega]
            have hj : j < rs.length := by omega
            have hji : (j : Int) < rs.length := by omega
            have hj0 : (0 : Int) ≤ j := by omega
            obtain ⟨b, off, rfl, hb1, hc⟩ := HRR.out (by omega)
            have c1 := (hBw.cell (p := ⟨b, off + j, none⟩) hb1).trans (hc j hj)
            have hdr := drop_rev rs j hj
            obtain ⟨z, hz⟩ : ∃ z, rs[j] = z := ⟨_, rfl⟩
            rw [hz] at c1 hdr
            have HDR : Hid (dbl (rs.drop j).reverse = dbl (rs.drop (j + 1)).reverse ++ [z, z]) := Lib.hid (by rw [hdr, dbl_snoc])
            have hSl : (dbl (rs.drop (j + 1)).reverse).length ≤ 40 := by rw [dbl_len, List.length_reverse, List.length_drop]; omega
            obtain ⟨S, hS⟩ : ∃ S, dbl (rs.drop (j + 1)).reverse = S := ⟨_, rfl⟩
            rw [hS] at HDR ho hSl hfs
            subst hfs
            have hbs := hB.size
            have hb6 := HB6.out.size
            have HOW : Hid (wr.ownsRow w6.heap.size 3 1 (.slice FA S.length fcap) S.length (iv S)) := Lib.hid ho
            have hb2 := hB.alloc hbs (.cells #[.int .i64 z, .int .i64 z] 3)
            have hz3 : (wr.alloc (.cells #[.int .i64 z, .int .i64 z] 3)).drew.heap.size = wr.heap.size + 1 := by simp
            obtain ⟨v9, w9, hrun, hown9, hgrow9, _, _⟩ := run_append_own_at (P := Try.prog) (wr.alloc (.cells #[.int .i64 z, .int .i64 z] 3)).drew w6.heap.size 23 23 3 i0 (.int .i64 0) 1 8 Try.underlying23 hi hz0 hz1 hz2 rfl (by decide) (.slice FA S.length fcap) S.length (iv S) ((HOW.out.alloc _).drew) ⟨wr.heap.size, 0, none⟩ 2 2 [.int .i64 z, .int .i64 z] rfl (World.news_of_block (cs := #[.int .i64 z, .int .i64 z]) (t := 3) (fr := (0, 0)) (heap_alloc_new wr _)) (by simp [Value.oneCell']) (by unfold maxLen; omega) (by omega) (by omega)
            have g2 : (wr.alloc (.cells #[.int .i64 z, .int .i64 z] 3)).grownBy w9 (Value.slice FA S.length fcap).ownBlock := ⟨hgrow9.os, hgrow9.tape, hgrow9.output, hgrow9.size, hgrow9.block⟩
            have hq1 : Hid (OwnI w9 w6.heap.size v9 (dbl (rs.drop j).reverse)) := Lib.hid (by
              unfold OwnI
              rw [HDR.out, List.length_append, iv_append]; exact hown9)
            have hq2 := Lib.hid (hb2.grown g2 (by simp; omega) (fun k hk => (World.ownsRow.lt ho k hk).1))
            clear ho hB hBw hc hdr hz hS hb2 hz3 hown9 hgrow9 g2
            go_wp2_with fail
            simp [go_sem, BigFrame.eval_const, BigFrame.eval_global, BigFrame.eval_func, ↓IntWalk.iteOmega] at hrun
            go_region
            all_goals
              go_wp2_with fail
              go_roundw
              case rel => exact ⟨j, by go_num, by omega, hq1.out, hq2.out⟩
              case measure => simp [intOf]
          | zero =>
            rw [show (((0 : Nat) : Int) - 1) = -1 from rfl]
            rw [List.drop_zero] at ho
            have hIt := ho.irow (by rw [dbl_len, List.length_reverse]; omega)
            have HIT := Lib.hid hIt
            have HRT : Hid (∀ z, z ∈ rs ↔ z ∈ dbl rs.reverse) := Lib.hid (fun z => by rw [mem_dbl, List.mem_reverse])
            have HSR : Hid (SRow wr wr.heap.size v' bk) := Lib.hid (HO.out.keep hB)
            have HSL : Hid (SRow wr wr.heap.size (.slice A l.length c) l) := Lib.hid (HR.out.keep hBw)
            have HIR : Hid (IRow wr wr.heap.size (.slice A2 rs.length c2) rs) := Lib.hid (HRS.out.keep hBw)
            have HBW := Lib.hid hBw
            obtain ⟨tr, htr⟩ : ∃ tr, dbl rs.reverse = tr := ⟨_, rfl⟩
            rw [htr] at HIT HRT
            clear ho hB hBw hIt hk htr hfs HO HR HRS HRD HRR HWF HB6 HB
            obtain ⟨wo, hwo⟩ : ∃ wo : World, wo = wr := ⟨_, rfl⟩
            subst hwo
            have hW := Nat.le_refl wo.heap.size
            have hn9 : n ≤ 900 := by omega
            have H10 := Lib.hid (parts_any n _ l wo hn9 (by omega) HSL.out)
            go_wp2_with fail
            refine H10.out.mono ?_; rintro e w10 ⟨u10, rfl, hL10, hb⟩
            have HB10 := Lib.hid hb
            have HL10 := Lib.hid hL10
            have H11 := Lib.hid (parts_any n _ bk w10 hn9 (by omega) (HSR.out.keep hb))
            clear hb hL10 H10
            go_wp2_with fail
            refine H11.out.mono ?_; rintro e w11 ⟨u11, rfl, hL11, hb⟩
            rw [← HSG.out.parts n] at hL11
            have HB11 := Lib.hid (chain HB10.out hb hW)
            have H12 := Lib.hid (selfLists _ u10 u11 w11 w11.heap.size (HL10.out.keep hb) hL11)
            clear hb hL11 H11 HL10
            go_wp2_with fail
            refine H12.out.mono ?_; rintro e w12 ⟨rfl, hb⟩
            have HB12 := Lib.hid (chain HB11.out hb hW)
            have H13 := Lib.hid (loop_all n _ l w12 hn9 (by omega) (HSL.out.keep HB12.out))
            clear hb H12 HB10 HB11
            go_wp2_with fail
            refine H13.out.mono ?_; rintro e w13 ⟨u13, p13, rfl, hI13, hq13, hb⟩
            have HB13 := Lib.hid (chain HB12.out hb hW)
            have HI13 := Lib.hid hI13
            have HQ13 := Lib.hid hq13
            have H14 := Lib.hid (loop_all n _ bk w13 hn9 (by omega) (HSR.out.keep HB13.out))
            clear hb hI13 hq13 H13 HB12
            go_wp2_with fail
            refine H14.out.mono ?_; rintro e w14 ⟨u14, p14, rfl, hI14, hq14, hb⟩
            obtain rfl := HSG.out.loop HQ13.out hq14
            have HB14 := Lib.hid (chain HB13.out hb hW)
            have H15 := Lib.hid (selfRow _ u13 u14 w14 w14.heap.size (HI13.out.keep hb) hI14)
            clear hb hI14 hq14 H14 HB13 HI13 HQ13
            go_wp2_with fail
            refine H15.out.mono ?_; rintro e w15 ⟨rfl, hb⟩
            have HB15 := Lib.hid (chain HB14.out hb hW)
            have H16 := Lib.hid (reach_any n _ _ l rs w15 hn9 (by omega) (HSL.out.keep HB15.out) (HIR.out.keep HB15.out))
            clear hb H15 HB14
            go_wp2_with fail
            refine H16.out.mono ?_; rintro e w16 ⟨u16, rfl, hI16, hb⟩
            have HB16 := Lib.hid (chain HB15.out hb hW)
            have HI16 := Lib.hid hI16
            have H17 := Lib.hid (reach_any n _ _ bk tr w16 hn9 (by omega) (HSR.out.keep HB16.out) (HIT.out.keep HB16.out))
            clear hb hI16 H16 HB15
            go_wp2_with fail
            refine H17.out.mono ?_; rintro e w17 ⟨u17, rfl, hI17, hb⟩
            rw [← HSG.out.reach HRT.out n] at hI17
            have HB17 := Lib.hid (chain HB16.out hb hW)
            have H18 := Lib.hid (selfRow _ u16 u17 w17 w17.heap.size (HI16.out.keep hb) hI17)
            clear hb hI17 H17 HB16 HI16
            go_wp2_with fail
            refine H18.out.mono ?_; rintro e w18 ⟨rfl, hb⟩
            have HB18 := Lib.hid (chain HB17.out hb hW)
            have H19 := Lib.hid (way_all n tt _ _ l rs w18 hn9 (by omega) (HSL.out.keep HB18.out) (HIR.out.keep HB18.out))
            clear hb H18 HB17
            go_wp2_with fail
            refine H19.out.mono ?_; rintro e w19 ⟨u19, p19, rfl, hI19, hq19, hb⟩
            have HB19 := Lib.hid (chain HB18.out hb hW)
            have HI19 := Lib.hid hI19
            have HQ19 := Lib.hid hq19
            have H20 := Lib.hid (way_all n tt _ _ bk tr w19 hn9 (by omega) (HSR.out.keep HB19.out) (HIT.out.keep HB19.out))
            clear hb hI19 hq19 H19 HB18
            go_wp2_with fail
            refine H20.out.mono ?_; rintro e w20 ⟨u20, p20, rfl, hI20, hq20, hb⟩
            obtain rfl := HSG.out.way HRT.out HQ19.out hq20
            have HB20 := Lib.hid (chain HB19.out hb hW)
            have H21 := Lib.hid (selfRow _ u19 u20 w20 w20.heap.size (HI19.out.keep hb) hI20)
            clear hb hI20 hq20 H20 HB19 HI19 HQ19
            go_wp2_with fail
            refine H21.out.mono ?_; rintro e w21 ⟨rfl, hb⟩
            have HF := Lib.hid (HBW.out.trans ((chain HB20.out hb hW).mono HBW.out.size))
            clear hb H21 HB20
            go_wp2_with fail
            go_ret
            exact ⟨rfl, HF.out⟩
end Go.Proofs.Ytobpolmlblpmjaa.graphSame
