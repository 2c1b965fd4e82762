/-
  Package isa: Text.
-/
import Derived.Test.YtmnhnighlgpjmaaDoorIB
namespace Go.Proofs.YtmnhnighlgpjmaaDoor
set_option linter.unusedVariables false
set_option linter.unusedSimpArgs false
open Go.RowKit

theorem nameN_len (o : Nat) : (nameN o).length ≤ 7 := by
  by_cases h : o < 31
  · have : ∀ o, o < 31 → (nameN o).length ≤ 7 := by decide
    exact this o h
  · unfold nameN; rw [List.getD_eq_getElem?_getD, List.getElem?_eq_none (by simp [nameL]; omega)]; decide
theorem txts_short (i : Ins) (h : ∀ k, k < 4 → -9223372036854775808 ≤ fldN i k ∧ fldN i k ≤ 9223372036854775807) : ∀ x ∈ txts i 4, x.length ≤ 21 := by
  intro x hx
  unfold txts at hx
  obtain ⟨k, hk, rfl⟩ := List.mem_map.1 hx
  have hk4 : k < 4 := List.mem_range.1 (List.mem_filter.1 hk).1
  have := itoa_len _ (h k hk4).1 (h k hk4).2
  unfold txtO
  split
  · omega
  · rw [List.length_cons]; omega
theorem joinP (g cap : Nat) (L : List (List UInt8)) (w : World) (B : Nat) (h : w.ownsRow B 9 1 (.slice (some ⟨g, 0, none⟩) L.length cap) L.length (sv L)) (hj : (Lib.join L [44, 32]).length ≤ 92) (h4 : L.length ≤ 4) :
    Calls Tryd.prog 35 #[.slice (some ⟨g, 0, none⟩) L.length cap, .string ⟨#[44, 32]⟩] w fun e w' => e = .returned (.string (arr (Lib.join L [44, 32]))) ∧ Below w.heap.size w w' := by
  rcases h.2 with ⟨h0, _⟩ | ⟨g2, cap2, cur, hs, hb, hh, hcap, hmax, hsz, htk⟩
  · cases h0
  · injection hs with e1 e2 e3
    injection e1 with e1
    injection e1 with e1
    subst e1; subst e3
    have hmap : (L.map arr).map (·.data.toList) = L := by rw [List.map_map]; exact (List.map_congr_left (fun x _ => rfl)).trans (List.map_id L)
    have key := Tryd.strings_Join g 0 cap (L.map arr) ⟨#[44, 32]⟩ w (fun j x hx => ?_) (Array.getElem?_eq_some_iff.1 hh).1 (by simp; omega) (by simpa using hcap) (by rw [hmap]; exact Nat.le_trans hj (by decide))
    · rw [hmap, List.length_map] at key
      exact key
    · have h8 : (sv L)[j]? = some (.string x) := by
        rw [List.getElem?_map] at hx
        obtain ⟨y, hy, rfl⟩ := Option.map_eq_some_iff.1 hx
        simp [sv, hy]
      have hc := h.cells (g := g) rfl j _ h8
      have ea : (⟨g, 0, none⟩ : Addr).add j = ⟨g, 0 + j, none⟩ := by unfold Addr.add; split <;> simp_all
      rwa [ea] at hc
def TxRel (w W0 : World) (i : Ins) (u n : Value) (wl : World) : Prop := ∃ k : Nat, n = .int .i64 k ∧ k ≤ 4 ∧ OwnS wl (w.heap.size + 1) u (txts i k) ∧ Below (w.heap.size + 1) W0 wl

set_option maxRecDepth 100000 in
set_option maxHeartbeats 4000000 in
theorem textYesP (o : Nat) (a b c m : Int) (w : World) (hL : LaidI w) (h : rightB ⟨o, a, b, c, m⟩ = true) :
    Calls Tryd.prog 13 #[.agg #[.int .i64 o, .int .i64 a, .int .i64 b, .int .i64 c, .int .i64 m]] w fun e w' => e = .returned (.string (arr (textL ⟨o, a, b, c, m⟩))) ∧ Below w.heap.size w w' := by
  have hop := right_op h
  simp only at hop
  have HTL : Hid (textL ⟨o, a, b, c, m⟩ = if txts ⟨o, a, b, c, m⟩ 4 = [] then nameN o else nameN o ++ [32] ++ Lib.join (txts ⟨o, a, b, c, m⟩ 4) [44, 32]) := Lib.hid (by unfold textL; rw [h]; rfl)
  obtain ⟨v, hv⟩ : ∃ v, textL ⟨o, a, b, c, m⟩ = v := ⟨_, rfl⟩
  rw [hv] at HTL ⊢
  clear hv
  have HM := Lib.hid (right_imm h)
  have HRG := Lib.hid (fun k hk => right_reg h k hk)
  obtain ⟨i0, hi, hz0, hz1, hz2⟩ := info_parts infoS
  obtain ⟨W0, hW0⟩ : ∃ W, w.alloc (.cells #[.int .i64 o, .int .i64 a, .int .i64 b, .int .i64 c, .int .i64 m] 23) = W := ⟨_, rfl⟩
  have HW := Lib.hid hW0
  have hB0 : Below w.heap.size w W0 := by rw [← hW0]; exact below_new _ _
  have hs0 : W0.heap.size = w.heap.size + 1 := by rw [← hW0]; simp
  have hk0 : W0.heap[w.heap.size]? = some (.cells #[.int .i64 o, .int .i64 a, .int .i64 b, .int .i64 c, .int .i64 m] 23) := by rw [← hW0]; exact block_new _ _
  have HL0 := Lib.hid (hL.keep hB0)
  have HR := Lib.hid (rightP o a b c m W0 HL0.out.forms)
  rw [h] at HR
  have HB0 := Lib.hid hB0
  have HS0 := Lib.hid hs0
  have HK0 := Lib.hid hk0
  have hq := opsN_lt o
  obtain ⟨q, hqq⟩ : ∃ q, opsN o = q := ⟨_, rfl⟩
  rw [hqq] at hq
  have HQ := Lib.hid hqq
  have ix := idx4 a b c m
  clear h hL hB0 hs0 hk0 hqq hW0
  go_enter Tryd.func13, Tryd.ntmps13
  go_wp2_with fail
  rw [HW.out]
  refine HR.out.mono ?_; rintro e w1 ⟨rfl, hb⟩
  have HB1 := Lib.hid hb
  have hk1 := (hb.block w.heap.size (by rw [HS0.out]; omega)).trans HK0.out
  have c0 := blk_cell hk1 0
  have c1 := blk_cell hk1 1
  have c2 := blk_cell hk1 2
  have c3 := blk_cell hk1 3
  have c4 := blk_cell hk1 4
  clear hb hk1
  go_wp2_with fail
  refine (fieldsOfP a b c m o _).mono ?_; rintro e w2 ⟨rfl, hb⟩
  have HB2 := Lib.hid (show Below (w.heap.size + 1) W0 w2 by rw [← HS0.out]; exact HB1.out.trans (hb.mono HB1.out.size))
  clear hb c0 c1 c2 c3 c4
  go_wp2_with fail
  go_loopw [3, 12] (fun u n wl => TxRel w W0 ⟨o, a, b, c, m⟩ u n wl) (fun _ n _ => 4 - (intOf n).toNat)
  case atStart => exact ⟨0, rfl, by omega, OwnS.nil _ _, HB2.out⟩
  case round =>
    obtain ⟨k, rfl, hk, ho, hB⟩ := hrel
    have hsz := hB.size
    rw [HS0.out] at hsz
    have HLr := Lib.hid (HL0.out.keep (by rw [HS0.out]; exact hB))
    have hkr := (hB.block w.heap.size (by omega)).trans HK0.out
    have c0 : wr.cell? ⟨w.heap.size, 0, none⟩ = some (.int .i64 o) := blk_cell hkr 0
    by_cases hlt : k < 4
    · have ixk := ix k hlt wr
      have hcq : wr.cell? ⟨0, o * 4 + 1, none⟩ = some (.int .u8 q) := by rw [← HQ.out]; exact (HLr.out.forms.2 o (by omega)).2.1
      have HH := Lib.hid (hasP q k wr hq (by omega))
      obtain ⟨n, hn⟩ : ∃ n, fldN ⟨0, a, b, c, m⟩ k = n := ⟨_, rfl⟩
      have hnb : -9223372036854775808 ≤ n ∧ n ≤ 9223372036854775807 := by
        by_cases e3 : k = 3
        · have : -2147483648 ≤ m ∧ m ≤ 2147483647 := HM.out
          rw [← hn, e3]; show -9223372036854775808 ≤ m ∧ m ≤ 9223372036854775807; omega
        · have := HRG.out k (by omega)
          rw [fld_op, hn] at this; omega
      rw [hn] at ixk
      cases hh : hasB q k
      · rw [hh] at HH
        have HT := Lib.hid (txts_no (i := ⟨o, a, b, c, m⟩) (k := k) (by show hasB (opsN (Int.toNat o)) k = false; rw [Int.toNat_natCast, HQ.out]; exact hh))
        have HOW := Lib.hid ho
        have HBR := Lib.hid hB
        clear hn hnb hh ho hB hkr ix
        go_wp2_with fail
        refine HH.out.mono ?_; rintro e w' ⟨rfl, rfl⟩
        go_wp2_with fail
        go_roundw
        case rel => exact ⟨k + 1, by go_num, by omega, by rw [HT.out]; exact HOW.out, HBR.out⟩
        case measure => simp [intOf]; omega
      · rw [hh] at HH
        have HT := Lib.hid (txts_yes (i := ⟨o, a, b, c, m⟩) (k := k) (by show hasB (opsN (Int.toNat o)) k = true; rw [Int.toNat_natCast, HQ.out]; exact hh))
        rw [fld_op, hn] at HT
        have HO := Lib.hid (opTextP k n wr hnb.1 hnb.2 HLr.out)
        obtain ⟨x, hx⟩ : ∃ x, txtO k n = x := ⟨_, rfl⟩
        rw [hx] at HO HT
        have HOW := Lib.hid ho
        have HBR := Lib.hid hB
        clear hn hnb hh ho hB hkr hx ix
        go_wp2_with fail
        refine HH.out.mono ?_; rintro e w' ⟨rfl, rfl⟩
        go_wp2_with fail
        refine HO.out.mono ?_; rintro e w3 ⟨rfl, hb⟩
        have ho2 := HOW.out.below hb
        have hB2 := HBR.out.trans (hb.mono hsz)
        have hsz2 : w.heap.size + 1 ≤ w3.heap.size := by have := hb.size; omega
        have ho3 := ho2.below (below_new w3 (.cells #[.string (arr x)] 9))
        have hB3 := hB2.alloc hsz2 (.cells #[.string (arr x)] 9)
        have hl4 := txts_len ⟨o, a, b, c, m⟩ k
        obtain ⟨v', w4, hrun, ho4, hg4, _, _⟩ := run_append_own_at (P := Tryd.prog) (w3.alloc (.cells #[.string (arr x)] 9)) (w.heap.size + 1) 65 65 9 i0 (.string ⟨#[]⟩) 1 16 Tryd.underlying65 hi hz0 hz1 hz2 rfl (by decide) _ _ _ ho3 ⟨w3.heap.size, 0, none⟩ 1 1 [.string (arr x)] rfl (fun j u hu => by
          cases j with
          | zero =>
            simp at hu
            subst hu
            exact blk_cell (block_new w3 _) 0
          | succ j => simp at hu) (fun u hu => by rw [List.mem_singleton.1 hu]; rfl) (by unfold maxLen; omega) (by omega) (by simp; omega)
        obtain ⟨g', cap', rfl⟩ := own_succ ho4
        have HO4 : Hid (OwnS w4 (w.heap.size + 1) (.slice (some ⟨g', 0, none⟩) ((txts ⟨o, a, b, c, m⟩ k).length + 1) cap') (txts ⟨o, a, b, c, m⟩ (k + 1))) := Lib.hid (by
          unfold OwnS
          rw [HT.out, sv_append, List.length_append]
          exact ho4)
        have HB4 := Lib.hid (hB3.grown hg4 (by simp; omega) (fun j hj => (ho3.lt j hj).1))
        have HRUN := Lib.hid hrun
        clear hb ho2 hB2 ho3 hB3 hl4 hrun ho4 hg4
        go_wp2_with (at_builtin; refine Lib.wpList_append_run_sl _ rfl _ _ 65 rfl _ _ rfl rfl HRUN.out ?_)
        go_roundw
        case rel => exact ⟨k + 1, by go_num, by omega, HO4.out, HB4.out⟩
        case measure => simp [intOf]; omega
    · obtain rfl : k = 4 := by omega
      have hlenx : ∀ x ∈ txts ⟨o, a, b, c, m⟩ 4, x.length ≤ 21 := txts_short _ (fun k hk => by
        by_cases e3 : k = 3
        · have : -2147483648 ≤ m ∧ m ≤ 2147483647 := HM.out
          rw [e3]; show -9223372036854775808 ≤ m ∧ m ≤ 9223372036854775807; omega
        · have := HRG.out k (by omega)
          omega)
      have hl4 := txts_len ⟨o, a, b, c, m⟩ 4
      obtain ⟨L, hLL⟩ : ∃ L, txts ⟨o, a, b, c, m⟩ 4 = L := ⟨_, rfl⟩
      rw [hLL] at ho HTL hlenx hl4
      have hcn : wr.cell? ⟨0, o * 4, none⟩ = some (.string (arr (nameN o))) := (HLr.out.forms.2 o (by omega)).1
      have hnl := nameN_len o
      obtain ⟨nm, hnm⟩ : ∃ x, nameN o = x := ⟨_, rfl⟩
      rw [hnm] at hcn HTL hnl
      have hBB := HB0.out.trans (hB.mono (by omega))
      have HBB := Lib.hid hBB
      clear hLL hnm ix hkr hB hBB HQ
      by_cases hLn : L = []
      · have HV : Hid (v = nm) := Lib.hid (by rw [HTL.out, if_pos hLn])
        subst hLn
        rcases ho.2 with ⟨hs, _⟩ | ⟨g, cap, cur, hs, _⟩
        all_goals
          subst hs
          clear ho hlenx hl4 HTL
          go_wp2_with fail
          go_ret
          exact ⟨by rw [HV.out]; rfl, HBB.out⟩
      · have hpos : 0 < L.length := by rcases L with _ | ⟨x, L⟩; exact absurd rfl hLn; simp
        have HV : Hid (v = nm ++ [32] ++ Lib.join L [44, 32]) := Lib.hid (by rw [HTL.out, if_neg hLn])
        obtain ⟨j, hj⟩ : ∃ j, L.length = j + 1 := ⟨L.length - 1, by omega⟩
        have ho' : wr.ownsRow (w.heap.size + 1) 9 1 u3 (j + 1) (sv L) := by rw [← hj]; exact ho
        obtain ⟨g, cap, rfl⟩ := own_succ ho'
        have hjl := join_len [44, 32] 21 L hlenx
        have hj92 : (Lib.join L [44, 32]).length ≤ 92 := by
          have : L.length * (21 + [44, 32].length) ≤ 4 * 23 := Nat.mul_le_mul_right 23 hl4
          omega
        have hJ := joinP g cap L wr (w.heap.size + 1) (by rw [hj]; exact ho') (by omega) hl4
        rw [hj] at hJ
        obtain ⟨J, hJJ⟩ : ∃ J, Lib.join L [44, 32] = J := ⟨_, rfl⟩
        rw [hJJ] at hJ HV hj92
        have HJ := Lib.hid hJ
        have e1 := fun w => run_string_add_sum (P := Tryd.prog) (w := w) (arr nm) ⟨#[32]⟩ (by rw [arr_size]; show _ + 1 ≤ _; omega)
        have e2 := fun w => run_string_add_sum (P := Tryd.prog) (w := w) (arr nm ++ ⟨#[32]⟩) (arr J) (by rw [ByteArray.size_append, arr_size, arr_size]; show _ + 1 + _ ≤ _; omega)
        have hz : (((j + 1 : Nat) : Int) == 0) = false := beq_eq_false_iff_ne.2 (by omega)
        have hz' : ((j : Int) + 1 == 0) = false := beq_eq_false_iff_ne.2 (by omega)
        clear ho ho' hlenx hl4 HTL hj92 hJ hJJ hjl hj hLn hpos
        obtain ⟨SJ, hSJ⟩ : ∃ x, arr J = x := ⟨_, rfl⟩
        obtain ⟨SN, hSN⟩ : ∃ x, arr nm = x := ⟨_, rfl⟩
        rw [hSJ] at HJ e2
        rw [hSN] at e1 e2 hcn
        have HF : Hid (arr v = SN ++ ⟨#[32]⟩ ++ SJ) := Lib.hid (by rw [HV.out, ← hSN, ← hSJ]; apply W1.ba_ext; simp [arr])
        clear hSJ hSN
        go_wp2_with fail
        refine HJ.out.mono ?_; rintro e w5 ⟨rfl, hb⟩
        have HB5 := Lib.hid (HBB.out.trans (hb.mono (by omega)))
        clear hb
        go_wp2_with fail
        go_ret
        exact ⟨by rw [HF.out]; rfl, HB5.out⟩

theorem textNoP (o a b c m : Int) (w : World) (hF : FormsAt w) (h : rightB ⟨o, a, b, c, m⟩ = false) :
    Calls Tryd.prog 13 #[.agg #[.int .i64 o, .int .i64 a, .int .i64 b, .int .i64 c, .int .i64 m]] w fun e w' => e = .returned (.string ⟨#[]⟩) ∧ Below w.heap.size w w' := by
  have HB0 := Lib.hid ((Below.refl w.heap.size w).alloc (Nat.le_refl _) (.cells #[.int .i64 o, .int .i64 a, .int .i64 b, .int .i64 c, .int .i64 m] 23))
  have HR := Lib.hid (rightP o a b c m _ (hF.keep HB0.out))
  rw [h] at HR
  clear hF h
  go_enter Tryd.func13, Tryd.ntmps13
  go_wp2_with fail
  refine HR.out.mono ?_; rintro e w2 ⟨rfl, hb⟩
  have HB := Lib.hid hb; clear hb
  go_wp2_with fail
  go_ret
  exact ⟨rfl, HB0.out.trans (HB.out.mono (by simp))⟩

/-- Text. -/
theorem textP (o a b c m : Int) (w : World) (hL : LaidI w) :
    Calls Tryd.prog 13 #[.agg #[.int .i64 o, .int .i64 a, .int .i64 b, .int .i64 c, .int .i64 m]] w fun e w' => e = .returned (.string (arr (textL ⟨o, a, b, c, m⟩))) ∧ Below w.heap.size w w' := by
  cases h : rightB ⟨o, a, b, c, m⟩
  · rw [show textL ⟨o, a, b, c, m⟩ = [] by unfold textL; rw [h]; rfl]
    exact textNoP o a b c m w hL.forms h
  · have ho := right_op h
    obtain ⟨n, rfl⟩ := Int.eq_ofNat_of_zero_le (a := o) (by simp only at ho; omega)
    exact textYesP n a b c m w hL h
end Go.Proofs.YtmnhnighlgpjmaaDoor
