/-
  The walk of the law JournalLists.
-/
import Derived.Test.YthdmcjiccbgknaaJ26
namespace Go.Proofs.Ythdmcjiccbgknaa.journalLists
set_option linter.unusedVariables false
set_option linter.unusedSimpArgs false
open Go.RowKit

theorem own_base' {w : World} {base base' sz n : Nat} {e : TypeId} {v : Value} {xs : List Value} (h : w.ownsRow base e sz v n xs) (hb : base' ≤ base) : w.ownsRow base' e sz v n xs := by
  refine ⟨h.1, ?_⟩
  rcases h.2 with h | ⟨k, c, cur, h1, h2, r⟩
  · exact .inl h
  · exact .inr ⟨k, c, cur, h1, Nat.le_trans hb h2, r⟩
theorem own_blkJ {w : World} {base sz n b : Nat} {e t : TypeId} {v : Value} {xs : List Value} {cs : Array Value} (h : w.ownsRow base e sz v n xs) (hb : Blk w b t cs) (hne : t ≠ e) : v.ownBlock ≠ some b := by
  intro hv
  rcases h.2 with ⟨rfl, _⟩ | ⟨g, cap, cur, rfl, _, hg, _⟩
  · simp [Value.ownBlock] at hv
  · simp [Value.ownBlock] at hv
    subst hv
    unfold Blk at hb
    rw [hb] at hg
    injection hg with hg
    injection hg with _ h2 _
    exact hne h2
def JL (W : World) (lb db : Nat) (l : List De) (v su i : Value) (wl : World) : Prop := ∃ (k sure : Nat) (rows : List ByteArray) (vl : Value) (s : Dk), i = .int .i64 k ∧ su = .int .i64 sure ∧ k ≤ l.length ∧ LR7 W wl lb db vl ⟨0, rows, sure⟩ s v rows ∧ Still s ∧ s.pend.length ≤ 2000 * k ∧ ext rows ≤ 1300 + 208 * k ∧ sure ≤ rows.length
theorem ext_few (l : List ByteArray) (h1 : l.length ≤ 6) (h2 : ∀ r ∈ l, r.size ≤ 200) : ext l ≤ 1264 := by
  have : ∀ l : List ByteArray, (∀ r ∈ l, r.size ≤ 200) → ext l ≤ 16 + 208 * l.length := fun l => by
    induction l with
    | nil => intro _; simp [ext]
    | cons a l ih =>
      intro h
      have h1 := ih fun r hr => h r (by simp [hr])
      have h2 := h a (by simp)
      unfold ext at *
      simp only [List.map_cons, List.sum_cons, List.length_cons]
      omega
  have := this l h2
  omega
set_option maxRecDepth 100000 in
set_option maxHeartbeats 0 in
theorem walk (W : World) (v0 : Value) (l : List De) (w0 : OpenDeeds W v0 l) :
    Calls Try.prog 5 #[v0] W fun e w' => e = .returned (.bool true) ∧ Below W.heap.size W w' := by
  obtain ⟨her, hwf, hlen⟩ := w0
  obtain ⟨A, cap, rfl, hA⟩ := her
  have her : ERow W W.heap.size (.slice A l.length cap) l := ⟨A, cap, rfl, hA⟩
  have HER := Lib.hid her
  have HS := Lib.hid (small7 W)
  have HWF := Lib.hid hwf
  clear hA her hwf
  go_enter Try.func5, Try.ntmps5
  go_wp2_with fail
  refine HS.out.mono ?_; rintro e w2 ⟨rfl, hb2⟩
  have HB2 := Lib.hid hb2
  have HF := Lib.hid (few7P _ l w2 (HER.out.keep hb2) hlen)
  clear hb2 HS
  rcases hfew : fewB7 l
  · rw [hfew] at HF
    clear hfew
    go_wp2_with fail
    refine HF.out.mono ?_; rintro e w3 ⟨rfl, rfl⟩
    go_wp2_with fail
    go_ret
    exact ⟨rfl, HB2.out⟩
  · rw [hfew] at HF
    obtain ⟨h30, hok⟩ := fewB7_parts hfew
    have HOK := Lib.hid hok
    clear hok hfew
    go_wp2_with fail
    refine HF.out.mono ?_; rintro e w3 ⟨rfl, rfl⟩
    clear HF
    have HC := Lib.hid (dNew w2)
    go_wp2_with fail
    refine HC.out.mono ?_; rintro e w3 ⟨db, rfl, h3⟩
    have HD := Lib.hid (h3.base HB2.out); clear h3 HC HB2
    have HC := Lib.hid (jOpen HD.out 0 (by decide) (bs []) [] (read_of dk0 0 (by decide) rfl) (by decide) (by decide +kernel))
    go_wp2_with fail
    refine HC.out.mono ?_; rintro e w4 ⟨lb, v4, rfl, h4, -⟩
    have H0 := Lib.hid (LR7.start h4); clear h4 HC HD
    go_wp2_with fail
    go_loopw [7, 8, 9] (fun v su i wl => JL W lb db l v su i wl) (fun _ _ i _ => l.length - (intOf i).toNat)
    case atStart => exact ⟨0, 0, [], _, dk0, rfl, rfl, by omega, H0.out, ⟨⟨rfl, rfl⟩, rfl⟩, by decide, by decide, by decide⟩
    case round =>
      clear H0
      obtain ⟨k, sure, rows, vl, s, rfl, rfl, hk, hL, hst, hpd, hex, hsu⟩ := hrel
      obtain ⟨A7, cap7, hv7⟩ := own_formJ hL.own
      subst hv7
      have HLR := Lib.hid hL
      have HST0 := Lib.hid hst
      have HPD0 := Lib.hid hpd
      have HEX0 := Lib.hid hex
      have HSU0 := Lib.hid hsu
      clear hL hst hpd hex hsu
      by_cases hlt : k < l.length
      · have hk30 : k < 30 := by omega
        have hbel := HLR.out.bel
        obtain ⟨A', cap', he, hA⟩ := HER.out
        injection he with he1 _ he2
        subst he1; subst he2
        obtain ⟨b, off, rfl, hb, hc⟩ := hA (by omega)
        obtain ⟨ur, uk, hur, huk, c0, c1, c2, c3, c4⟩ := hc k hlt
        replace c0 := keep_below hbel c0
        replace c1 := keep_below hbel c1
        replace c2 := keep_below hbel c2
        replace c3 := keep_below hbel c3
        replace c4 := keep_below hbel c4
        obtain ⟨Ar, capr, hur1, -⟩ := id hur
        obtain ⟨Ak, capk, huk1, -⟩ := id huk
        rw [sv_length] at hur1
        subst hur1; subst huk1
        have hokk := HOK.out k hlt
        have hwk := HWF.out k hlt
        have q1 : (k : Int) < l.length := by omega
        obtain ⟨⟨o, row, rs, ks, nn⟩, ha⟩ : ∃ a, gd l k = a := ⟨_, rfl⟩
        rw [ha] at c0 c1 c2 c3 c4 hur huk hokk hwk
        simp only at c0 c1 c2 c3 c4 hur huk
        have HUR := Lib.hid hur
        have HRW : Hid (row.size ≤ 200) := Lib.hid hokk.row
        have HXR : Hid (ext rs ≤ 1264) := Lib.hid (ext_few rs hokk.rows hokk.each)
        obtain ⟨B, hB1, hB2, hB3, hB4⟩ := HLR.out.step 39 #[.int .i64 o, .string row, .slice Ar rs.length capr, .slice Ak ks.length capk, .int .i64 nn]
        have HL1 := Lib.hid hB1
        have HBR := Lib.hid hB2
        have HB1 := Lib.hid hB3
        have HOP := Lib.hid hB4
        have x5 := Blk.new wr 39 #[.int .i64 o, .string row, .slice Ar rs.length capr, .slice Ak ks.length capk, .int .i64 nn]
        have x0 := x5.cell 0
        have x1 := x5.cell 1
        have x2 := x5.cell 2
        have x3 := x5.cell 3
        have x4 := x5.cell 4
        simp at x0 x1 x2 x3 x4
        have ha7 := and7 o
        obtain ⟨R, hR⟩ : ∃ R, o % 8 = R := ⟨_, rfl⟩
        rw [hR] at ha7
        have hR8 : R = 0 ∨ R = 1 ∨ R = 2 ∨ R = 3 ∨ R = 4 ∨ R = 5 ∨ R = 6 ∨ R = 7 := by omega
        clear hA hc hur huk hokk hwk ha hB1 hB2 hB3 hB4 x5 hR hb hbel HLR
        rcases hR8 with rfl | rfl | rfl | rfl | rfl | rfl | rfl | rfl
        · have hex1 : ext (rows ++ [row]) ≤ 1300 + 208 * (k + 1) := by rw [ext_app]; have := HEX0.out; have := HRW.out; omega
          obtain ⟨s', hfl, hst', hpd', -⟩ := Lg.append_still HST0.out (g := ⟨0, rows, sure⟩) 0 (by omega) rfl row (by simp only; omega)
          have HST := Lib.hid hst'
          have HPD : Hid (s'.pend.length ≤ 2000 * (k + 1)) := Lib.hid (by have := HPD0.out; have := HRW.out; omega)
          have HEX := Lib.hid hex1
          have HSU : Hid (sure ≤ (rows ++ [row]).length) := Lib.hid (by rw [List.length_append]; have := HSU0.out; omega)
          have HC := Lib.hid (appendP HL1.out row (by simp only; omega) (by have := HPD0.out; have := HRW.out; omega))
          rw [hfl] at HC
          clear hfl hst' hpd' hex1
          go_wp2_with fail
          refine HC.out.mono ?_; rintro e w2 ⟨rfl, vl', ho⟩
          simp only at ho
          obtain ⟨hlr, hbx⟩ := HOP.out _ _ _ _ ho
          have H := Lib.hid hlr
          have HBX := Lib.hid hbx
          clear ho hlr hbx HC HL1 HOP x0 x1 x2 x3 x4
          have hbx := HBX.out
          have x0 := hbx.cell 0
          have x1 := hbx.cell 1
          have x2 := hbx.cell 2
          have x3 := hbx.cell 3
          have x4 := hbx.cell 4
          simp at x0 x1 x2 x3 x4
          clear hbx
          obtain ⟨i0, hi, hz0, hz1, hz2⟩ := info_parts infoSt
          have hnl : rows.length ≤ 1000000 := by have := ext_len rows; have := HEX0.out; have := hk30; omega
          have HW2 : Hid (W.heap.size ≤ (w2.alloc (.cells #[.string row] 9)).heap.size) := Lib.hid (by have := H.out.bel.size; simp; omega)
          go_wp2_with (at_builtin; refine wpList_append_lies _ rfl _ _ 36 rfl W.heap.size 9 i0 (.string (bs [])) 1 16 Try.underlying36 hi hz0 hz1 hz2 rfl (by decide) _ _ _ rfl (H.out.own.alloc _) ⟨w2.heap.size, 0, none⟩ 1 1 [.string row] rfl rfl ?c1 ?c2 (by decide) ?c3 ?c4 HW2.out (w2.heap.size + 1) (by simp) ?_)
          case c1 =>
            intro i y hy
            rw [Addr.add_lit, Nat.zero_add, (Blk.new w2 9 #[.string row]).cell]
            simpa using hy
          case c2 => intro y hy; rw [List.mem_singleton] at hy; rw [hy]; rfl
          case c3 => unfold maxLen; omega
          case c4 => omega
          intro gg cap4 w5 hown hgrow hat hlt5
          have hg5 : w2.grownBy w5 (Value.slice A7 rows.length cap7).ownBlock := grown_trans (grown_below (below_new w2 _) _) hgrow
          have hbx5 : Blk w5 wr.heap.size 39 #[.int .i64 o, .string row, .slice Ar rs.length capr, .slice Ak ks.length capk, .int .i64 nn] := HBX.out.grown hg5 (fun e => own_blkJ H.out.own HBX.out (by decide) e.symm)
          have hown5 : w5.ownsRow W.heap.size 9 1 (.slice (some ⟨gg, 0, none⟩) (rows ++ [row]).length cap4) (rows ++ [row]).length (sv (rows ++ [row])) := by
            have e : sv (rows ++ [row]) = sv rows ++ [.string row] := by simp [sv]
            rw [e, List.length_append]; exact hown
          have hh := LR7.rows (rows' := rows ++ [row]) H.out hg5 hown5 (fun j hj => by
            have hj2 : gg = j := by simpa [Value.ownBlock] using hj
            rcases hat with h | h
            · exact .inl (by rw [h, hj2])
            · exact .inr (by omega))
          replace H := Lib.hid hh
          replace HBX := Lib.hid hbx5
          clear hg5 hbx5 hown5 hh hown hgrow hat hlt5 HW2 hnl hi hz0 hz1 hz2 x0 x1 x2 x3 x4
          have hbx := HBX.out
          have x0 := hbx.cell 0
          have x1 := hbx.cell 1
          have x2 := hbx.cell 2
          have x3 := hbx.cell 3
          have x4 := hbx.cell 4
          simp at x0 x1 x2 x3 x4
          clear hbx
          have hlen1 : rows.length + 1 = (rows ++ [row]).length := by simp
          obtain ⟨An, hAn⟩ : ∃ An, An = (some ⟨gg, 0, none⟩ : Option Addr) := ⟨_, rfl⟩
          obtain ⟨capn, rfl⟩ : ∃ c, c = cap4 := ⟨_, rfl⟩
          rw [hlen1]
          rw [← hAn] at H ⊢
          obtain ⟨rr, hrr⟩ : ∃ rr, rows ++ [row] = rr := ⟨_, rfl⟩
          rw [hrr] at H HEX HSU ⊢
          clear hlen1 hAn hrr
          have HSM : Hid (∀ w', LR7 W w' lb db vl' ⟨0, rr, sure⟩ s' (.slice An (rr).length capn) (rr) → Row w' w'.heap.size (.slice An (rr).length capn) (sv (rr))) := Lib.hid fun w' h => Row.of_own h.own
          have HLL : Hid ((rr).length ≤ 1000000) := Lib.hid (by have := ext_len (rr); have := HEX.out; have := hk30; omega)
          have HC := Lib.hid (jAll H.out.lj)
          clear x0 x1 x2 x3 x4
          go_wp2_with fail
          refine HC.out.mono ?_; rintro e w8 ⟨u, rfl, hu, hb⟩
          have HU := Lib.hid hu
          replace H := Lib.hid (H.out.below hb)
          clear hu hb HC
          have HC := Lib.hid (sameP (rr) (rr) u _ w8 HU.out (HSM.out _ H.out) (by have := HLL.out; omega) (by have := HLL.out; omega))
          rw [decide_eq_true rfl] at HC
          go_wp2_with fail
          refine HC.out.mono ?_; rintro e w9 ⟨rfl, hb⟩
          replace H := Lib.hid (H.out.below hb)
          clear hb HC HU HSM
          have HC := Lib.hid (jSure H.out.lj)
          simp only at HC
          have hq : ((sure : Nat) != (sure : Nat)) = false := by simp
          have hq2 : (((sure : Nat) : Int) != ((sure : Nat) : Int)) = false := by simp
          go_wp2_with fail
          refine HC.out.mono ?_; rintro e w10 ⟨rfl, rfl⟩
          go_wp2_with fail
          go_roundw
          case rel => exact ⟨k + 1, sure, rr, vl', s', by go_num, rfl, by omega, H.out, HST.out, HPD.out, HEX.out, HSU.out⟩
          case measure => simp [intOf]; omega
        · have hex1 : ext (rows ++ [row]) ≤ 1300 + 208 * (k + 1) := by rw [ext_app]; have := HEX0.out; have := HRW.out; omega
          obtain ⟨s', hfl, hst', hpd', -⟩ := Lg.append_still HST0.out (g := ⟨0, rows, sure⟩) 0 (by omega) rfl row (by simp only; omega)
          have HST := Lib.hid hst'
          have HPD : Hid (s'.pend.length ≤ 2000 * (k + 1)) := Lib.hid (by have := HPD0.out; have := HRW.out; omega)
          have HEX := Lib.hid hex1
          have HSU : Hid (sure ≤ (rows ++ [row]).length) := Lib.hid (by rw [List.length_append]; have := HSU0.out; omega)
          have HC := Lib.hid (appendP HL1.out row (by simp only; omega) (by have := HPD0.out; have := HRW.out; omega))
          rw [hfl] at HC
          clear hfl hst' hpd' hex1
          go_wp2_with fail
          refine HC.out.mono ?_; rintro e w2 ⟨rfl, vl', ho⟩
          simp only at ho
          obtain ⟨hlr, hbx⟩ := HOP.out _ _ _ _ ho
          have H := Lib.hid hlr
          have HBX := Lib.hid hbx
          clear ho hlr hbx HC HL1 HOP x0 x1 x2 x3 x4
          have hbx := HBX.out
          have x0 := hbx.cell 0
          have x1 := hbx.cell 1
          have x2 := hbx.cell 2
          have x3 := hbx.cell 3
          have x4 := hbx.cell 4
          simp at x0 x1 x2 x3 x4
          clear hbx
          obtain ⟨i0, hi, hz0, hz1, hz2⟩ := info_parts infoSt
          have hnl : rows.length ≤ 1000000 := by have := ext_len rows; have := HEX0.out; have := hk30; omega
          have HW2 : Hid (W.heap.size ≤ (w2.alloc (.cells #[.string row] 9)).heap.size) := Lib.hid (by have := H.out.bel.size; simp; omega)
          go_wp2_with (at_builtin; refine wpList_append_lies _ rfl _ _ 36 rfl W.heap.size 9 i0 (.string (bs [])) 1 16 Try.underlying36 hi hz0 hz1 hz2 rfl (by decide) _ _ _ rfl (H.out.own.alloc _) ⟨w2.heap.size, 0, none⟩ 1 1 [.string row] rfl rfl ?c1 ?c2 (by decide) ?c3 ?c4 HW2.out (w2.heap.size + 1) (by simp) ?_)
          case c1 =>
            intro i y hy
            rw [Addr.add_lit, Nat.zero_add, (Blk.new w2 9 #[.string row]).cell]
            simpa using hy
          case c2 => intro y hy; rw [List.mem_singleton] at hy; rw [hy]; rfl
          case c3 => unfold maxLen; omega
          case c4 => omega
          intro gg cap4 w5 hown hgrow hat hlt5
          have hg5 : w2.grownBy w5 (Value.slice A7 rows.length cap7).ownBlock := grown_trans (grown_below (below_new w2 _) _) hgrow
          have hbx5 : Blk w5 wr.heap.size 39 #[.int .i64 o, .string row, .slice Ar rs.length capr, .slice Ak ks.length capk, .int .i64 nn] := HBX.out.grown hg5 (fun e => own_blkJ H.out.own HBX.out (by decide) e.symm)
          have hown5 : w5.ownsRow W.heap.size 9 1 (.slice (some ⟨gg, 0, none⟩) (rows ++ [row]).length cap4) (rows ++ [row]).length (sv (rows ++ [row])) := by
            have e : sv (rows ++ [row]) = sv rows ++ [.string row] := by simp [sv]
            rw [e, List.length_append]; exact hown
          have hh := LR7.rows (rows' := rows ++ [row]) H.out hg5 hown5 (fun j hj => by
            have hj2 : gg = j := by simpa [Value.ownBlock] using hj
            rcases hat with h | h
            · exact .inl (by rw [h, hj2])
            · exact .inr (by omega))
          replace H := Lib.hid hh
          replace HBX := Lib.hid hbx5
          clear hg5 hbx5 hown5 hh hown hgrow hat hlt5 HW2 hnl hi hz0 hz1 hz2 x0 x1 x2 x3 x4
          have hbx := HBX.out
          have x0 := hbx.cell 0
          have x1 := hbx.cell 1
          have x2 := hbx.cell 2
          have x3 := hbx.cell 3
          have x4 := hbx.cell 4
          simp at x0 x1 x2 x3 x4
          clear hbx
          have hlen1 : rows.length + 1 = (rows ++ [row]).length := by simp
          obtain ⟨An, hAn⟩ : ∃ An, An = (some ⟨gg, 0, none⟩ : Option Addr) := ⟨_, rfl⟩
          obtain ⟨capn, rfl⟩ : ∃ c, c = cap4 := ⟨_, rfl⟩
          rw [hlen1]
          rw [← hAn] at H ⊢
          obtain ⟨rr, hrr⟩ : ∃ rr, rows ++ [row] = rr := ⟨_, rfl⟩
          rw [hrr] at H HEX HSU ⊢
          clear hlen1 hAn hrr
          have HSM : Hid (∀ w', LR7 W w' lb db vl' ⟨0, rr, sure⟩ s' (.slice An (rr).length capn) (rr) → Row w' w'.heap.size (.slice An (rr).length capn) (sv (rr))) := Lib.hid fun w' h => Row.of_own h.own
          have HLL : Hid ((rr).length ≤ 1000000) := Lib.hid (by have := ext_len (rr); have := HEX.out; have := hk30; omega)
          have HC := Lib.hid (jAll H.out.lj)
          clear x0 x1 x2 x3 x4
          go_wp2_with fail
          refine HC.out.mono ?_; rintro e w8 ⟨u, rfl, hu, hb⟩
          have HU := Lib.hid hu
          replace H := Lib.hid (H.out.below hb)
          clear hu hb HC
          have HC := Lib.hid (sameP (rr) (rr) u _ w8 HU.out (HSM.out _ H.out) (by have := HLL.out; omega) (by have := HLL.out; omega))
          rw [decide_eq_true rfl] at HC
          go_wp2_with fail
          refine HC.out.mono ?_; rintro e w9 ⟨rfl, hb⟩
          replace H := Lib.hid (H.out.below hb)
          clear hb HC HU HSM
          have HC := Lib.hid (jSure H.out.lj)
          simp only at HC
          have hq : ((sure : Nat) != (sure : Nat)) = false := by simp
          have hq2 : (((sure : Nat) : Int) != ((sure : Nat) : Int)) = false := by simp
          go_wp2_with fail
          refine HC.out.mono ?_; rintro e w10 ⟨rfl, rfl⟩
          go_wp2_with fail
          go_roundw
          case rel => exact ⟨k + 1, sure, rr, vl', s', by go_num, rfl, by omega, H.out, HST.out, HPD.out, HEX.out, HSU.out⟩
          case measure => simp [intOf]; omega
        · have hex1 : ext (rows ++ [row]) ≤ 1300 + 208 * (k + 1) := by rw [ext_app]; have := HEX0.out; have := HRW.out; omega
          obtain ⟨s', hfl, hst', hpd', -⟩ := Lg.append_still HST0.out (g := ⟨0, rows, sure⟩) 0 (by omega) rfl row (by simp only; omega)
          have HST := Lib.hid hst'
          have HPD : Hid (s'.pend.length ≤ 2000 * (k + 1)) := Lib.hid (by have := HPD0.out; have := HRW.out; omega)
          have HEX := Lib.hid hex1
          have HSU : Hid (sure ≤ (rows ++ [row]).length) := Lib.hid (by rw [List.length_append]; have := HSU0.out; omega)
          have HC := Lib.hid (appendP HL1.out row (by simp only; omega) (by have := HPD0.out; have := HRW.out; omega))
          rw [hfl] at HC
          clear hfl hst' hpd' hex1
          go_wp2_with fail
          refine HC.out.mono ?_; rintro e w2 ⟨rfl, vl', ho⟩
          simp only at ho
          obtain ⟨hlr, hbx⟩ := HOP.out _ _ _ _ ho
          have H := Lib.hid hlr
          have HBX := Lib.hid hbx
          clear ho hlr hbx HC HL1 HOP x0 x1 x2 x3 x4
          have hbx := HBX.out
          have x0 := hbx.cell 0
          have x1 := hbx.cell 1
          have x2 := hbx.cell 2
          have x3 := hbx.cell 3
          have x4 := hbx.cell 4
          simp at x0 x1 x2 x3 x4
          clear hbx
          obtain ⟨i0, hi, hz0, hz1, hz2⟩ := info_parts infoSt
          have hnl : rows.length ≤ 1000000 := by have := ext_len rows; have := HEX0.out; have := hk30; omega
          have HW2 : Hid (W.heap.size ≤ (w2.alloc (.cells #[.string row] 9)).heap.size) := Lib.hid (by have := H.out.bel.size; simp; omega)
          go_wp2_with (at_builtin; refine wpList_append_lies _ rfl _ _ 36 rfl W.heap.size 9 i0 (.string (bs [])) 1 16 Try.underlying36 hi hz0 hz1 hz2 rfl (by decide) _ _ _ rfl (H.out.own.alloc _) ⟨w2.heap.size, 0, none⟩ 1 1 [.string row] rfl rfl ?c1 ?c2 (by decide) ?c3 ?c4 HW2.out (w2.heap.size + 1) (by simp) ?_)
          case c1 =>
            intro i y hy
            rw [Addr.add_lit, Nat.zero_add, (Blk.new w2 9 #[.string row]).cell]
            simpa using hy
          case c2 => intro y hy; rw [List.mem_singleton] at hy; rw [hy]; rfl
          case c3 => unfold maxLen; omega
          case c4 => omega
          intro gg cap4 w5 hown hgrow hat hlt5
          have hg5 : w2.grownBy w5 (Value.slice A7 rows.length cap7).ownBlock := grown_trans (grown_below (below_new w2 _) _) hgrow
          have hbx5 : Blk w5 wr.heap.size 39 #[.int .i64 o, .string row, .slice Ar rs.length capr, .slice Ak ks.length capk, .int .i64 nn] := HBX.out.grown hg5 (fun e => own_blkJ H.out.own HBX.out (by decide) e.symm)
          have hown5 : w5.ownsRow W.heap.size 9 1 (.slice (some ⟨gg, 0, none⟩) (rows ++ [row]).length cap4) (rows ++ [row]).length (sv (rows ++ [row])) := by
            have e : sv (rows ++ [row]) = sv rows ++ [.string row] := by simp [sv]
            rw [e, List.length_append]; exact hown
          have hh := LR7.rows (rows' := rows ++ [row]) H.out hg5 hown5 (fun j hj => by
            have hj2 : gg = j := by simpa [Value.ownBlock] using hj
            rcases hat with h | h
            · exact .inl (by rw [h, hj2])
            · exact .inr (by omega))
          replace H := Lib.hid hh
          replace HBX := Lib.hid hbx5
          clear hg5 hbx5 hown5 hh hown hgrow hat hlt5 HW2 hnl hi hz0 hz1 hz2 x0 x1 x2 x3 x4
          have hbx := HBX.out
          have x0 := hbx.cell 0
          have x1 := hbx.cell 1
          have x2 := hbx.cell 2
          have x3 := hbx.cell 3
          have x4 := hbx.cell 4
          simp at x0 x1 x2 x3 x4
          clear hbx
          have hlen1 : rows.length + 1 = (rows ++ [row]).length := by simp
          obtain ⟨An, hAn⟩ : ∃ An, An = (some ⟨gg, 0, none⟩ : Option Addr) := ⟨_, rfl⟩
          obtain ⟨capn, rfl⟩ : ∃ c, c = cap4 := ⟨_, rfl⟩
          rw [hlen1]
          rw [← hAn] at H ⊢
          obtain ⟨rr, hrr⟩ : ∃ rr, rows ++ [row] = rr := ⟨_, rfl⟩
          rw [hrr] at H HEX HSU ⊢
          clear hlen1 hAn hrr
          have HSM : Hid (∀ w', LR7 W w' lb db vl' ⟨0, rr, sure⟩ s' (.slice An (rr).length capn) (rr) → Row w' w'.heap.size (.slice An (rr).length capn) (sv (rr))) := Lib.hid fun w' h => Row.of_own h.own
          have HLL : Hid ((rr).length ≤ 1000000) := Lib.hid (by have := ext_len (rr); have := HEX.out; have := hk30; omega)
          have HC := Lib.hid (jAll H.out.lj)
          clear x0 x1 x2 x3 x4
          go_wp2_with fail
          refine HC.out.mono ?_; rintro e w8 ⟨u, rfl, hu, hb⟩
          have HU := Lib.hid hu
          replace H := Lib.hid (H.out.below hb)
          clear hu hb HC
          have HC := Lib.hid (sameP (rr) (rr) u _ w8 HU.out (HSM.out _ H.out) (by have := HLL.out; omega) (by have := HLL.out; omega))
          rw [decide_eq_true rfl] at HC
          go_wp2_with fail
          refine HC.out.mono ?_; rintro e w9 ⟨rfl, hb⟩
          replace H := Lib.hid (H.out.below hb)
          clear hb HC HU HSM
          have HC := Lib.hid (jSure H.out.lj)
          simp only at HC
          have hq : ((sure : Nat) != (sure : Nat)) = false := by simp
          have hq2 : (((sure : Nat) : Int) != ((sure : Nat) : Int)) = false := by simp
          go_wp2_with fail
          refine HC.out.mono ?_; rintro e w10 ⟨rfl, rfl⟩
          go_wp2_with fail
          go_roundw
          case rel => exact ⟨k + 1, sure, rr, vl', s', by go_num, rfl, by omega, H.out, HST.out, HPD.out, HEX.out, HSU.out⟩
          case measure => simp [intOf]; omega
        · obtain ⟨s', hfl, hst', hpd'⟩ := Lg.flush_still HST0.out (g := ⟨0, rows, sure⟩) 0 (by omega) rfl
          have HST := Lib.hid hst'
          have HPD : Hid (s'.pend.length ≤ 2000 * (k + 1)) := Lib.hid (by have := HPD0.out; omega)
          have HEX : Hid (ext rows ≤ 1300 + 208 * (k + 1)) := Lib.hid (by have := HEX0.out; omega)
          have HSU : Hid (rows.length ≤ rows.length) := Lib.hid (Nat.le_refl _)
          have HC := Lib.hid (flushP' HL1.out (by have := HEX0.out; simp only; omega) (by have := HPD0.out; omega) (by have := HSU0.out; have := ext_len rows; have := HEX0.out; simp only; omega))
          rw [hfl] at HC
          clear hfl hst' hpd'
          go_wp2_with fail
          refine HC.out.mono ?_; rintro e w2 ⟨rfl, ho⟩
          simp only at ho
          obtain ⟨vl', hvl⟩ : ∃ vl', vl' = vl := ⟨_, rfl⟩
          rw [← hvl] at ho
          obtain ⟨hlr, hbx⟩ := HOP.out _ _ _ _ ho
          have H := Lib.hid hlr
          have HBX := Lib.hid hbx
          clear ho hlr hbx HC hvl HL1 HOP
          obtain ⟨An, rfl⟩ : ∃ An, An = A7 := ⟨_, rfl⟩
          obtain ⟨capn, rfl⟩ : ∃ c, c = cap7 := ⟨_, rfl⟩
          have HSM : Hid (∀ w', LR7 W w' lb db vl' ⟨0, rows, rows.length⟩ s' (.slice An (rows).length capn) (rows) → Row w' w'.heap.size (.slice An (rows).length capn) (sv (rows))) := Lib.hid fun w' h => Row.of_own h.own
          have HLL : Hid ((rows).length ≤ 1000000) := Lib.hid (by have := ext_len (rows); have := HEX.out; have := hk30; omega)
          have HC := Lib.hid (jAll H.out.lj)
          clear x0 x1 x2 x3 x4
          go_wp2_with fail
          refine HC.out.mono ?_; rintro e w8 ⟨u, rfl, hu, hb⟩
          have HU := Lib.hid hu
          replace H := Lib.hid (H.out.below hb)
          clear hu hb HC
          have HC := Lib.hid (sameP (rows) (rows) u _ w8 HU.out (HSM.out _ H.out) (by have := HLL.out; omega) (by have := HLL.out; omega))
          rw [decide_eq_true rfl] at HC
          go_wp2_with fail
          refine HC.out.mono ?_; rintro e w9 ⟨rfl, hb⟩
          replace H := Lib.hid (H.out.below hb)
          clear hb HC HU HSM
          have HC := Lib.hid (jSure H.out.lj)
          simp only at HC
          have hq : ((rows.length : Nat) != (rows.length : Nat)) = false := by simp
          have hq2 : (((rows.length : Nat) : Int) != ((rows.length : Nat) : Int)) = false := by simp
          go_wp2_with fail
          refine HC.out.mono ?_; rintro e w10 ⟨rfl, rfl⟩
          go_wp2_with fail
          go_roundw
          case rel => exact ⟨k + 1, rows.length, rows, vl', s', by go_num, rfl, by omega, H.out, HST.out, HPD.out, HEX.out, HSU.out⟩
          case measure => simp [intOf]; omega
        · obtain ⟨s', hfl, hst', hpd'⟩ := Lg.flush_still HST0.out (g := ⟨0, rows, sure⟩) 0 (by omega) rfl
          have HST := Lib.hid hst'
          have HPD : Hid (s'.pend.length ≤ 2000 * (k + 1)) := Lib.hid (by have := HPD0.out; omega)
          have HEX : Hid (ext rows ≤ 1300 + 208 * (k + 1)) := Lib.hid (by have := HEX0.out; omega)
          have HSU : Hid (rows.length ≤ rows.length) := Lib.hid (Nat.le_refl _)
          have HC := Lib.hid (flushP' HL1.out (by have := HEX0.out; simp only; omega) (by have := HPD0.out; omega) (by have := HSU0.out; have := ext_len rows; have := HEX0.out; simp only; omega))
          rw [hfl] at HC
          clear hfl hst' hpd'
          go_wp2_with fail
          refine HC.out.mono ?_; rintro e w2 ⟨rfl, ho⟩
          simp only at ho
          obtain ⟨vl', hvl⟩ : ∃ vl', vl' = vl := ⟨_, rfl⟩
          rw [← hvl] at ho
          obtain ⟨hlr, hbx⟩ := HOP.out _ _ _ _ ho
          have H := Lib.hid hlr
          have HBX := Lib.hid hbx
          clear ho hlr hbx HC hvl HL1 HOP
          obtain ⟨An, rfl⟩ : ∃ An, An = A7 := ⟨_, rfl⟩
          obtain ⟨capn, rfl⟩ : ∃ c, c = cap7 := ⟨_, rfl⟩
          have HSM : Hid (∀ w', LR7 W w' lb db vl' ⟨0, rows, rows.length⟩ s' (.slice An (rows).length capn) (rows) → Row w' w'.heap.size (.slice An (rows).length capn) (sv (rows))) := Lib.hid fun w' h => Row.of_own h.own
          have HLL : Hid ((rows).length ≤ 1000000) := Lib.hid (by have := ext_len (rows); have := HEX.out; have := hk30; omega)
          have HC := Lib.hid (jAll H.out.lj)
          clear x0 x1 x2 x3 x4
          go_wp2_with fail
          refine HC.out.mono ?_; rintro e w8 ⟨u, rfl, hu, hb⟩
          have HU := Lib.hid hu
          replace H := Lib.hid (H.out.below hb)
          clear hu hb HC
          have HC := Lib.hid (sameP (rows) (rows) u _ w8 HU.out (HSM.out _ H.out) (by have := HLL.out; omega) (by have := HLL.out; omega))
          rw [decide_eq_true rfl] at HC
          go_wp2_with fail
          refine HC.out.mono ?_; rintro e w9 ⟨rfl, hb⟩
          replace H := Lib.hid (H.out.below hb)
          clear hb HC HU HSM
          have HC := Lib.hid (jSure H.out.lj)
          simp only at HC
          have hq : ((rows.length : Nat) != (rows.length : Nat)) = false := by simp
          have hq2 : (((rows.length : Nat) : Int) != ((rows.length : Nat) : Int)) = false := by simp
          go_wp2_with fail
          refine HC.out.mono ?_; rintro e w10 ⟨rfl, rfl⟩
          go_wp2_with fail
          go_roundw
          case rel => exact ⟨k + 1, rows.length, rows, vl', s', by go_num, rfl, by omega, H.out, HST.out, HPD.out, HEX.out, HSU.out⟩
          case measure => simp [intOf]; omega
        · obtain ⟨s', hfl, hst', hpd'⟩ := Lg.rewrite_still HST0.out (g := ⟨0, rows, sure⟩) 0 (by omega) rfl rs (by have := HXR.out; omega)
          have HST := Lib.hid hst'
          have HPD : Hid (s'.pend.length ≤ 2000 * (k + 1)) := Lib.hid (by have := HPD0.out; have := HXR.out; omega)
          have HEX : Hid (ext rs ≤ 1300 + 208 * (k + 1)) := Lib.hid (by have := HXR.out; omega)
          have HSU : Hid (rs.length ≤ rs.length) := Lib.hid (Nat.le_refl _)
          have HC := Lib.hid (rewriteP HL1.out (.slice Ar rs.length capr) rs (fun w' v' s'' h => row_fr HUR.out HB1.out h.fr (fun j hj hx => by have := (HBR.out j hx.1).1; omega)) ⟨Int.le_refl _, by show (0 : Int) ≤ 6; decide⟩ (by have := HXR.out; omega) (by have := HPD0.out; have := HXR.out; omega))
          rw [hfl] at HC
          clear hfl hst' hpd'
          go_wp2_with fail
          refine HC.out.mono ?_; rintro e w2 ⟨rfl, vl', ho⟩
          simp only at ho
          obtain ⟨hlr, hbx⟩ := HOP.out _ _ _ _ ho
          have H := Lib.hid hlr
          have HBX := Lib.hid hbx
          clear ho hlr hbx HC HL1 HOP x0 x1 x2 x3 x4
          have hbx := HBX.out
          have x0 := hbx.cell 0
          have x1 := hbx.cell 1
          have x2 := hbx.cell 2
          have x3 := hbx.cell 3
          have x4 := hbx.cell 4
          simp at x0 x1 x2 x3 x4
          clear hbx
          have hur2 := HUR.out.keep H.out.bel
          obtain ⟨vA, vcap, w5, hrun, hown, hb5⟩ := app_rows hur2 (by have := HXR.out; have := ext_len rs; omega)
          have HRUN := Lib.hid hrun
          have HOW := Lib.hid hown
          have HB5 := Lib.hid hb5
          clear hur2 hrun hown hb5
          have x2' : (w2.alloc (.cells #[] 9)).cell? ⟨wr.heap.size, 2, none⟩ = some (.slice Ar rs.length capr) := keep_below (below_new _ _) x2
          go_wp2_with (at_builtin; refine Lib.wpList_append_run_sl _ rfl _ _ 36 rfl _ _ rfl rfl HRUN.out ?_)
          replace HBX := Lib.hid (HBX.out.below HB5.out HBX.out.lt)
          have hg5 := grown_below HB5.out (Value.slice A7 rows.length cap7).ownBlock
          replace H := Lib.hid (LR7.rows (rows' := rs) H.out hg5 (own_base' HOW.out H.out.bel.size) (fun j hj => .inr (World.ownsRow.lt HOW.out j hj).1))
          clear HRUN HOW HB5 hg5 x0 x1 x2 x3 x4 x2'
          have hbx := HBX.out
          have x0 := hbx.cell 0
          have x1 := hbx.cell 1
          have x2 := hbx.cell 2
          have x3 := hbx.cell 3
          have x4 := hbx.cell 4
          simp at x0 x1 x2 x3 x4
          clear hbx
          obtain ⟨An, rfl⟩ : ∃ An, An = vA := ⟨_, rfl⟩
          obtain ⟨capn, rfl⟩ : ∃ c, c = vcap := ⟨_, rfl⟩
          have HSM : Hid (∀ w', LR7 W w' lb db vl' ⟨0, rs, rs.length⟩ s' (.slice An (rs).length capn) (rs) → Row w' w'.heap.size (.slice An (rs).length capn) (sv (rs))) := Lib.hid fun w' h => Row.of_own h.own
          have HLL : Hid ((rs).length ≤ 1000000) := Lib.hid (by have := ext_len (rs); have := HEX.out; have := hk30; omega)
          have HC := Lib.hid (jAll H.out.lj)
          clear x0 x1 x2 x3 x4
          go_wp2_with fail
          refine HC.out.mono ?_; rintro e w8 ⟨u, rfl, hu, hb⟩
          have HU := Lib.hid hu
          replace H := Lib.hid (H.out.below hb)
          clear hu hb HC
          have HC := Lib.hid (sameP (rs) (rs) u _ w8 HU.out (HSM.out _ H.out) (by have := HLL.out; omega) (by have := HLL.out; omega))
          rw [decide_eq_true rfl] at HC
          go_wp2_with fail
          refine HC.out.mono ?_; rintro e w9 ⟨rfl, hb⟩
          replace H := Lib.hid (H.out.below hb)
          clear hb HC HU HSM
          have HC := Lib.hid (jSure H.out.lj)
          simp only at HC
          have hq : ((rs.length : Nat) != (rs.length : Nat)) = false := by simp
          have hq2 : (((rs.length : Nat) : Int) != ((rs.length : Nat) : Int)) = false := by simp
          go_wp2_with fail
          refine HC.out.mono ?_; rintro e w10 ⟨rfl, rfl⟩
          go_wp2_with fail
          go_roundw
          case rel => exact ⟨k + 1, rs.length, rs, vl', s', by go_num, rfl, by omega, H.out, HST.out, HPD.out, HEX.out, HSU.out⟩
          case measure => simp [intOf]; omega
        · obtain ⟨s', hs'⟩ : ∃ s', s' = s := ⟨_, rfl⟩
          obtain ⟨vl', hvl⟩ : ∃ vl', vl' = vl := ⟨_, rfl⟩
          have HST : Hid (Still s') := by rw [hs']; exact HST0
          have HPD : Hid (s'.pend.length ≤ 2000 * (k + 1)) := Lib.hid (by rw [hs']; have := HPD0.out; omega)
          have HEX : Hid (ext rows ≤ 1300 + 208 * (k + 1)) := Lib.hid (by have := HEX0.out; omega)
          have HSU := HSU0
          have hlo := LOp.refl HL1.out
          obtain ⟨hlr, hbx⟩ := HOP.out _ _ _ _ hlo
          rw [← hs', ← hvl] at hlr
          have H := Lib.hid hlr
          clear hlo hlr hbx hs' hvl HL1 HOP
          obtain ⟨An, rfl⟩ : ∃ An, An = A7 := ⟨_, rfl⟩
          obtain ⟨capn, rfl⟩ : ∃ c, c = cap7 := ⟨_, rfl⟩
          have HSM : Hid (∀ w', LR7 W w' lb db vl' ⟨0, rows, sure⟩ s' (.slice An (rows).length capn) (rows) → Row w' w'.heap.size (.slice An (rows).length capn) (sv (rows))) := Lib.hid fun w' h => Row.of_own h.own
          have HLL : Hid ((rows).length ≤ 1000000) := Lib.hid (by have := ext_len (rows); have := HEX.out; have := hk30; omega)
          have HC := Lib.hid (jAll H.out.lj)
          clear x0 x1 x2 x3 x4
          go_wp2_with fail
          refine HC.out.mono ?_; rintro e w8 ⟨u, rfl, hu, hb⟩
          have HU := Lib.hid hu
          replace H := Lib.hid (H.out.below hb)
          clear hu hb HC
          have HC := Lib.hid (sameP (rows) (rows) u _ w8 HU.out (HSM.out _ H.out) (by have := HLL.out; omega) (by have := HLL.out; omega))
          rw [decide_eq_true rfl] at HC
          go_wp2_with fail
          refine HC.out.mono ?_; rintro e w9 ⟨rfl, hb⟩
          replace H := Lib.hid (H.out.below hb)
          clear hb HC HU HSM
          have HC := Lib.hid (jSure H.out.lj)
          simp only at HC
          have hq : ((sure : Nat) != (sure : Nat)) = false := by simp
          have hq2 : (((sure : Nat) : Int) != ((sure : Nat) : Int)) = false := by simp
          go_wp2_with fail
          refine HC.out.mono ?_; rintro e w10 ⟨rfl, rfl⟩
          go_wp2_with fail
          go_roundw
          case rel => exact ⟨k + 1, sure, rows, vl', s', by go_num, rfl, by omega, H.out, HST.out, HPD.out, HEX.out, HSU.out⟩
          case measure => simp [intOf]; omega
        · obtain ⟨s', hs'⟩ : ∃ s', s' = s := ⟨_, rfl⟩
          obtain ⟨vl', hvl⟩ : ∃ vl', vl' = vl := ⟨_, rfl⟩
          have HST : Hid (Still s') := by rw [hs']; exact HST0
          have HPD : Hid (s'.pend.length ≤ 2000 * (k + 1)) := Lib.hid (by rw [hs']; have := HPD0.out; omega)
          have HEX : Hid (ext rows ≤ 1300 + 208 * (k + 1)) := Lib.hid (by have := HEX0.out; omega)
          have HSU := HSU0
          have hlo := LOp.refl HL1.out
          obtain ⟨hlr, hbx⟩ := HOP.out _ _ _ _ hlo
          rw [← hs', ← hvl] at hlr
          have H := Lib.hid hlr
          clear hlo hlr hbx hs' hvl HL1 HOP
          obtain ⟨An, rfl⟩ : ∃ An, An = A7 := ⟨_, rfl⟩
          obtain ⟨capn, rfl⟩ : ∃ c, c = cap7 := ⟨_, rfl⟩
          have HSM : Hid (∀ w', LR7 W w' lb db vl' ⟨0, rows, sure⟩ s' (.slice An (rows).length capn) (rows) → Row w' w'.heap.size (.slice An (rows).length capn) (sv (rows))) := Lib.hid fun w' h => Row.of_own h.own
          have HLL : Hid ((rows).length ≤ 1000000) := Lib.hid (by have := ext_len (rows); have := HEX.out; have := hk30; omega)
          have HC := Lib.hid (jAll H.out.lj)
          clear x0 x1 x2 x3 x4
          go_wp2_with fail
          refine HC.out.mono ?_; rintro e w8 ⟨u, rfl, hu, hb⟩
          have HU := Lib.hid hu
          replace H := Lib.hid (H.out.below hb)
          clear hu hb HC
          have HC := Lib.hid (sameP (rows) (rows) u _ w8 HU.out (HSM.out _ H.out) (by have := HLL.out; omega) (by have := HLL.out; omega))
          rw [decide_eq_true rfl] at HC
          go_wp2_with fail
          refine HC.out.mono ?_; rintro e w9 ⟨rfl, hb⟩
          replace H := Lib.hid (H.out.below hb)
          clear hb HC HU HSM
          have HC := Lib.hid (jSure H.out.lj)
          simp only at HC
          have hq : ((sure : Nat) != (sure : Nat)) = false := by simp
          have hq2 : (((sure : Nat) : Int) != ((sure : Nat) : Int)) = false := by simp
          go_wp2_with fail
          refine HC.out.mono ?_; rintro e w10 ⟨rfl, rfl⟩
          go_wp2_with fail
          go_roundw
          case rel => exact ⟨k + 1, sure, rows, vl', s', by go_num, rfl, by omega, H.out, HST.out, HPD.out, HEX.out, HSU.out⟩
          case measure => simp [intOf]; omega
      · obtain rfl : k = l.length := by omega
        have HE := Lib.hid HLR.out.bel
        clear HLR hlt
        go_wp2_with fail
        go_ret
        exact ⟨rfl, HE.out⟩
end Go.Proofs.Ythdmcjiccbgknaa.journalLists
