/-
  Package isa: the registers in certain fields of an instruction.
-/
import Derived.Test.YtmnhnighlgpjmaaDoorID
namespace Go.Proofs.YtmnhnighlgpjmaaDoor
set_option linter.unusedVariables false
set_option linter.unusedSimpArgs false
open Go.RowKit

theorem infoI : (Tryd.prog.info? 3).map (fun i => (i.zero, i.size, i.bytes)) = some (some (.int .i64 0), 1, 8) := by kernel_rfl
def nv (l : List Nat) : List Value := l.map fun n => .int .i64 (n : Nat)
theorem nv_length (l : List Nat) : (nv l).length = l.length := by simp [nv]
theorem nv_append (a b : List Nat) : nv (a ++ b) = nv a ++ nv b := by simp [nv]
def OwnN (w : World) (base : Nat) (v : Value) (l : List Nat) : Prop := w.ownsRow base 3 1 v l.length (nv l)
theorem OwnN.nil (w : World) (base : Nat) : OwnN w base (.slice none 0 0) [] := World.ownsRow_nil _ _ _ _
theorem OwnN.below {w w' : World} {base : Nat} {v : Value} {l : List Nat} (h : OwnN w base v l) (hb : Below w.heap.size w w') : OwnN w' base v l :=
  World.ownsRow.kept h (grown_below hb none) (by cases v.ownBlock <;> simp)
theorem OwnN.lt {w : World} {base : Nat} {v : Value} {l : List Nat} (h : OwnN w base v l) (k : Nat) (hk : v.ownBlock = some k) : base ≤ k ∧ k < w.heap.size := World.ownsRow.lt h k hk
theorem OwnN.row {w : World} {base : Nat} {v : Value} {l : List Nat} (h : OwnN w base v l) : IRow w v l := by
  rcases h.2 with ⟨h1, h2⟩ | ⟨g, cap, cur, hs, hb, hh, hcap, hmax, hsz, htk⟩
  · obtain rfl := List.eq_nil_of_length_eq_zero h2
    subst h1
    exact IRow.nil w
  · subst hs
    refine ⟨_, cap, rfl, hcap, hmax, fun hp => ⟨g, rfl, (Array.getElem?_eq_some_iff.1 hh).1, fun i hi => ?_⟩⟩
    have h8 : (nv l)[i]? = some (.int .i64 (l[i] : Nat)) := by simp [nv, hi]
    have hc := h.cells (g := g) rfl i _ h8
    have ea : (⟨g, 0, none⟩ : Addr).add i = ⟨g, i, none⟩ := by unfold Addr.add; split <;> simp_all
    rwa [ea] at hc

theorem two_snd' (w : World) (a b : Obj) : ((w.alloc a).alloc b).heap[w.heap.size + 1]? = some b := by
  show ((w.heap.push a).push b)[w.heap.size + 1]? = some b
  rw [show w.heap.size + 1 = (w.heap.push a).size by simp, Array.getElem?_push_size]
theorem idx16u (U : Nat → Bool) (k : Nat) (hk : k < 16) (w : World) : (Instr.index 91 (.agg #[.bool (U 0), .bool (U 1), .bool (U 2), .bool (U 3), .bool (U 4), .bool (U 5), .bool (U 6), .bool (U 7), .bool (U 8), .bool (U 9), .bool (U 10), .bool (U 11), .bool (U 12), .bool (U 13), .bool (U 14), .bool (U 15)]) (.int .i64 (k : Int))).run Tryd.prog w = .ok (.bool (U k)) w := idx16 U k hk w
theorem idx16t (U : Nat → Bool) (k : Nat) (hk : k < 16) (w : World) : (Instr.index 91 (.agg #[.bool (U 0), .bool (U 1), .bool (U 2), .bool (U 3), .bool (U 4), .bool (U 5), .bool (U 6), .bool (U 7), .bool (U 8), .bool (U 9), .bool (U 10), .bool (U 11), .bool (U 12), .bool (U 13), .bool (U 14), .bool true]) (.int .i64 (k : Int))).run Tryd.prog w = .ok (.bool (U k || k == 15)) w := by
  refine idx_aggB Tryd.underlying91 Tryd.underlying4 (by kernel_rfl) _ k hk _ ?_ w
  rcases lt16 hk with rfl | rfl | rfl | rfl | rfl | rfl | rfl | rfl | rfl | rfl | rfl | rfl | rfl | rfl | rfl | rfl <;> simp
def UsRel (w : World) (U : Nat → Bool) (u n : Value) (wl : World) : Prop := ∃ k : Nat, n = .int .i64 k ∧ k ≤ 16 ∧ OwnN wl w.heap.size u ((List.range k).filter U) ∧ Below w.heap.size w wl
theorem filter_yes {U : Nat → Bool} {k : Nat} (h : U k = true) : (List.range (k + 1)).filter U = (List.range k).filter U ++ [k] := by
  rw [List.range_succ, List.filter_append]; simp [h]
theorem filter_no {U : Nat → Bool} {k : Nat} (h : U k = false) : (List.range (k + 1)).filter U = (List.range k).filter U := by
  rw [List.range_succ, List.filter_append]; simp [h]

set_option maxRecDepth 100000 in
set_option maxHeartbeats 4000000 in
theorem usedP (o a b c m : Int) (q : Nat) (w : World) (hq : q < 32) (hreg : ∀ k, k < 4 → hasB q k = true → ∃ n : Nat, n < 16 ∧ fldN ⟨o, a, b, c, m⟩ k = (n : Nat)) :
    Calls Tryd.prog 39 #[.agg #[.int .i64 o, .int .i64 a, .int .i64 b, .int .i64 c, .int .i64 m], .int .u8 q] w (RowPost (usedL ⟨o, a, b, c, m⟩ q) w) := by
  obtain ⟨i0, hi, hz0, hz1, hz2⟩ := info_parts infoI
  have HRG := Lib.hid hreg; clear hreg
  obtain ⟨L, hL0⟩ : ∃ L, usedL ⟨o, a, b, c, m⟩ q = L := ⟨_, rfl⟩
  rw [hL0]
  have HL0 := Lib.hid hL0; clear hL0
  have ix := idx4 a b c m
  have ixU := fun U k (hk : k < 16) w => idx16u U k hk w
  have HIXU := Lib.hid ixU; clear ixU
  go_enter Tryd.func39, Tryd.ntmps39
  go_wp2_with fail
  refine (fieldsOfP a b c m o _).mono ?_; rintro e w2 ⟨rfl, hb⟩
  have hv2 : w2.heap[w.heap.size + 1]? = some (.cells (usesV (usesK ⟨o, a, b, c, m⟩ q 0)) 91) := (hb.block (w.heap.size + 1) (by simp)).trans (two_snd' w _ _)
  have hB2 : Below w.heap.size w w2 := (((Below.refl _ _).alloc (Nat.le_refl _) _).alloc (by simp) _).trans (hb.mono (by simp; omega))
  have HV2 := Lib.hid hv2
  have HB2 := Lib.hid hB2
  clear hb hv2 hB2
  go_wp2_with fail
  go_loopw [13] (fun n wr => ∃ k : Nat, k ≤ 4 ∧ n = .int .i64 k ∧ wr.heap[w.heap.size + 1]? = some (.cells (usesV (usesK ⟨o, a, b, c, m⟩ q k)) 91) ∧ Below w.heap.size w wr) (fun n _ => 4 - (intOf n).toNat)
  case atStart => exact ⟨0, by omega, rfl, HV2.out, HB2.out⟩
  case round =>
    obtain ⟨k, hk, rfl, hc, hB⟩ := hrel
    by_cases hlt : k < 4
    · have ixk := ix k hlt wr
      have HH := Lib.hid (hasP q k wr hq (by omega))
      cases hh : hasB q k
      · rw [hh] at HH
        have HU := Lib.hid (usesK_no (i := ⟨o, a, b, c, m⟩) hh)
        have HC := Lib.hid hc
        have HB := Lib.hid hB
        clear ix hh hc hB
        go_wp2_with fail
        refine HH.out.mono ?_; rintro e w' ⟨rfl, rfl⟩
        go_wp2_with fail
        go_roundw
        case rel => exact ⟨k + 1, by omega, by go_num, by rw [HU.out]; exact HC.out, HB.out⟩
        case measure => simp [intOf]; omega
      · rw [hh] at HH
        obtain ⟨n, hn16, hn⟩ := HRG.out k hlt hh
        have HU := Lib.hid (usesK_yes hh hn)
        rw [fld_op] at hn
        rw [hn] at ixk
        have o0 := (blk_cell hc n).trans (usesV_at _ n hn16)
        have f0 := blk_free hc
        have HC := Lib.hid hc
        have HB := Lib.hid hB
        clear ix hh hc hB hn
        go_wp2_with fail
        refine HH.out.mono ?_; rintro e w' ⟨rfl, rfl⟩
        go_wp2_with fail
        go_roundw
        case rel => exact ⟨k + 1, by omega, by go_num, by rw [HU.out, setCell_block HC.out, usesV_set _ n hn16], HB.out.setCell (by show w.heap.size ≤ w.heap.size + 1; omega) _⟩
        case measure => simp [intOf]; omega
    · obtain rfl : k = 4 := by omega
      clear ix
      have HH := Lib.hid (hasP q 4 wr hq (by omega))
      obtain ⟨K, hK⟩ : ∃ K, usesK ⟨o, a, b, c, m⟩ q 4 = K := ⟨_, rfl⟩
      rw [hK] at hc
      have y0 : wr.cell? ⟨w.heap.size + 1, 0, none⟩ = some (.bool (K 0)) := blk_cell hc 0
      have y1 : wr.cell? ⟨w.heap.size + 1, 1, none⟩ = some (.bool (K 1)) := blk_cell hc 1
      have y2 : wr.cell? ⟨w.heap.size + 1, 2, none⟩ = some (.bool (K 2)) := blk_cell hc 2
      have y3 : wr.cell? ⟨w.heap.size + 1, 3, none⟩ = some (.bool (K 3)) := blk_cell hc 3
      have y4 : wr.cell? ⟨w.heap.size + 1, 4, none⟩ = some (.bool (K 4)) := blk_cell hc 4
      have y5 : wr.cell? ⟨w.heap.size + 1, 5, none⟩ = some (.bool (K 5)) := blk_cell hc 5
      have y6 : wr.cell? ⟨w.heap.size + 1, 6, none⟩ = some (.bool (K 6)) := blk_cell hc 6
      have y7 : wr.cell? ⟨w.heap.size + 1, 7, none⟩ = some (.bool (K 7)) := blk_cell hc 7
      have y8 : wr.cell? ⟨w.heap.size + 1, 8, none⟩ = some (.bool (K 8)) := blk_cell hc 8
      have y9 : wr.cell? ⟨w.heap.size + 1, 9, none⟩ = some (.bool (K 9)) := blk_cell hc 9
      have y10 : wr.cell? ⟨w.heap.size + 1, 10, none⟩ = some (.bool (K 10)) := blk_cell hc 10
      have y11 : wr.cell? ⟨w.heap.size + 1, 11, none⟩ = some (.bool (K 11)) := blk_cell hc 11
      have y12 : wr.cell? ⟨w.heap.size + 1, 12, none⟩ = some (.bool (K 12)) := blk_cell hc 12
      have y13 : wr.cell? ⟨w.heap.size + 1, 13, none⟩ = some (.bool (K 13)) := blk_cell hc 13
      have y14 : wr.cell? ⟨w.heap.size + 1, 14, none⟩ = some (.bool (K 14)) := blk_cell hc 14
      have y15 : wr.cell? ⟨w.heap.size + 1, 15, none⟩ = some (.bool (K 15)) := blk_cell hc 15
      have f0 := blk_free hc
      have HB := Lib.hid hB
      have hL := HL0.out
      unfold usedL at hL
      cases hh : hasB q 4
      · rw [hh] at HH
        obtain ⟨U, hU⟩ : ∃ U, K = U := ⟨_, rfl⟩
        have HUL : Hid ((List.range 16).filter U = L) := Lib.hid (by
          rw [← hL]
          congr 1
          funext r
          show U r = (usesK ⟨o, a, b, c, m⟩ q 4 r || (hasB q 4 && r == 15))
          rw [hK, hh, hU]; simp)
        have HIX := Lib.hid (HIXU.out U)
        subst hU
        have HBS := HB
        clear hL hK hh hc hB
        go_wp2_with fail
        refine HH.out.mono ?_; rintro e w' ⟨rfl, rfl⟩
        go_wp2_with fail
        clear y0 y1 y2 y3 y4 y5 y6 y7 y8 y9 y10 y11 y12 y13 y14 y15
        obtain ⟨U, hU⟩ : ∃ U, K = U := ⟨_, rfl⟩
        rw [hU] at HUL HIX
        simp only [hU]
        clear hU
        go_loopw [8, 27] (fun u n wl => UsRel w U u n wl) (fun _ n _ => 16 - (intOf n).toNat)
        case atStart => exact ⟨0, rfl, by omega, OwnN.nil _ _, HBS.out⟩
        case round =>
          obtain ⟨k, rfl, hk, ho, hB⟩ := hrel
          have hsz := hB.size
          by_cases hlt : k < 16
          · have ixk := HIX.out k hlt wr
            cases hu : U k
            · rw [hu] at ixk
              have HF := Lib.hid (filter_no hu)
              have HOW := Lib.hid ho
              have HBR := Lib.hid hB
              clear hu ho hB
              go_wp2_with fail
              go_roundw
              case rel => exact ⟨k + 1, by go_num, by omega, by rw [HF.out]; exact HOW.out, HBR.out⟩
              case measure => simp [intOf]; omega
            · rw [hu] at ixk
              have HT := Lib.hid (filter_yes hu)
              have hlen : ((List.range k).filter U).length ≤ 16 := Nat.le_trans (List.length_filter_le _ _) (by simp; omega)
              have ho3 := ho.below (below_new wr (.cells #[.int .i64 (k : Nat)] 3))
              have hB3 := hB.alloc hsz (.cells #[.int .i64 (k : Nat)] 3)
              obtain ⟨v', w4, hrun, ho4, hg4, _, _⟩ := run_append_own_at (P := Tryd.prog) (wr.alloc (.cells #[.int .i64 (k : Nat)] 3)) w.heap.size 34 34 3 i0 (.int .i64 0) 1 8 Tryd.underlying34 hi hz0 hz1 hz2 rfl (by decide) _ _ _ ho3 ⟨wr.heap.size, 0, none⟩ 1 1 [.int .i64 (k : Nat)] rfl (fun j u hu => by
                cases j with
                | zero =>
                  simp at hu
                  subst hu
                  exact blk_cell (block_new wr _) 0
                | succ j => simp at hu) (fun u hu => by rw [List.mem_singleton.1 hu]; rfl) (by unfold maxLen; omega) (by omega) (by simp; omega)
              obtain ⟨g', cap', rfl⟩ := own_succ ho4
              have HO4 : Hid (OwnN w4 w.heap.size (.slice (some ⟨g', 0, none⟩) (((List.range k).filter U).length + 1) cap') ((List.range (k + 1)).filter U)) := Lib.hid (by
                unfold OwnN
                rw [HT.out, nv_append, List.length_append]
                exact ho4)
              have HB4 := Lib.hid (hB3.grown hg4 (by simp; omega) (fun j hj => (ho3.lt j hj).1))
              have HRUN := Lib.hid hrun
              clear hu ho hB ho3 hB3 hlen hrun ho4 hg4
              go_wp2_with (at_builtin; refine Lib.wpList_append_run_sl _ rfl _ _ 34 rfl _ _ rfl rfl HRUN.out ?_)
              go_roundw
              case rel => exact ⟨k + 1, by go_num, by omega, HO4.out, HB4.out⟩
              case measure => simp [intOf]; omega
          · obtain rfl : k = 16 := by omega
            have HF : Hid (RowPost L w (.returned u8) wr) := Lib.hid ⟨_, rfl, by rw [← HUL.out]; exact ho.row, hB⟩
            clear ho hB
            go_wp2_with fail
            go_ret
            exact HF.out
      · rw [hh] at HH
        obtain ⟨U, hU⟩ : ∃ U : Nat → Bool, U = fun r => K r || r == 15 := ⟨_, rfl⟩
        have HUL : Hid ((List.range 16).filter U = L) := Lib.hid (by
          rw [← hL]
          congr 1
          funext r
          show U r = (usesK ⟨o, a, b, c, m⟩ q 4 r || (hasB q 4 && r == 15))
          rw [hK, hh, hU]; simp)
        have HIX := Lib.hid (fun k hk w => (show U k = (K k || k == 15) by rw [hU]) ▸ idx16t K k hk w)
        have HBS := Lib.hid (HB.out.setCell (p := ⟨w.heap.size + 1, 15, none⟩) (by show w.heap.size ≤ w.heap.size + 1; omega) (.bool true))
        clear hL hK hh hc hB hU
        go_wp2_with fail
        refine HH.out.mono ?_; rintro e w' ⟨rfl, rfl⟩
        go_wp2_with fail
        clear y0 y1 y2 y3 y4 y5 y6 y7 y8 y9 y10 y11 y12 y13 y14 y15
        go_loopw [8, 27] (fun u n wl => UsRel w U u n wl) (fun _ n _ => 16 - (intOf n).toNat)
        case atStart => exact ⟨0, rfl, by omega, OwnN.nil _ _, HBS.out⟩
        case round =>
          obtain ⟨k, rfl, hk, ho, hB⟩ := hrel
          have hsz := hB.size
          by_cases hlt : k < 16
          · have ixk := HIX.out k hlt wr
            cases hu : U k
            · rw [hu] at ixk
              have HF := Lib.hid (filter_no hu)
              have HOW := Lib.hid ho
              have HBR := Lib.hid hB
              clear hu ho hB
              go_wp2_with fail
              go_roundw
              case rel => exact ⟨k + 1, by go_num, by omega, by rw [HF.out]; exact HOW.out, HBR.out⟩
              case measure => simp [intOf]; omega
            · rw [hu] at ixk
              have HT := Lib.hid (filter_yes hu)
              have hlen : ((List.range k).filter U).length ≤ 16 := Nat.le_trans (List.length_filter_le _ _) (by simp; omega)
              have ho3 := ho.below (below_new wr (.cells #[.int .i64 (k : Nat)] 3))
              have hB3 := hB.alloc hsz (.cells #[.int .i64 (k : Nat)] 3)
              obtain ⟨v', w4, hrun, ho4, hg4, _, _⟩ := run_append_own_at (P := Tryd.prog) (wr.alloc (.cells #[.int .i64 (k : Nat)] 3)) w.heap.size 34 34 3 i0 (.int .i64 0) 1 8 Tryd.underlying34 hi hz0 hz1 hz2 rfl (by decide) _ _ _ ho3 ⟨wr.heap.size, 0, none⟩ 1 1 [.int .i64 (k : Nat)] rfl (fun j u hu => by
                cases j with
                | zero =>
                  simp at hu
                  subst hu
                  exact blk_cell (block_new wr _) 0
                | succ j => simp at hu) (fun u hu => by rw [List.mem_singleton.1 hu]; rfl) (by unfold maxLen; omega) (by omega) (by simp; omega)
              obtain ⟨g', cap', rfl⟩ := own_succ ho4
              have HO4 : Hid (OwnN w4 w.heap.size (.slice (some ⟨g', 0, none⟩) (((List.range k).filter U).length + 1) cap') ((List.range (k + 1)).filter U)) := Lib.hid (by
                unfold OwnN
                rw [HT.out, nv_append, List.length_append]
                exact ho4)
              have HB4 := Lib.hid (hB3.grown hg4 (by simp; omega) (fun j hj => (ho3.lt j hj).1))
              have HRUN := Lib.hid hrun
              clear hu ho hB ho3 hB3 hlen hrun ho4 hg4
              go_wp2_with (at_builtin; refine Lib.wpList_append_run_sl _ rfl _ _ 34 rfl _ _ rfl rfl HRUN.out ?_)
              go_roundw
              case rel => exact ⟨k + 1, by go_num, by omega, HO4.out, HB4.out⟩
              case measure => simp [intOf]; omega
          · obtain rfl : k = 16 := by omega
            have HF : Hid (RowPost L w (.returned u8) wr) := Lib.hid ⟨_, rfl, by rw [← HUL.out]; exact ho.row, hB⟩
            clear ho hB
            go_wp2_with fail
            go_ret
            exact HF.out
end Go.Proofs.YtmnhnighlgpjmaaDoor
