/-
  The reference of isa: uses, system, Uses.
-/
import Derived.Test.YtmnhnighlgpjmaaDoorK0
import Derived.Test.YtmnhnighlgpjmaaDoorIG
import Derived.RegionTactic
import Derived.ChangeAlike
import Derived.Deep.RegionHeld3
namespace Go.Proofs.YtmnhnighlgpjmaaDoor
set_option linter.unusedVariables false
set_option linter.unusedSimpArgs false
open Go.RowKit

/-- The registers of a list, each once, ascending. -/
def regL (l : List Nat) : List Nat := (List.range 16).filter fun r => l.contains r
def R9Rel (w : World) (l : List Nat) (U : Nat → Bool) (vl u n : Value) (wl : World) : Prop := ∃ k : Nat, n = .int .i64 k ∧ k ≤ 16 ∧ OwnN wl w.heap.size u ((List.range k).filter U) ∧ IRow wl vl l ∧ Below w.heap.size w wl
set_option maxRecDepth 100000 in
set_option maxHeartbeats 8000000 in
theorem rusesP (v : Value) (l : List Nat) (w : World) (hv : IRow w v l) : Calls Tryd.prog 40 #[v] w (RowPost (regL l) w) := by
  obtain ⟨i0, hi, hz0, hz1, hz2⟩ := info_parts infoI
  obtain ⟨L, hL⟩ : ∃ L, regL l = L := ⟨_, rfl⟩
  rw [hL]
  unfold regL at hL
  obtain ⟨U, hU⟩ : ∃ U : Nat → Bool, (fun r => l.contains r) = U := ⟨_, rfl⟩
  have HCU := Lib.hid (fun r => congrFun hU r)
  rw [hU] at hL
  have HUL : Hid ((List.range 16).filter U = L) := Lib.hid hL
  clear hL hU
  have HV := Lib.hid hv
  clear hv
  go_enter Tryd.func40, Tryd.ntmps40
  go_wp2_with fail
  go_loopw [3, 4] (fun u n wl => R9Rel w l U v u n wl) (fun _ n _ => 16 - (intOf n).toNat)
  case atStart => exact ⟨0, rfl, by omega, OwnN.nil _ _, HV.out, Below.refl _ _⟩
  case round =>
    obtain ⟨k, rfl, hk, ho, hr, hB⟩ := hrel
    have hsz := hB.size
    by_cases hlt : k < 16
    · have HC := Lib.hid (hasLP v l k wr hr)
      have hcu : l.contains k = U k := HCU.out k
      rw [hcu] at HC
      have HRR := Lib.hid hr
      clear hr hcu
      cases hu : U k
      · rw [hu] at HC
        have HF := Lib.hid (filter_no hu)
        have HOW := Lib.hid ho
        have HBR := Lib.hid hB
        clear hu ho hB
        go_wp2_with fail
        refine HC.out.mono ?_; rintro e w' ⟨rfl, rfl⟩
        go_wp2_with fail
        go_roundw
        case rel => exact ⟨k + 1, by go_num, by omega, by rw [HF.out]; exact HOW.out, HRR.out, HBR.out⟩
        case measure => simp [intOf]; omega
      · rw [hu] at HC
        have HT := Lib.hid (filter_yes hu)
        have hlen : ((List.range k).filter U).length ≤ 16 := Nat.le_trans (List.length_filter_le _ _) (by simp; omega)
        have ho3 := ho.below (below_new wr (.cells #[.int .i64 (k : Nat)] 3))
        have hB3 := hB.alloc hsz (.cells #[.int .i64 (k : Nat)] 3)
        obtain ⟨v', w4, hrun, ho4, hg4, _, _⟩ := run_append_own_at (P := Tryd.prog) (wr.alloc (.cells #[.int .i64 (k : Nat)] 3)) w.heap.size 34 34 3 i0 (.int .i64 0) 1 8 Tryd.underlying34 hi hz0 hz1 hz2 rfl (by decide) _ _ _ ho3 ⟨wr.heap.size, 0, none⟩ 1 1 [.int .i64 (k : Nat)] rfl (fun j u hu => by
          cases j with
          | zero =>
            simp at hu
            subst hu
            exact blk_cell (block_new wr _) 0
          | succ j => simp at hu) (fun u hu => by rw [List.mem_singleton.1 hu]; rfl) (by unfold maxLen; omega) (by omega) (by simp; omega)
        obtain ⟨g', cap', rfl⟩ := own_succ ho4
        have HO4 : Hid (OwnN w4 w.heap.size (.slice (some ⟨g', 0, none⟩) (((List.range k).filter U).length + 1) cap') ((List.range (k + 1)).filter U)) := Lib.hid (by
          unfold OwnN
          rw [HT.out, nv_append, List.length_append]
          exact ho4)
        have HB4 := Lib.hid (hB3.grown hg4 (by simp; omega) (fun j hj => (ho3.lt j hj).1))
        have HR4 : Hid (IRow w4 v l) := Lib.hid (HV.out.keep HB4.out)
        have HRUN := Lib.hid hrun
        clear hu ho hB ho3 hB3 hlen hrun ho4 hg4
        go_wp2_with fail
        refine HC.out.mono ?_; rintro e w' ⟨rfl, rfl⟩
        go_wp2_with (at_builtin; refine Lib.wpList_append_run_sl _ rfl _ _ 34 rfl _ _ rfl rfl HRUN.out ?_)
        go_roundw
        case rel => exact ⟨k + 1, by go_num, by omega, HO4.out, HR4.out, HB4.out⟩
        case measure => simp [intOf]; omega
    · obtain rfl : k = 16 := by omega
      have HF : Hid (RowPost L w (.returned u3) wr) := Lib.hid ⟨_, rfl, by rw [← HUL.out]; exact ho.row, hB⟩
      clear ho hB hr
      go_wp2_with fail
      go_ret
      exact HF.out

theorem two_rows (W : World) (xs ys : Array Value) (t t2 : TypeId) (u v : Value) (l r : List Nat) (hu : IRow (W.alloc (.cells xs t)) u l) (hv : IRow ((W.alloc (.cells xs t)).alloc (.cells ys t2)) v r) : RowsPost l r W (.returned (.tuple #[u, v])) ((W.alloc (.cells xs t)).alloc (.cells ys t2)) :=
  ⟨u, v, rfl, hu.keep (below_new _ _), hv, (below_new _ _).alloc (by simp) _⟩
set_option maxRecDepth 100000 in
set_option maxHeartbeats 4000000 in
theorem systemP (n : Nat) (w : World) (hn : n < 8) : Calls Tryd.prog 41 #[.int .i64 n] w (RowsPost (List.range (sysR.getD n 0)) (List.range (sysW.getD n 0)) w) := by
  have hc : n = 0 ∨ n = 1 ∨ n = 2 ∨ n = 3 ∨ n = 4 ∨ n = 5 ∨ n = 6 ∨ n = 7 := by omega
  rcases hc with rfl | rfl | rfl | rfl | rfl | rfl | rfl | rfl
  · have HF : Hid (RowsPost [] [] w (.returned (.tuple #[.slice none 0 0, .slice none 0 0])) w) := Lib.hid (⟨_, _, rfl, IRow.nil _, IRow.nil _, Below.refl _ _⟩)
    go_enter Tryd.func41, Tryd.ntmps41
    go_wp2_with fail
    go_ret2
    exact HF.out
  · have HF : Hid (RowsPost [0] [] w (.returned (.tuple #[.slice (some ⟨w.heap.size, 0, none⟩) 1 1, .slice none 0 0])) (w.alloc (.cells #[.int .i64 ((0 : Nat) : Int)] 3))) := Lib.hid (⟨_, _, rfl, row1 w 0 _, IRow.nil _, below_new w _⟩)
    go_enter Tryd.func41, Tryd.ntmps41
    go_wp2_with fail
    go_ret2
    exact HF.out
  · have HF : Hid (RowsPost [0] [0] w (.returned (.tuple #[.slice (some ⟨w.heap.size, 0, none⟩) 1 1, .slice (some ⟨w.heap.size + 1, 0, none⟩) 1 1])) ((w.alloc (.cells #[.int .i64 ((0 : Nat) : Int)] 3)).alloc (.cells #[.int .i64 ((0 : Nat) : Int)] 3))) := Lib.hid (by
      have := two_rows w _ _ _ 3 _ _ _ _ (row1 w 0 3) (row1 (w.alloc (.cells #[.int .i64 ((0 : Nat) : Int)] 3)) 0 3)
      simpa using this)
    go_enter Tryd.func41, Tryd.ntmps41
    go_wp2_with fail
    go_ret2
    exact HF.out
  · have HF : Hid (RowsPost [0, 1] [0] w (.returned (.tuple #[.slice (some ⟨w.heap.size, 0, none⟩) 2 2, .slice (some ⟨w.heap.size + 1, 0, none⟩) 1 1])) ((w.alloc (.cells #[.int .i64 ((0 : Nat) : Int), .int .i64 ((1 : Nat) : Int)] 3)).alloc (.cells #[.int .i64 ((0 : Nat) : Int)] 3))) := Lib.hid (by
      have := two_rows w _ _ _ 3 _ _ _ _ (row2 w 0 1 3) (row1 (w.alloc (.cells #[.int .i64 ((0 : Nat) : Int), .int .i64 ((1 : Nat) : Int)] 3)) 0 3)
      simpa using this)
    go_enter Tryd.func41, Tryd.ntmps41
    go_wp2_with fail
    go_ret2
    exact HF.out
  · have HF : Hid (RowsPost [] [] w (.returned (.tuple #[.slice none 0 0, .slice none 0 0])) w) := Lib.hid (⟨_, _, rfl, IRow.nil _, IRow.nil _, Below.refl _ _⟩)
    go_enter Tryd.func41, Tryd.ntmps41
    go_wp2_with fail
    go_ret2
    exact HF.out
  · have HF : Hid (RowsPost [0, 1, 2] [0] w (.returned (.tuple #[.slice (some ⟨w.heap.size, 0, none⟩) 3 3, .slice (some ⟨w.heap.size + 1, 0, none⟩) 1 1])) ((w.alloc (.cells #[.int .i64 ((0 : Nat) : Int), .int .i64 ((1 : Nat) : Int), .int .i64 ((2 : Nat) : Int)] 3)).alloc (.cells #[.int .i64 ((0 : Nat) : Int)] 3))) := Lib.hid (by
      have := two_rows w _ _ _ 3 _ _ _ _ (row3 w 0 1 2 3) (row1 (w.alloc (.cells #[.int .i64 ((0 : Nat) : Int), .int .i64 ((1 : Nat) : Int), .int .i64 ((2 : Nat) : Int)] 3)) 0 3)
      simpa using this)
    go_enter Tryd.func41, Tryd.ntmps41
    go_wp2_with fail
    go_ret2
    exact HF.out
  · have HF : Hid (RowsPost [0] [0] w (.returned (.tuple #[.slice (some ⟨w.heap.size, 0, none⟩) 1 1, .slice (some ⟨w.heap.size + 1, 0, none⟩) 1 1])) ((w.alloc (.cells #[.int .i64 ((0 : Nat) : Int)] 3)).alloc (.cells #[.int .i64 ((0 : Nat) : Int)] 3))) := Lib.hid (by
      have := two_rows w _ _ _ 3 _ _ _ _ (row1 w 0 3) (row1 (w.alloc (.cells #[.int .i64 ((0 : Nat) : Int)] 3)) 0 3)
      simpa using this)
    go_enter Tryd.func41, Tryd.ntmps41
    go_wp2_with fail
    go_ret2
    exact HF.out
  · have HF : Hid (RowsPost [0, 1, 2] [0] w (.returned (.tuple #[.slice (some ⟨w.heap.size, 0, none⟩) 3 3, .slice (some ⟨w.heap.size + 1, 0, none⟩) 1 1])) ((w.alloc (.cells #[.int .i64 ((0 : Nat) : Int), .int .i64 ((1 : Nat) : Int), .int .i64 ((2 : Nat) : Int)] 3)).alloc (.cells #[.int .i64 ((0 : Nat) : Int)] 3))) := Lib.hid (by
      have := two_rows w _ _ _ 3 _ _ _ _ (row3 w 0 1 2 3) (row1 (w.alloc (.cells #[.int .i64 ((0 : Nat) : Int), .int .i64 ((1 : Nat) : Int), .int .i64 ((2 : Nat) : Int)] 3)) 0 3)
      simpa using this)
    go_enter Tryd.func41, Tryd.ntmps41
    go_wp2_with fail
    go_ret2
    exact HF.out

theorem reg1 : ∀ a, a < 16 → (List.range 16).filter (fun r => r == a) = [a] := by decide
theorem used0 (o a b c m : Int) : usedL ⟨o, a, b, c, m⟩ 0 = [] := by
  unfold usedL
  rw [List.filter_eq_nil_iff]
  intro r _
  simp [usesB, usesK, hasB, List.range, List.range.loop]
theorem used_eq (i : Ins) (q : Nat) (f : Nat → Bool) (h : ∀ r, usesB i q r = f r) : usedL i q = (List.range 16).filter f := by
  unfold usedL
  exact congrArg (fun p => (List.range 16).filter p) (funext h)
theorem beqN (x r : Nat) : (((x : Nat) : Int) == ((r : Nat) : Int)) = (r == x) := by
  rw [Bool.eq_iff_iff]; simp; omega
theorem usedA (o m : Int) (a : Nat) (b c : Int) (ha : a < 16) : usedL ⟨o, (a : Nat), b, c, m⟩ 1 = [a] := by
  rw [used_eq _ _ (fun r => r == a) (fun r => by simp [usesB, usesK, hasB, List.range, List.range.loop, fldN, beqN]), reg1 a ha]
theorem usedB (o m : Int) (b : Nat) (a c : Int) (hb : b < 16) : usedL ⟨o, a, (b : Nat), c, m⟩ 2 = [b] := by
  rw [used_eq _ _ (fun r => r == b) (fun r => by simp [usesB, usesK, hasB, List.range, List.range.loop, fldN, beqN]), reg1 b hb]
theorem used15 (o a b c m : Int) : usedL ⟨o, a, b, c, m⟩ 16 = [15] := by
  rw [used_eq _ _ (fun r => r == 15) (fun r => by simp [usesB, usesK, hasB, List.range, List.range.loop, fldN]), reg1 15 (by decide)]
theorem usedAB (o m : Int) (a b : Nat) (c : Int) : usedL ⟨o, (a : Nat), (b : Nat), c, m⟩ 3 = regL [a, b] :=
  used_eq _ _ _ (fun r => by simp [usesB, usesK, hasB, List.range, List.range.loop, fldN, beqN]; first | done | rfl | skip)
theorem usedBC (o m : Int) (b c : Nat) (a : Int) : usedL ⟨o, a, (b : Nat), (c : Nat), m⟩ 6 = regL [b, c] :=
  used_eq _ _ _ (fun r => by simp [usesB, usesK, hasB, List.range, List.range.loop, fldN, beqN]; first | done | rfl | skip)
theorem usedA15 (o m : Int) (a : Nat) (b c : Int) : usedL ⟨o, (a : Nat), b, c, m⟩ 17 = regL [a, 15] :=
  used_eq _ _ _ (fun r => by simp [usesB, usesK, hasB, List.range, List.range.loop, fldN, beqN]; first | done | rfl | skip)
theorem row_one {W W' : World} {g : Nat} {x : Nat} {t : TypeId} (h : W'.heap[g]? = some (.cells #[.int .i64 (x : Nat)] t)) : IRow W' (.slice (some ⟨g, 0, none⟩) 1 1) [x] :=
  ⟨_, 1, rfl, Nat.le_refl _, by decide, fun _ => ⟨g, rfl, (Array.getElem?_eq_some_iff.1 h).1, fun i hi => by
    have : i = 0 := by simpa using hi
    subst this
    exact blk_cell h 0⟩⟩
/-- Below the box and behind Right. -/
structure Uw (w w2 : World) (N a b c m : Int) : Prop where
  bel : Below w.heap.size w w2
  box : w2.heap[w.heap.size]? = some (.cells #[.int .i64 N, .int .i64 a, .int .i64 b, .int .i64 c, .int .i64 m] 23)
set_option maxRecDepth 100000 in
set_option maxHeartbeats 4000000 in
theorem rU1 (a b c : Nat) (m : Int) (w : World) (h : rightB ⟨1, (a : Nat), (b : Nat), (c : Nat), m⟩ = true) :
    Calls Tryd.prog 16 #[.agg #[.int .i64 1, .int .i64 a, .int .i64 b, .int .i64 c, .int .i64 m]] w (RowsPost [] [] w) := by
  have HB0 := Lib.hid (below_new w (.cells #[.int .i64 1, .int .i64 a, .int .i64 b, .int .i64 c, .int .i64 m] 23))
  have HR := Lib.hid (rRightP 1 (a : Nat) (b : Nat) (c : Nat) m (w.alloc (.cells #[.int .i64 1, .int .i64 a, .int .i64 b, .int .i64 c, .int .i64 m] 23)))
  rw [h] at HR
  clear h
  go_enter Tryd.func16, Tryd.ntmps16
  go_wp2_with fail
  refine HR.out.mono ?_; rintro e w2 ⟨rfl, hb⟩
  have HB2 := Lib.hid (HB0.out.trans (hb.mono (by simp)))
  have hk2 := (hb.block w.heap.size (by simp)).trans (block_new w _)
  have c0 : w2.cell? ⟨w.heap.size, 0, none⟩ = some (.int .i64 1) := blk_cell hk2 0
  have c1 : w2.cell? ⟨w.heap.size, 1, none⟩ = some (.int .i64 a) := blk_cell hk2 1
  have c2 : w2.cell? ⟨w.heap.size, 2, none⟩ = some (.int .i64 b) := blk_cell hk2 2
  have c3 : w2.cell? ⟨w.heap.size, 3, none⟩ = some (.int .i64 c) := blk_cell hk2 3
  have c4 : w2.cell? ⟨w.heap.size, 4, none⟩ = some (.int .i64 m) := blk_cell hk2 4
  clear hb hk2 HR
  go_wp2_with fail
  have HF : Hid (RowsPost [] [] w (.returned (.tuple #[.slice none 0 0, .slice none 0 0])) w2) := Lib.hid ⟨_, _, rfl, IRow.nil _, IRow.nil _, HB2.out⟩
  go_ret2
  exact HF.out
set_option maxRecDepth 100000 in
set_option maxHeartbeats 4000000 in
theorem rU2 (a b c : Nat) (m : Int) (w : World) (h : rightB ⟨2, (a : Nat), (b : Nat), (c : Nat), m⟩ = true) :
    Calls Tryd.prog 16 #[.agg #[.int .i64 2, .int .i64 a, .int .i64 b, .int .i64 c, .int .i64 m]] w (RowsPost [] [] w) := by
  have HB0 := Lib.hid (below_new w (.cells #[.int .i64 2, .int .i64 a, .int .i64 b, .int .i64 c, .int .i64 m] 23))
  have HR := Lib.hid (rRightP 2 (a : Nat) (b : Nat) (c : Nat) m (w.alloc (.cells #[.int .i64 2, .int .i64 a, .int .i64 b, .int .i64 c, .int .i64 m] 23)))
  rw [h] at HR
  clear h
  go_enter Tryd.func16, Tryd.ntmps16
  go_wp2_with fail
  refine HR.out.mono ?_; rintro e w2 ⟨rfl, hb⟩
  have HB2 := Lib.hid (HB0.out.trans (hb.mono (by simp)))
  have hk2 := (hb.block w.heap.size (by simp)).trans (block_new w _)
  have c0 : w2.cell? ⟨w.heap.size, 0, none⟩ = some (.int .i64 2) := blk_cell hk2 0
  have c1 : w2.cell? ⟨w.heap.size, 1, none⟩ = some (.int .i64 a) := blk_cell hk2 1
  have c2 : w2.cell? ⟨w.heap.size, 2, none⟩ = some (.int .i64 b) := blk_cell hk2 2
  have c3 : w2.cell? ⟨w.heap.size, 3, none⟩ = some (.int .i64 c) := blk_cell hk2 3
  have c4 : w2.cell? ⟨w.heap.size, 4, none⟩ = some (.int .i64 m) := blk_cell hk2 4
  clear hb hk2 HR
  go_wp2_with fail
  have HF : Hid (RowsPost [] [] w (.returned (.tuple #[.slice none 0 0, .slice none 0 0])) w2) := Lib.hid ⟨_, _, rfl, IRow.nil _, IRow.nil _, HB2.out⟩
  go_ret2
  exact HF.out
set_option maxRecDepth 100000 in
set_option maxHeartbeats 4000000 in
theorem rU19 (a b c : Nat) (m : Int) (w : World) (h : rightB ⟨19, (a : Nat), (b : Nat), (c : Nat), m⟩ = true) :
    Calls Tryd.prog 16 #[.agg #[.int .i64 19, .int .i64 a, .int .i64 b, .int .i64 c, .int .i64 m]] w (RowsPost [] [] w) := by
  have HB0 := Lib.hid (below_new w (.cells #[.int .i64 19, .int .i64 a, .int .i64 b, .int .i64 c, .int .i64 m] 23))
  have HR := Lib.hid (rRightP 19 (a : Nat) (b : Nat) (c : Nat) m (w.alloc (.cells #[.int .i64 19, .int .i64 a, .int .i64 b, .int .i64 c, .int .i64 m] 23)))
  rw [h] at HR
  clear h
  go_enter Tryd.func16, Tryd.ntmps16
  go_wp2_with fail
  refine HR.out.mono ?_; rintro e w2 ⟨rfl, hb⟩
  have HB2 := Lib.hid (HB0.out.trans (hb.mono (by simp)))
  have hk2 := (hb.block w.heap.size (by simp)).trans (block_new w _)
  have c0 : w2.cell? ⟨w.heap.size, 0, none⟩ = some (.int .i64 19) := blk_cell hk2 0
  have c1 : w2.cell? ⟨w.heap.size, 1, none⟩ = some (.int .i64 a) := blk_cell hk2 1
  have c2 : w2.cell? ⟨w.heap.size, 2, none⟩ = some (.int .i64 b) := blk_cell hk2 2
  have c3 : w2.cell? ⟨w.heap.size, 3, none⟩ = some (.int .i64 c) := blk_cell hk2 3
  have c4 : w2.cell? ⟨w.heap.size, 4, none⟩ = some (.int .i64 m) := blk_cell hk2 4
  clear hb hk2 HR
  go_wp2_with fail
  have HF : Hid (RowsPost [] [] w (.returned (.tuple #[.slice none 0 0, .slice none 0 0])) w2) := Lib.hid ⟨_, _, rfl, IRow.nil _, IRow.nil _, HB2.out⟩
  go_ret2
  exact HF.out
set_option maxRecDepth 100000 in
set_option maxHeartbeats 4000000 in
theorem rU25 (a b c : Nat) (m : Int) (w : World) (h : rightB ⟨25, (a : Nat), (b : Nat), (c : Nat), m⟩ = true) :
    Calls Tryd.prog 16 #[.agg #[.int .i64 25, .int .i64 a, .int .i64 b, .int .i64 c, .int .i64 m]] w (RowsPost [] [] w) := by
  have HB0 := Lib.hid (below_new w (.cells #[.int .i64 25, .int .i64 a, .int .i64 b, .int .i64 c, .int .i64 m] 23))
  have HR := Lib.hid (rRightP 25 (a : Nat) (b : Nat) (c : Nat) m (w.alloc (.cells #[.int .i64 25, .int .i64 a, .int .i64 b, .int .i64 c, .int .i64 m] 23)))
  rw [h] at HR
  clear h
  go_enter Tryd.func16, Tryd.ntmps16
  go_wp2_with fail
  refine HR.out.mono ?_; rintro e w2 ⟨rfl, hb⟩
  have HB2 := Lib.hid (HB0.out.trans (hb.mono (by simp)))
  have hk2 := (hb.block w.heap.size (by simp)).trans (block_new w _)
  have c0 : w2.cell? ⟨w.heap.size, 0, none⟩ = some (.int .i64 25) := blk_cell hk2 0
  have c1 : w2.cell? ⟨w.heap.size, 1, none⟩ = some (.int .i64 a) := blk_cell hk2 1
  have c2 : w2.cell? ⟨w.heap.size, 2, none⟩ = some (.int .i64 b) := blk_cell hk2 2
  have c3 : w2.cell? ⟨w.heap.size, 3, none⟩ = some (.int .i64 c) := blk_cell hk2 3
  have c4 : w2.cell? ⟨w.heap.size, 4, none⟩ = some (.int .i64 m) := blk_cell hk2 4
  clear hb hk2 HR
  go_wp2_with fail
  have HF : Hid (RowsPost [] [] w (.returned (.tuple #[.slice none 0 0, .slice none 0 0])) w2) := Lib.hid ⟨_, _, rfl, IRow.nil _, IRow.nil _, HB2.out⟩
  go_ret2
  exact HF.out
set_option maxRecDepth 100000 in
set_option maxHeartbeats 4000000 in
theorem rU3 (a b c : Nat) (m : Int) (w : World) (h : rightB ⟨3, (a : Nat), (b : Nat), (c : Nat), m⟩ = true) :
    Calls Tryd.prog 16 #[.agg #[.int .i64 3, .int .i64 a, .int .i64 b, .int .i64 c, .int .i64 m]] w (RowsPost [] [a] w) := by
  have HB0 := Lib.hid (below_new w (.cells #[.int .i64 3, .int .i64 a, .int .i64 b, .int .i64 c, .int .i64 m] 23))
  have HR := Lib.hid (rRightP 3 (a : Nat) (b : Nat) (c : Nat) m (w.alloc (.cells #[.int .i64 3, .int .i64 a, .int .i64 b, .int .i64 c, .int .i64 m] 23)))
  rw [h] at HR
  clear h
  go_enter Tryd.func16, Tryd.ntmps16
  go_wp2_with fail
  refine HR.out.mono ?_; rintro e w2 ⟨rfl, hb⟩
  have HB2 := Lib.hid (HB0.out.trans (hb.mono (by simp)))
  have hk2 := (hb.block w.heap.size (by simp)).trans (block_new w _)
  have c0 : w2.cell? ⟨w.heap.size, 0, none⟩ = some (.int .i64 3) := blk_cell hk2 0
  have c1 : w2.cell? ⟨w.heap.size, 1, none⟩ = some (.int .i64 a) := blk_cell hk2 1
  have c2 : w2.cell? ⟨w.heap.size, 2, none⟩ = some (.int .i64 b) := blk_cell hk2 2
  have c3 : w2.cell? ⟨w.heap.size, 3, none⟩ = some (.int .i64 c) := blk_cell hk2 3
  have c4 : w2.cell? ⟨w.heap.size, 4, none⟩ = some (.int .i64 m) := blk_cell hk2 4
  clear hb hk2 HR
  go_wp2_with fail
  go_region
  all_goals
    go_wp2_with fail
    have HF : Hid (RowsPost [] [a] w (.returned (.tuple #[.slice none 0 0, .slice (some ⟨w2.heap.size, 0, none⟩) 1 1])) (w2.alloc (.cells #[.int .i64 (a : Nat)] 3)).drew) := Lib.hid ⟨_, _, rfl, IRow.nil _, row_one (W := w2) (block_new w2 _), (HB2.out.trans (((below_new w2 _).drew).mono HB2.out.size))⟩
    go_ret2
    exact HF.out
set_option maxRecDepth 100000 in
set_option maxHeartbeats 4000000 in
theorem rU14 (a b c : Nat) (m : Int) (w : World) (h : rightB ⟨14, (a : Nat), (b : Nat), (c : Nat), m⟩ = true) :
    Calls Tryd.prog 16 #[.agg #[.int .i64 14, .int .i64 a, .int .i64 b, .int .i64 c, .int .i64 m]] w (RowsPost [] [a] w) := by
  have HB0 := Lib.hid (below_new w (.cells #[.int .i64 14, .int .i64 a, .int .i64 b, .int .i64 c, .int .i64 m] 23))
  have HR := Lib.hid (rRightP 14 (a : Nat) (b : Nat) (c : Nat) m (w.alloc (.cells #[.int .i64 14, .int .i64 a, .int .i64 b, .int .i64 c, .int .i64 m] 23)))
  rw [h] at HR
  clear h
  go_enter Tryd.func16, Tryd.ntmps16
  go_wp2_with fail
  refine HR.out.mono ?_; rintro e w2 ⟨rfl, hb⟩
  have HB2 := Lib.hid (HB0.out.trans (hb.mono (by simp)))
  have hk2 := (hb.block w.heap.size (by simp)).trans (block_new w _)
  have c0 : w2.cell? ⟨w.heap.size, 0, none⟩ = some (.int .i64 14) := blk_cell hk2 0
  have c1 : w2.cell? ⟨w.heap.size, 1, none⟩ = some (.int .i64 a) := blk_cell hk2 1
  have c2 : w2.cell? ⟨w.heap.size, 2, none⟩ = some (.int .i64 b) := blk_cell hk2 2
  have c3 : w2.cell? ⟨w.heap.size, 3, none⟩ = some (.int .i64 c) := blk_cell hk2 3
  have c4 : w2.cell? ⟨w.heap.size, 4, none⟩ = some (.int .i64 m) := blk_cell hk2 4
  clear hb hk2 HR
  go_wp2_with fail
  go_region
  all_goals
    go_wp2_with fail
    have HF : Hid (RowsPost [] [a] w (.returned (.tuple #[.slice none 0 0, .slice (some ⟨w2.heap.size, 0, none⟩) 1 1])) (w2.alloc (.cells #[.int .i64 (a : Nat)] 3)).drew) := Lib.hid ⟨_, _, rfl, IRow.nil _, row_one (W := w2) (block_new w2 _), (HB2.out.trans (((below_new w2 _).drew).mono HB2.out.size))⟩
    go_ret2
    exact HF.out
set_option maxRecDepth 100000 in
set_option maxHeartbeats 4000000 in
theorem rU4 (a b c : Nat) (m : Int) (w : World) (h : rightB ⟨4, (a : Nat), (b : Nat), (c : Nat), m⟩ = true) :
    Calls Tryd.prog 16 #[.agg #[.int .i64 4, .int .i64 a, .int .i64 b, .int .i64 c, .int .i64 m]] w (RowsPost [a] [a] w) := by
  have HB0 := Lib.hid (below_new w (.cells #[.int .i64 4, .int .i64 a, .int .i64 b, .int .i64 c, .int .i64 m] 23))
  have HR := Lib.hid (rRightP 4 (a : Nat) (b : Nat) (c : Nat) m (w.alloc (.cells #[.int .i64 4, .int .i64 a, .int .i64 b, .int .i64 c, .int .i64 m] 23)))
  rw [h] at HR
  clear h
  go_enter Tryd.func16, Tryd.ntmps16
  go_wp2_with fail
  refine HR.out.mono ?_; rintro e w2 ⟨rfl, hb⟩
  have HB2 := Lib.hid (HB0.out.trans (hb.mono (by simp)))
  have hk2 := (hb.block w.heap.size (by simp)).trans (block_new w _)
  have c0 : w2.cell? ⟨w.heap.size, 0, none⟩ = some (.int .i64 4) := blk_cell hk2 0
  have c1 : w2.cell? ⟨w.heap.size, 1, none⟩ = some (.int .i64 a) := blk_cell hk2 1
  have c2 : w2.cell? ⟨w.heap.size, 2, none⟩ = some (.int .i64 b) := blk_cell hk2 2
  have c3 : w2.cell? ⟨w.heap.size, 3, none⟩ = some (.int .i64 c) := blk_cell hk2 3
  have c4 : w2.cell? ⟨w.heap.size, 4, none⟩ = some (.int .i64 m) := blk_cell hk2 4
  clear hb hk2 HR
  go_wp2_with fail
  have d1 := fun o : Obj => keep_below (below_new w2 o) c1
  have d2 := fun o : Obj => keep_below (below_new w2 o) c2
  go_region
  all_goals
    go_wp2_with fail
    have HB4 : Hid (∀ o p : Obj, Below w.heap.size w ((w2.alloc o).alloc p).drew) := Lib.hid (fun o p => HB2.out.trans ((((below_new w2 o).alloc (by simp) p).drew).mono HB2.out.size))
    have H1 : Hid (∀ o p : Obj, ((w2.alloc o).alloc p).drew.heap[w2.heap.size]? = some o) := Lib.hid (fun o p => two_first w2 o p)
    have H2 : Hid (∀ o p : Obj, ((w2.alloc o).alloc p).drew.heap[w2.heap.size + 1]? = some p) := Lib.hid (fun o p => two_second w2 o p)
    go_ret2
    first
      | exact ⟨_, _, rfl, row_one (W := w2) (H1.out _ _), row_one (W := w2) (H2.out _ _), HB4.out _ _⟩
      | exact ⟨_, _, rfl, row_one (W := w2) (H2.out _ _), row_one (W := w2) (H1.out _ _), HB4.out _ _⟩
set_option maxRecDepth 100000 in
set_option maxHeartbeats 4000000 in
theorem rU5 (a b c : Nat) (m : Int) (w : World) (h : rightB ⟨5, (a : Nat), (b : Nat), (c : Nat), m⟩ = true) :
    Calls Tryd.prog 16 #[.agg #[.int .i64 5, .int .i64 a, .int .i64 b, .int .i64 c, .int .i64 m]] w (RowsPost [b] [a] w) := by
  have HB0 := Lib.hid (below_new w (.cells #[.int .i64 5, .int .i64 a, .int .i64 b, .int .i64 c, .int .i64 m] 23))
  have HR := Lib.hid (rRightP 5 (a : Nat) (b : Nat) (c : Nat) m (w.alloc (.cells #[.int .i64 5, .int .i64 a, .int .i64 b, .int .i64 c, .int .i64 m] 23)))
  rw [h] at HR
  clear h
  go_enter Tryd.func16, Tryd.ntmps16
  go_wp2_with fail
  refine HR.out.mono ?_; rintro e w2 ⟨rfl, hb⟩
  have HB2 := Lib.hid (HB0.out.trans (hb.mono (by simp)))
  have hk2 := (hb.block w.heap.size (by simp)).trans (block_new w _)
  have c0 : w2.cell? ⟨w.heap.size, 0, none⟩ = some (.int .i64 5) := blk_cell hk2 0
  have c1 : w2.cell? ⟨w.heap.size, 1, none⟩ = some (.int .i64 a) := blk_cell hk2 1
  have c2 : w2.cell? ⟨w.heap.size, 2, none⟩ = some (.int .i64 b) := blk_cell hk2 2
  have c3 : w2.cell? ⟨w.heap.size, 3, none⟩ = some (.int .i64 c) := blk_cell hk2 3
  have c4 : w2.cell? ⟨w.heap.size, 4, none⟩ = some (.int .i64 m) := blk_cell hk2 4
  clear hb hk2 HR
  go_wp2_with fail
  have d1 := fun o : Obj => keep_below (below_new w2 o) c1
  have d2 := fun o : Obj => keep_below (below_new w2 o) c2
  go_region
  all_goals
    go_wp2_with fail
    have HB4 : Hid (∀ o p : Obj, Below w.heap.size w ((w2.alloc o).alloc p).drew) := Lib.hid (fun o p => HB2.out.trans ((((below_new w2 o).alloc (by simp) p).drew).mono HB2.out.size))
    have H1 : Hid (∀ o p : Obj, ((w2.alloc o).alloc p).drew.heap[w2.heap.size]? = some o) := Lib.hid (fun o p => two_first w2 o p)
    have H2 : Hid (∀ o p : Obj, ((w2.alloc o).alloc p).drew.heap[w2.heap.size + 1]? = some p) := Lib.hid (fun o p => two_second w2 o p)
    go_ret2
    first
      | exact ⟨_, _, rfl, row_one (W := w2) (H1.out _ _), row_one (W := w2) (H2.out _ _), HB4.out _ _⟩
      | exact ⟨_, _, rfl, row_one (W := w2) (H2.out _ _), row_one (W := w2) (H1.out _ _), HB4.out _ _⟩
set_option maxRecDepth 100000 in
set_option maxHeartbeats 4000000 in
theorem rU13 (a b c : Nat) (m : Int) (w : World) (h : rightB ⟨13, (a : Nat), (b : Nat), (c : Nat), m⟩ = true) :
    Calls Tryd.prog 16 #[.agg #[.int .i64 13, .int .i64 a, .int .i64 b, .int .i64 c, .int .i64 m]] w (RowsPost [b] [a] w) := by
  have HB0 := Lib.hid (below_new w (.cells #[.int .i64 13, .int .i64 a, .int .i64 b, .int .i64 c, .int .i64 m] 23))
  have HR := Lib.hid (rRightP 13 (a : Nat) (b : Nat) (c : Nat) m (w.alloc (.cells #[.int .i64 13, .int .i64 a, .int .i64 b, .int .i64 c, .int .i64 m] 23)))
  rw [h] at HR
  clear h
  go_enter Tryd.func16, Tryd.ntmps16
  go_wp2_with fail
  refine HR.out.mono ?_; rintro e w2 ⟨rfl, hb⟩
  have HB2 := Lib.hid (HB0.out.trans (hb.mono (by simp)))
  have hk2 := (hb.block w.heap.size (by simp)).trans (block_new w _)
  have c0 : w2.cell? ⟨w.heap.size, 0, none⟩ = some (.int .i64 13) := blk_cell hk2 0
  have c1 : w2.cell? ⟨w.heap.size, 1, none⟩ = some (.int .i64 a) := blk_cell hk2 1
  have c2 : w2.cell? ⟨w.heap.size, 2, none⟩ = some (.int .i64 b) := blk_cell hk2 2
  have c3 : w2.cell? ⟨w.heap.size, 3, none⟩ = some (.int .i64 c) := blk_cell hk2 3
  have c4 : w2.cell? ⟨w.heap.size, 4, none⟩ = some (.int .i64 m) := blk_cell hk2 4
  clear hb hk2 HR
  go_wp2_with fail
  have d1 := fun o : Obj => keep_below (below_new w2 o) c1
  have d2 := fun o : Obj => keep_below (below_new w2 o) c2
  go_region
  all_goals
    go_wp2_with fail
    have HB4 : Hid (∀ o p : Obj, Below w.heap.size w ((w2.alloc o).alloc p).drew) := Lib.hid (fun o p => HB2.out.trans ((((below_new w2 o).alloc (by simp) p).drew).mono HB2.out.size))
    have H1 : Hid (∀ o p : Obj, ((w2.alloc o).alloc p).drew.heap[w2.heap.size]? = some o) := Lib.hid (fun o p => two_first w2 o p)
    have H2 : Hid (∀ o p : Obj, ((w2.alloc o).alloc p).drew.heap[w2.heap.size + 1]? = some p) := Lib.hid (fun o p => two_second w2 o p)
    go_ret2
    first
      | exact ⟨_, _, rfl, row_one (W := w2) (H1.out _ _), row_one (W := w2) (H2.out _ _), HB4.out _ _⟩
      | exact ⟨_, _, rfl, row_one (W := w2) (H2.out _ _), row_one (W := w2) (H1.out _ _), HB4.out _ _⟩
set_option maxRecDepth 100000 in
set_option maxHeartbeats 4000000 in
theorem rU15 (a b c : Nat) (m : Int) (w : World) (h : rightB ⟨15, (a : Nat), (b : Nat), (c : Nat), m⟩ = true) :
    Calls Tryd.prog 16 #[.agg #[.int .i64 15, .int .i64 a, .int .i64 b, .int .i64 c, .int .i64 m]] w (RowsPost [b] [a] w) := by
  have HB0 := Lib.hid (below_new w (.cells #[.int .i64 15, .int .i64 a, .int .i64 b, .int .i64 c, .int .i64 m] 23))
  have HR := Lib.hid (rRightP 15 (a : Nat) (b : Nat) (c : Nat) m (w.alloc (.cells #[.int .i64 15, .int .i64 a, .int .i64 b, .int .i64 c, .int .i64 m] 23)))
  rw [h] at HR
  clear h
  go_enter Tryd.func16, Tryd.ntmps16
  go_wp2_with fail
  refine HR.out.mono ?_; rintro e w2 ⟨rfl, hb⟩
  have HB2 := Lib.hid (HB0.out.trans (hb.mono (by simp)))
  have hk2 := (hb.block w.heap.size (by simp)).trans (block_new w _)
  have c0 : w2.cell? ⟨w.heap.size, 0, none⟩ = some (.int .i64 15) := blk_cell hk2 0
  have c1 : w2.cell? ⟨w.heap.size, 1, none⟩ = some (.int .i64 a) := blk_cell hk2 1
  have c2 : w2.cell? ⟨w.heap.size, 2, none⟩ = some (.int .i64 b) := blk_cell hk2 2
  have c3 : w2.cell? ⟨w.heap.size, 3, none⟩ = some (.int .i64 c) := blk_cell hk2 3
  have c4 : w2.cell? ⟨w.heap.size, 4, none⟩ = some (.int .i64 m) := blk_cell hk2 4
  clear hb hk2 HR
  go_wp2_with fail
  have d1 := fun o : Obj => keep_below (below_new w2 o) c1
  have d2 := fun o : Obj => keep_below (below_new w2 o) c2
  go_region
  all_goals
    go_wp2_with fail
    have HB4 : Hid (∀ o p : Obj, Below w.heap.size w ((w2.alloc o).alloc p).drew) := Lib.hid (fun o p => HB2.out.trans ((((below_new w2 o).alloc (by simp) p).drew).mono HB2.out.size))
    have H1 : Hid (∀ o p : Obj, ((w2.alloc o).alloc p).drew.heap[w2.heap.size]? = some o) := Lib.hid (fun o p => two_first w2 o p)
    have H2 : Hid (∀ o p : Obj, ((w2.alloc o).alloc p).drew.heap[w2.heap.size + 1]? = some p) := Lib.hid (fun o p => two_second w2 o p)
    go_ret2
    first
      | exact ⟨_, _, rfl, row_one (W := w2) (H1.out _ _), row_one (W := w2) (H2.out _ _), HB4.out _ _⟩
      | exact ⟨_, _, rfl, row_one (W := w2) (H2.out _ _), row_one (W := w2) (H1.out _ _), HB4.out _ _⟩
set_option maxRecDepth 100000 in
set_option maxHeartbeats 4000000 in
theorem rU16 (a b c : Nat) (m : Int) (w : World) (h : rightB ⟨16, (a : Nat), (b : Nat), (c : Nat), m⟩ = true) :
    Calls Tryd.prog 16 #[.agg #[.int .i64 16, .int .i64 a, .int .i64 b, .int .i64 c, .int .i64 m]] w (RowsPost [b] [a] w) := by
  have HB0 := Lib.hid (below_new w (.cells #[.int .i64 16, .int .i64 a, .int .i64 b, .int .i64 c, .int .i64 m] 23))
  have HR := Lib.hid (rRightP 16 (a : Nat) (b : Nat) (c : Nat) m (w.alloc (.cells #[.int .i64 16, .int .i64 a, .int .i64 b, .int .i64 c, .int .i64 m] 23)))
  rw [h] at HR
  clear h
  go_enter Tryd.func16, Tryd.ntmps16
  go_wp2_with fail
  refine HR.out.mono ?_; rintro e w2 ⟨rfl, hb⟩
  have HB2 := Lib.hid (HB0.out.trans (hb.mono (by simp)))
  have hk2 := (hb.block w.heap.size (by simp)).trans (block_new w _)
  have c0 : w2.cell? ⟨w.heap.size, 0, none⟩ = some (.int .i64 16) := blk_cell hk2 0
  have c1 : w2.cell? ⟨w.heap.size, 1, none⟩ = some (.int .i64 a) := blk_cell hk2 1
  have c2 : w2.cell? ⟨w.heap.size, 2, none⟩ = some (.int .i64 b) := blk_cell hk2 2
  have c3 : w2.cell? ⟨w.heap.size, 3, none⟩ = some (.int .i64 c) := blk_cell hk2 3
  have c4 : w2.cell? ⟨w.heap.size, 4, none⟩ = some (.int .i64 m) := blk_cell hk2 4
  clear hb hk2 HR
  go_wp2_with fail
  have d1 := fun o : Obj => keep_below (below_new w2 o) c1
  have d2 := fun o : Obj => keep_below (below_new w2 o) c2
  go_region
  all_goals
    go_wp2_with fail
    have HB4 : Hid (∀ o p : Obj, Below w.heap.size w ((w2.alloc o).alloc p).drew) := Lib.hid (fun o p => HB2.out.trans ((((below_new w2 o).alloc (by simp) p).drew).mono HB2.out.size))
    have H1 : Hid (∀ o p : Obj, ((w2.alloc o).alloc p).drew.heap[w2.heap.size]? = some o) := Lib.hid (fun o p => two_first w2 o p)
    have H2 : Hid (∀ o p : Obj, ((w2.alloc o).alloc p).drew.heap[w2.heap.size + 1]? = some p) := Lib.hid (fun o p => two_second w2 o p)
    go_ret2
    first
      | exact ⟨_, _, rfl, row_one (W := w2) (H1.out _ _), row_one (W := w2) (H2.out _ _), HB4.out _ _⟩
      | exact ⟨_, _, rfl, row_one (W := w2) (H2.out _ _), row_one (W := w2) (H1.out _ _), HB4.out _ _⟩
set_option maxRecDepth 100000 in
set_option maxHeartbeats 4000000 in
theorem rU29 (a b c : Nat) (m : Int) (w : World) (h : rightB ⟨29, (a : Nat), (b : Nat), (c : Nat), m⟩ = true) :
    Calls Tryd.prog 16 #[.agg #[.int .i64 29, .int .i64 a, .int .i64 b, .int .i64 c, .int .i64 m]] w (RowsPost [b] [a] w) := by
  have HB0 := Lib.hid (below_new w (.cells #[.int .i64 29, .int .i64 a, .int .i64 b, .int .i64 c, .int .i64 m] 23))
  have HR := Lib.hid (rRightP 29 (a : Nat) (b : Nat) (c : Nat) m (w.alloc (.cells #[.int .i64 29, .int .i64 a, .int .i64 b, .int .i64 c, .int .i64 m] 23)))
  rw [h] at HR
  clear h
  go_enter Tryd.func16, Tryd.ntmps16
  go_wp2_with fail
  refine HR.out.mono ?_; rintro e w2 ⟨rfl, hb⟩
  have HB2 := Lib.hid (HB0.out.trans (hb.mono (by simp)))
  have hk2 := (hb.block w.heap.size (by simp)).trans (block_new w _)
  have c0 : w2.cell? ⟨w.heap.size, 0, none⟩ = some (.int .i64 29) := blk_cell hk2 0
  have c1 : w2.cell? ⟨w.heap.size, 1, none⟩ = some (.int .i64 a) := blk_cell hk2 1
  have c2 : w2.cell? ⟨w.heap.size, 2, none⟩ = some (.int .i64 b) := blk_cell hk2 2
  have c3 : w2.cell? ⟨w.heap.size, 3, none⟩ = some (.int .i64 c) := blk_cell hk2 3
  have c4 : w2.cell? ⟨w.heap.size, 4, none⟩ = some (.int .i64 m) := blk_cell hk2 4
  clear hb hk2 HR
  go_wp2_with fail
  have d1 := fun o : Obj => keep_below (below_new w2 o) c1
  have d2 := fun o : Obj => keep_below (below_new w2 o) c2
  go_region
  all_goals
    go_wp2_with fail
    have HB4 : Hid (∀ o p : Obj, Below w.heap.size w ((w2.alloc o).alloc p).drew) := Lib.hid (fun o p => HB2.out.trans ((((below_new w2 o).alloc (by simp) p).drew).mono HB2.out.size))
    have H1 : Hid (∀ o p : Obj, ((w2.alloc o).alloc p).drew.heap[w2.heap.size]? = some o) := Lib.hid (fun o p => two_first w2 o p)
    have H2 : Hid (∀ o p : Obj, ((w2.alloc o).alloc p).drew.heap[w2.heap.size + 1]? = some p) := Lib.hid (fun o p => two_second w2 o p)
    go_ret2
    first
      | exact ⟨_, _, rfl, row_one (W := w2) (H1.out _ _), row_one (W := w2) (H2.out _ _), HB4.out _ _⟩
      | exact ⟨_, _, rfl, row_one (W := w2) (H2.out _ _), row_one (W := w2) (H1.out _ _), HB4.out _ _⟩
set_option maxRecDepth 100000 in
set_option maxHeartbeats 4000000 in
theorem rU17 (a b c : Nat) (m : Int) (w : World) (h : rightB ⟨17, (a : Nat), (b : Nat), (c : Nat), m⟩ = true) :
    Calls Tryd.prog 16 #[.agg #[.int .i64 17, .int .i64 a, .int .i64 b, .int .i64 c, .int .i64 m]] w (RowsPost (regL [a, b]) [] w) := by
  have HB0 := Lib.hid (below_new w (.cells #[.int .i64 17, .int .i64 a, .int .i64 b, .int .i64 c, .int .i64 m] 23))
  have HR := Lib.hid (rRightP 17 (a : Nat) (b : Nat) (c : Nat) m (w.alloc (.cells #[.int .i64 17, .int .i64 a, .int .i64 b, .int .i64 c, .int .i64 m] 23)))
  rw [h] at HR
  clear h
  go_enter Tryd.func16, Tryd.ntmps16
  go_wp2_with fail
  refine HR.out.mono ?_; rintro e w2 ⟨rfl, hb⟩
  have HB2 := Lib.hid (HB0.out.trans (hb.mono (by simp)))
  have hk2 := (hb.block w.heap.size (by simp)).trans (block_new w _)
  have c0 : w2.cell? ⟨w.heap.size, 0, none⟩ = some (.int .i64 17) := blk_cell hk2 0
  have c1 : w2.cell? ⟨w.heap.size, 1, none⟩ = some (.int .i64 a) := blk_cell hk2 1
  have c2 : w2.cell? ⟨w.heap.size, 2, none⟩ = some (.int .i64 b) := blk_cell hk2 2
  have c3 : w2.cell? ⟨w.heap.size, 3, none⟩ = some (.int .i64 c) := blk_cell hk2 3
  have c4 : w2.cell? ⟨w.heap.size, 4, none⟩ = some (.int .i64 m) := blk_cell hk2 4
  clear hb hk2 HR
  go_wp2_with fail
  have HU := Lib.hid (rusesP (.slice (some ⟨w2.heap.size, 0, none⟩) 2 2) [a, b] (w2.alloc (.cells #[.int .i64 (a : Nat), .int .i64 (b : Nat)] 3)) (row2 w2 a b _))
  refine HU.out.mono ?_; rintro e w3 ⟨v, rfl, hrow, hb⟩
  have HF : Hid (RowsPost (regL [a, b]) [] w (.returned (.tuple #[v, .slice none 0 0])) w3) := Lib.hid ⟨_, _, rfl, hrow, IRow.nil _, HB2.out.trans (((below_new w2 _).trans (hb.mono (by simp))).mono HB2.out.size)⟩
  clear hrow hb
  go_wp2_with fail
  go_ret2
  exact HF.out
set_option maxRecDepth 100000 in
set_option maxHeartbeats 4000000 in
theorem rU18 (a b c : Nat) (m : Int) (w : World) (h : rightB ⟨18, (a : Nat), (b : Nat), (c : Nat), m⟩ = true) :
    Calls Tryd.prog 16 #[.agg #[.int .i64 18, .int .i64 a, .int .i64 b, .int .i64 c, .int .i64 m]] w (RowsPost (regL [a, b]) [] w) := by
  have HB0 := Lib.hid (below_new w (.cells #[.int .i64 18, .int .i64 a, .int .i64 b, .int .i64 c, .int .i64 m] 23))
  have HR := Lib.hid (rRightP 18 (a : Nat) (b : Nat) (c : Nat) m (w.alloc (.cells #[.int .i64 18, .int .i64 a, .int .i64 b, .int .i64 c, .int .i64 m] 23)))
  rw [h] at HR
  clear h
  go_enter Tryd.func16, Tryd.ntmps16
  go_wp2_with fail
  refine HR.out.mono ?_; rintro e w2 ⟨rfl, hb⟩
  have HB2 := Lib.hid (HB0.out.trans (hb.mono (by simp)))
  have hk2 := (hb.block w.heap.size (by simp)).trans (block_new w _)
  have c0 : w2.cell? ⟨w.heap.size, 0, none⟩ = some (.int .i64 18) := blk_cell hk2 0
  have c1 : w2.cell? ⟨w.heap.size, 1, none⟩ = some (.int .i64 a) := blk_cell hk2 1
  have c2 : w2.cell? ⟨w.heap.size, 2, none⟩ = some (.int .i64 b) := blk_cell hk2 2
  have c3 : w2.cell? ⟨w.heap.size, 3, none⟩ = some (.int .i64 c) := blk_cell hk2 3
  have c4 : w2.cell? ⟨w.heap.size, 4, none⟩ = some (.int .i64 m) := blk_cell hk2 4
  clear hb hk2 HR
  go_wp2_with fail
  have HU := Lib.hid (rusesP (.slice (some ⟨w2.heap.size, 0, none⟩) 2 2) [a, b] (w2.alloc (.cells #[.int .i64 (a : Nat), .int .i64 (b : Nat)] 3)) (row2 w2 a b _))
  refine HU.out.mono ?_; rintro e w3 ⟨v, rfl, hrow, hb⟩
  have HF : Hid (RowsPost (regL [a, b]) [] w (.returned (.tuple #[v, .slice none 0 0])) w3) := Lib.hid ⟨_, _, rfl, hrow, IRow.nil _, HB2.out.trans (((below_new w2 _).trans (hb.mono (by simp))).mono HB2.out.size)⟩
  clear hrow hb
  go_wp2_with fail
  go_ret2
  exact HF.out
set_option maxRecDepth 100000 in
set_option maxHeartbeats 4000000 in
theorem rU20 (a b c : Nat) (m : Int) (w : World) (h : rightB ⟨20, (a : Nat), (b : Nat), (c : Nat), m⟩ = true) :
    Calls Tryd.prog 16 #[.agg #[.int .i64 20, .int .i64 a, .int .i64 b, .int .i64 c, .int .i64 m]] w (RowsPost [a] [] w) := by
  have HB0 := Lib.hid (below_new w (.cells #[.int .i64 20, .int .i64 a, .int .i64 b, .int .i64 c, .int .i64 m] 23))
  have HR := Lib.hid (rRightP 20 (a : Nat) (b : Nat) (c : Nat) m (w.alloc (.cells #[.int .i64 20, .int .i64 a, .int .i64 b, .int .i64 c, .int .i64 m] 23)))
  rw [h] at HR
  clear h
  go_enter Tryd.func16, Tryd.ntmps16
  go_wp2_with fail
  refine HR.out.mono ?_; rintro e w2 ⟨rfl, hb⟩
  have HB2 := Lib.hid (HB0.out.trans (hb.mono (by simp)))
  have hk2 := (hb.block w.heap.size (by simp)).trans (block_new w _)
  have c0 : w2.cell? ⟨w.heap.size, 0, none⟩ = some (.int .i64 20) := blk_cell hk2 0
  have c1 : w2.cell? ⟨w.heap.size, 1, none⟩ = some (.int .i64 a) := blk_cell hk2 1
  have c2 : w2.cell? ⟨w.heap.size, 2, none⟩ = some (.int .i64 b) := blk_cell hk2 2
  have c3 : w2.cell? ⟨w.heap.size, 3, none⟩ = some (.int .i64 c) := blk_cell hk2 3
  have c4 : w2.cell? ⟨w.heap.size, 4, none⟩ = some (.int .i64 m) := blk_cell hk2 4
  clear hb hk2 HR
  go_wp2_with fail
  have HF : Hid (RowsPost [a] [] w (.returned (.tuple #[.slice (some ⟨w2.heap.size, 0, none⟩) 1 1, .slice none 0 0])) (w2.alloc (.cells #[.int .i64 (a : Nat)] 3))) := Lib.hid ⟨_, _, rfl, row1 w2 a _, IRow.nil _, HB2.out.alloc HB2.out.size _⟩
  go_ret2
  exact HF.out
set_option maxRecDepth 100000 in
set_option maxHeartbeats 4000000 in
theorem rU21 (a b c : Nat) (m : Int) (w : World) (h : rightB ⟨21, (a : Nat), (b : Nat), (c : Nat), m⟩ = true) :
    Calls Tryd.prog 16 #[.agg #[.int .i64 21, .int .i64 a, .int .i64 b, .int .i64 c, .int .i64 m]] w (RowsPost [a] [] w) := by
  have HB0 := Lib.hid (below_new w (.cells #[.int .i64 21, .int .i64 a, .int .i64 b, .int .i64 c, .int .i64 m] 23))
  have HR := Lib.hid (rRightP 21 (a : Nat) (b : Nat) (c : Nat) m (w.alloc (.cells #[.int .i64 21, .int .i64 a, .int .i64 b, .int .i64 c, .int .i64 m] 23)))
  rw [h] at HR
  clear h
  go_enter Tryd.func16, Tryd.ntmps16
  go_wp2_with fail
  refine HR.out.mono ?_; rintro e w2 ⟨rfl, hb⟩
  have HB2 := Lib.hid (HB0.out.trans (hb.mono (by simp)))
  have hk2 := (hb.block w.heap.size (by simp)).trans (block_new w _)
  have c0 : w2.cell? ⟨w.heap.size, 0, none⟩ = some (.int .i64 21) := blk_cell hk2 0
  have c1 : w2.cell? ⟨w.heap.size, 1, none⟩ = some (.int .i64 a) := blk_cell hk2 1
  have c2 : w2.cell? ⟨w.heap.size, 2, none⟩ = some (.int .i64 b) := blk_cell hk2 2
  have c3 : w2.cell? ⟨w.heap.size, 3, none⟩ = some (.int .i64 c) := blk_cell hk2 3
  have c4 : w2.cell? ⟨w.heap.size, 4, none⟩ = some (.int .i64 m) := blk_cell hk2 4
  clear hb hk2 HR
  go_wp2_with fail
  have HF : Hid (RowsPost [a] [] w (.returned (.tuple #[.slice (some ⟨w2.heap.size, 0, none⟩) 1 1, .slice none 0 0])) (w2.alloc (.cells #[.int .i64 (a : Nat)] 3))) := Lib.hid ⟨_, _, rfl, row1 w2 a _, IRow.nil _, HB2.out.alloc HB2.out.size _⟩
  go_ret2
  exact HF.out
set_option maxRecDepth 100000 in
set_option maxHeartbeats 4000000 in
theorem rU22 (a b c : Nat) (m : Int) (w : World) (h : rightB ⟨22, (a : Nat), (b : Nat), (c : Nat), m⟩ = true) :
    Calls Tryd.prog 16 #[.agg #[.int .i64 22, .int .i64 a, .int .i64 b, .int .i64 c, .int .i64 m]] w (RowsPost [15] [15] w) := by
  have HB0 := Lib.hid (below_new w (.cells #[.int .i64 22, .int .i64 a, .int .i64 b, .int .i64 c, .int .i64 m] 23))
  have HR := Lib.hid (rRightP 22 (a : Nat) (b : Nat) (c : Nat) m (w.alloc (.cells #[.int .i64 22, .int .i64 a, .int .i64 b, .int .i64 c, .int .i64 m] 23)))
  rw [h] at HR
  clear h
  go_enter Tryd.func16, Tryd.ntmps16
  go_wp2_with fail
  refine HR.out.mono ?_; rintro e w2 ⟨rfl, hb⟩
  have HB2 := Lib.hid (HB0.out.trans (hb.mono (by simp)))
  have hk2 := (hb.block w.heap.size (by simp)).trans (block_new w _)
  have c0 : w2.cell? ⟨w.heap.size, 0, none⟩ = some (.int .i64 22) := blk_cell hk2 0
  have c1 : w2.cell? ⟨w.heap.size, 1, none⟩ = some (.int .i64 a) := blk_cell hk2 1
  have c2 : w2.cell? ⟨w.heap.size, 2, none⟩ = some (.int .i64 b) := blk_cell hk2 2
  have c3 : w2.cell? ⟨w.heap.size, 3, none⟩ = some (.int .i64 c) := blk_cell hk2 3
  have c4 : w2.cell? ⟨w.heap.size, 4, none⟩ = some (.int .i64 m) := blk_cell hk2 4
  clear hb hk2 HR
  go_wp2_with fail
  have HF : Hid (RowsPost [15] [15] w (.returned (.tuple #[.slice (some ⟨w2.heap.size, 0, none⟩) 1 1, .slice (some ⟨w2.heap.size + 1, 0, none⟩) 1 1])) ((w2.alloc (.cells #[.int .i64 (15 : Nat)] 3)).alloc (.cells #[.int .i64 (15 : Nat)] 3))) := Lib.hid ⟨_, _, rfl, (row1 w2 15 _).keep (below_new _ _), by have := row1 (w2.alloc (.cells #[.int .i64 (15 : Nat)] 3)) 15 3; simpa using this, (HB2.out.alloc HB2.out.size _).alloc (by have := HB2.out.size; simp; omega) _⟩
  go_ret2
  exact HF.out
set_option maxRecDepth 100000 in
set_option maxHeartbeats 4000000 in
theorem rU24 (a b c : Nat) (m : Int) (w : World) (h : rightB ⟨24, (a : Nat), (b : Nat), (c : Nat), m⟩ = true) :
    Calls Tryd.prog 16 #[.agg #[.int .i64 24, .int .i64 a, .int .i64 b, .int .i64 c, .int .i64 m]] w (RowsPost [15] [15] w) := by
  have HB0 := Lib.hid (below_new w (.cells #[.int .i64 24, .int .i64 a, .int .i64 b, .int .i64 c, .int .i64 m] 23))
  have HR := Lib.hid (rRightP 24 (a : Nat) (b : Nat) (c : Nat) m (w.alloc (.cells #[.int .i64 24, .int .i64 a, .int .i64 b, .int .i64 c, .int .i64 m] 23)))
  rw [h] at HR
  clear h
  go_enter Tryd.func16, Tryd.ntmps16
  go_wp2_with fail
  refine HR.out.mono ?_; rintro e w2 ⟨rfl, hb⟩
  have HB2 := Lib.hid (HB0.out.trans (hb.mono (by simp)))
  have hk2 := (hb.block w.heap.size (by simp)).trans (block_new w _)
  have c0 : w2.cell? ⟨w.heap.size, 0, none⟩ = some (.int .i64 24) := blk_cell hk2 0
  have c1 : w2.cell? ⟨w.heap.size, 1, none⟩ = some (.int .i64 a) := blk_cell hk2 1
  have c2 : w2.cell? ⟨w.heap.size, 2, none⟩ = some (.int .i64 b) := blk_cell hk2 2
  have c3 : w2.cell? ⟨w.heap.size, 3, none⟩ = some (.int .i64 c) := blk_cell hk2 3
  have c4 : w2.cell? ⟨w.heap.size, 4, none⟩ = some (.int .i64 m) := blk_cell hk2 4
  clear hb hk2 HR
  go_wp2_with fail
  have HF : Hid (RowsPost [15] [15] w (.returned (.tuple #[.slice (some ⟨w2.heap.size, 0, none⟩) 1 1, .slice (some ⟨w2.heap.size + 1, 0, none⟩) 1 1])) ((w2.alloc (.cells #[.int .i64 (15 : Nat)] 3)).alloc (.cells #[.int .i64 (15 : Nat)] 3))) := Lib.hid ⟨_, _, rfl, (row1 w2 15 _).keep (below_new _ _), by have := row1 (w2.alloc (.cells #[.int .i64 (15 : Nat)] 3)) 15 3; simpa using this, (HB2.out.alloc HB2.out.size _).alloc (by have := HB2.out.size; simp; omega) _⟩
  go_ret2
  exact HF.out
set_option maxRecDepth 100000 in
set_option maxHeartbeats 4000000 in
theorem rU26 (a b c : Nat) (m : Int) (w : World) (h : rightB ⟨26, (a : Nat), (b : Nat), (c : Nat), m⟩ = true) :
    Calls Tryd.prog 16 #[.agg #[.int .i64 26, .int .i64 a, .int .i64 b, .int .i64 c, .int .i64 m]] w (RowsPost [15] [15] w) := by
  have HB0 := Lib.hid (below_new w (.cells #[.int .i64 26, .int .i64 a, .int .i64 b, .int .i64 c, .int .i64 m] 23))
  have HR := Lib.hid (rRightP 26 (a : Nat) (b : Nat) (c : Nat) m (w.alloc (.cells #[.int .i64 26, .int .i64 a, .int .i64 b, .int .i64 c, .int .i64 m] 23)))
  rw [h] at HR
  clear h
  go_enter Tryd.func16, Tryd.ntmps16
  go_wp2_with fail
  refine HR.out.mono ?_; rintro e w2 ⟨rfl, hb⟩
  have HB2 := Lib.hid (HB0.out.trans (hb.mono (by simp)))
  have hk2 := (hb.block w.heap.size (by simp)).trans (block_new w _)
  have c0 : w2.cell? ⟨w.heap.size, 0, none⟩ = some (.int .i64 26) := blk_cell hk2 0
  have c1 : w2.cell? ⟨w.heap.size, 1, none⟩ = some (.int .i64 a) := blk_cell hk2 1
  have c2 : w2.cell? ⟨w.heap.size, 2, none⟩ = some (.int .i64 b) := blk_cell hk2 2
  have c3 : w2.cell? ⟨w.heap.size, 3, none⟩ = some (.int .i64 c) := blk_cell hk2 3
  have c4 : w2.cell? ⟨w.heap.size, 4, none⟩ = some (.int .i64 m) := blk_cell hk2 4
  clear hb hk2 HR
  go_wp2_with fail
  have HF : Hid (RowsPost [15] [15] w (.returned (.tuple #[.slice (some ⟨w2.heap.size, 0, none⟩) 1 1, .slice (some ⟨w2.heap.size + 1, 0, none⟩) 1 1])) ((w2.alloc (.cells #[.int .i64 (15 : Nat)] 3)).alloc (.cells #[.int .i64 (15 : Nat)] 3))) := Lib.hid ⟨_, _, rfl, (row1 w2 15 _).keep (below_new _ _), by have := row1 (w2.alloc (.cells #[.int .i64 (15 : Nat)] 3)) 15 3; simpa using this, (HB2.out.alloc HB2.out.size _).alloc (by have := HB2.out.size; simp; omega) _⟩
  go_ret2
  exact HF.out
set_option maxRecDepth 100000 in
set_option maxHeartbeats 4000000 in
theorem rU23 (a b c : Nat) (m : Int) (w : World) (h : rightB ⟨23, (a : Nat), (b : Nat), (c : Nat), m⟩ = true) :
    Calls Tryd.prog 16 #[.agg #[.int .i64 23, .int .i64 a, .int .i64 b, .int .i64 c, .int .i64 m]] w (RowsPost (regL [a, 15]) [15] w) := by
  have HB0 := Lib.hid (below_new w (.cells #[.int .i64 23, .int .i64 a, .int .i64 b, .int .i64 c, .int .i64 m] 23))
  have HR := Lib.hid (rRightP 23 (a : Nat) (b : Nat) (c : Nat) m (w.alloc (.cells #[.int .i64 23, .int .i64 a, .int .i64 b, .int .i64 c, .int .i64 m] 23)))
  rw [h] at HR
  clear h
  go_enter Tryd.func16, Tryd.ntmps16
  go_wp2_with fail
  refine HR.out.mono ?_; rintro e w2 ⟨rfl, hb⟩
  have HB2 := Lib.hid (HB0.out.trans (hb.mono (by simp)))
  have hk2 := (hb.block w.heap.size (by simp)).trans (block_new w _)
  have c0 : w2.cell? ⟨w.heap.size, 0, none⟩ = some (.int .i64 23) := blk_cell hk2 0
  have c1 : w2.cell? ⟨w.heap.size, 1, none⟩ = some (.int .i64 a) := blk_cell hk2 1
  have c2 : w2.cell? ⟨w.heap.size, 2, none⟩ = some (.int .i64 b) := blk_cell hk2 2
  have c3 : w2.cell? ⟨w.heap.size, 3, none⟩ = some (.int .i64 c) := blk_cell hk2 3
  have c4 : w2.cell? ⟨w.heap.size, 4, none⟩ = some (.int .i64 m) := blk_cell hk2 4
  clear hb hk2 HR
  go_wp2_with fail
  have HU := Lib.hid (rusesP (.slice (some ⟨w2.heap.size, 0, none⟩) 2 2) [a, 15] (w2.alloc (.cells #[.int .i64 (a : Nat), .int .i64 (15 : Nat)] 3)) (row2 w2 a 15 _))
  refine HU.out.mono ?_; rintro e w3 ⟨v, rfl, hrow, hb⟩
  have HF : Hid (RowsPost (regL [a, 15]) [15] w (.returned (.tuple #[v, .slice (some ⟨w3.heap.size, 0, none⟩) 1 1])) (w3.alloc (.cells #[.int .i64 (15 : Nat)] 3))) := Lib.hid ⟨_, _, rfl, hrow.keep (below_new _ _), row1 w3 15 _, by
    have h3 := HB2.out.trans (((below_new w2 _).trans (hb.mono (by simp))).mono HB2.out.size)
    exact h3.alloc h3.size _⟩
  clear hrow hb
  go_wp2_with fail
  go_ret2
  exact HF.out
set_option maxRecDepth 100000 in
set_option maxHeartbeats 4000000 in
theorem rU27 (a b c : Nat) (m : Int) (w : World) (h : rightB ⟨27, (a : Nat), (b : Nat), (c : Nat), m⟩ = true) :
    Calls Tryd.prog 16 #[.agg #[.int .i64 27, .int .i64 a, .int .i64 b, .int .i64 c, .int .i64 m]] w (RowsPost (regL [a, 15]) [15] w) := by
  have HB0 := Lib.hid (below_new w (.cells #[.int .i64 27, .int .i64 a, .int .i64 b, .int .i64 c, .int .i64 m] 23))
  have HR := Lib.hid (rRightP 27 (a : Nat) (b : Nat) (c : Nat) m (w.alloc (.cells #[.int .i64 27, .int .i64 a, .int .i64 b, .int .i64 c, .int .i64 m] 23)))
  rw [h] at HR
  clear h
  go_enter Tryd.func16, Tryd.ntmps16
  go_wp2_with fail
  refine HR.out.mono ?_; rintro e w2 ⟨rfl, hb⟩
  have HB2 := Lib.hid (HB0.out.trans (hb.mono (by simp)))
  have hk2 := (hb.block w.heap.size (by simp)).trans (block_new w _)
  have c0 : w2.cell? ⟨w.heap.size, 0, none⟩ = some (.int .i64 27) := blk_cell hk2 0
  have c1 : w2.cell? ⟨w.heap.size, 1, none⟩ = some (.int .i64 a) := blk_cell hk2 1
  have c2 : w2.cell? ⟨w.heap.size, 2, none⟩ = some (.int .i64 b) := blk_cell hk2 2
  have c3 : w2.cell? ⟨w.heap.size, 3, none⟩ = some (.int .i64 c) := blk_cell hk2 3
  have c4 : w2.cell? ⟨w.heap.size, 4, none⟩ = some (.int .i64 m) := blk_cell hk2 4
  clear hb hk2 HR
  go_wp2_with fail
  have HU := Lib.hid (rusesP (.slice (some ⟨w2.heap.size, 0, none⟩) 2 2) [a, 15] (w2.alloc (.cells #[.int .i64 (a : Nat), .int .i64 (15 : Nat)] 3)) (row2 w2 a 15 _))
  refine HU.out.mono ?_; rintro e w3 ⟨v, rfl, hrow, hb⟩
  have HF : Hid (RowsPost (regL [a, 15]) [15] w (.returned (.tuple #[v, .slice (some ⟨w3.heap.size, 0, none⟩) 1 1])) (w3.alloc (.cells #[.int .i64 (15 : Nat)] 3))) := Lib.hid ⟨_, _, rfl, hrow.keep (below_new _ _), row1 w3 15 _, by
    have h3 := HB2.out.trans (((below_new w2 _).trans (hb.mono (by simp))).mono HB2.out.size)
    exact h3.alloc h3.size _⟩
  clear hrow hb
  go_wp2_with fail
  go_ret2
  exact HF.out
set_option maxRecDepth 100000 in
set_option maxHeartbeats 4000000 in
theorem rU28 (a b c : Nat) (m : Int) (w : World) (h : rightB ⟨28, (a : Nat), (b : Nat), (c : Nat), m⟩ = true) :
    Calls Tryd.prog 16 #[.agg #[.int .i64 28, .int .i64 a, .int .i64 b, .int .i64 c, .int .i64 m]] w (RowsPost [15] (regL [a, 15]) w) := by
  have HB0 := Lib.hid (below_new w (.cells #[.int .i64 28, .int .i64 a, .int .i64 b, .int .i64 c, .int .i64 m] 23))
  have HR := Lib.hid (rRightP 28 (a : Nat) (b : Nat) (c : Nat) m (w.alloc (.cells #[.int .i64 28, .int .i64 a, .int .i64 b, .int .i64 c, .int .i64 m] 23)))
  rw [h] at HR
  clear h
  go_enter Tryd.func16, Tryd.ntmps16
  go_wp2_with fail
  refine HR.out.mono ?_; rintro e w2 ⟨rfl, hb⟩
  have HB2 := Lib.hid (HB0.out.trans (hb.mono (by simp)))
  have hk2 := (hb.block w.heap.size (by simp)).trans (block_new w _)
  have c0 : w2.cell? ⟨w.heap.size, 0, none⟩ = some (.int .i64 28) := blk_cell hk2 0
  have c1 : w2.cell? ⟨w.heap.size, 1, none⟩ = some (.int .i64 a) := blk_cell hk2 1
  have c2 : w2.cell? ⟨w.heap.size, 2, none⟩ = some (.int .i64 b) := blk_cell hk2 2
  have c3 : w2.cell? ⟨w.heap.size, 3, none⟩ = some (.int .i64 c) := blk_cell hk2 3
  have c4 : w2.cell? ⟨w.heap.size, 4, none⟩ = some (.int .i64 m) := blk_cell hk2 4
  clear hb hk2 HR
  have d1 := fun o : Obj => keep_below (below_new w2 o) c1
  go_wp2_with fail
  have HU := Lib.hid (rusesP (.slice (some ⟨w2.heap.size + 1, 0, none⟩) 2 2) [a, 15] ((w2.alloc (.cells #[.int .i64 (15 : Nat)] 3)).alloc (.cells #[.int .i64 (a : Nat), .int .i64 (15 : Nat)] 3)) (by have := row2 (w2.alloc (.cells #[.int .i64 (15 : Nat)] 3)) a 15 3; simpa using this))
  refine HU.out.mono ?_; rintro e w3 ⟨v, rfl, hrow, hb⟩
  have HF : Hid (RowsPost [15] (regL [a, 15]) w (.returned (.tuple #[.slice (some ⟨w2.heap.size, 0, none⟩) 1 1, v])) w3) := Lib.hid ⟨_, _, rfl, ((row1 w2 15 _).keep (below_new _ _)).keep hb, hrow, HB2.out.trans ((((below_new w2 _).alloc (by simp) _).trans (hb.mono (by simp; omega))).mono HB2.out.size)⟩
  clear hrow hb
  go_wp2_with fail
  go_ret2
  exact HF.out
set_option maxRecDepth 100000 in
set_option maxHeartbeats 4000000 in
theorem rU6 (a b c : Nat) (m : Int) (w : World) (h : rightB ⟨6, (a : Nat), (b : Nat), (c : Nat), m⟩ = true) :
    Calls Tryd.prog 16 #[.agg #[.int .i64 6, .int .i64 a, .int .i64 b, .int .i64 c, .int .i64 m]] w (RowsPost (regL [b, c]) [a] w) := by
  have HB0 := Lib.hid (below_new w (.cells #[.int .i64 6, .int .i64 a, .int .i64 b, .int .i64 c, .int .i64 m] 23))
  have HR := Lib.hid (rRightP 6 (a : Nat) (b : Nat) (c : Nat) m (w.alloc (.cells #[.int .i64 6, .int .i64 a, .int .i64 b, .int .i64 c, .int .i64 m] 23)))
  rw [h] at HR
  clear h
  go_enter Tryd.func16, Tryd.ntmps16
  go_wp2_with fail
  refine HR.out.mono ?_; rintro e w2 ⟨rfl, hb⟩
  have HB2 := Lib.hid (HB0.out.trans (hb.mono (by simp)))
  have hk2 := (hb.block w.heap.size (by simp)).trans (block_new w _)
  have c0 : w2.cell? ⟨w.heap.size, 0, none⟩ = some (.int .i64 6) := blk_cell hk2 0
  have c1 : w2.cell? ⟨w.heap.size, 1, none⟩ = some (.int .i64 a) := blk_cell hk2 1
  have c2 : w2.cell? ⟨w.heap.size, 2, none⟩ = some (.int .i64 b) := blk_cell hk2 2
  have c3 : w2.cell? ⟨w.heap.size, 3, none⟩ = some (.int .i64 c) := blk_cell hk2 3
  have c4 : w2.cell? ⟨w.heap.size, 4, none⟩ = some (.int .i64 m) := blk_cell hk2 4
  clear hb hk2 HR
  go_wp2_with fail
  suffices key : ∀ (u v : Value) (W : World), IRow W u (regL [b, c]) → IRow W v [a] → Below w2.heap.size w2 W → RowsPost (regL [b, c]) [a] w (.returned (.tuple #[u, v])) W by
    have KEY := Lib.hid key
    clear key
    have P1 : Hid (IRow (w2.alloc (.cells #[.int .i64 (b : Nat), .int .i64 (c : Nat)] 3)).drew (.slice (some ⟨w2.heap.size, 0, none⟩) 2 2) [b, c]) := Lib.hid (row2 w2 b c _)
    have P2 : Hid (IRow ((w2.alloc (.cells #[.int .i64 (a : Nat)] 3)).alloc (.cells #[.int .i64 (b : Nat), .int .i64 (c : Nat)] 3)).drew (.slice (some ⟨w2.heap.size + 1, 0, none⟩) 2 2) [b, c]) := Lib.hid (show IRow ((w2.alloc (.cells #[.int .i64 (a : Nat)] 3)).alloc (.cells #[.int .i64 (b : Nat), .int .i64 (c : Nat)] 3)) _ _ by have := row2 (w2.alloc (.cells #[.int .i64 (a : Nat)] 3)) b c 3; simpa using this)
    have P3 : Hid (IRow ((w2.alloc (.cells #[.int .i64 (b : Nat), .int .i64 (c : Nat)] 3)).alloc (.cells #[.int .i64 (a : Nat)] 3)).drew (.slice (some ⟨w2.heap.size, 0, none⟩) 2 2) [b, c]) := Lib.hid (show IRow ((w2.alloc (.cells #[.int .i64 (b : Nat), .int .i64 (c : Nat)] 3)).alloc (.cells #[.int .i64 (a : Nat)] 3)) _ _ from (row2 w2 b c 3).keep (below_new (w2.alloc (.cells #[.int .i64 (b : Nat), .int .i64 (c : Nat)] 3)) (.cells #[.int .i64 (a : Nat)] 3)))
    have Q1 : Hid (Below w2.heap.size w2 (w2.alloc (.cells #[.int .i64 (b : Nat), .int .i64 (c : Nat)] 3)).drew) := Lib.hid (below_new _ _).drew
    have Q2 : Hid (Below w2.heap.size w2 ((w2.alloc (.cells #[.int .i64 (a : Nat)] 3)).alloc (.cells #[.int .i64 (b : Nat), .int .i64 (c : Nat)] 3)).drew) := Lib.hid ((below_new w2 _).alloc (by simp) _).drew
    have Q3 : Hid (Below w2.heap.size w2 ((w2.alloc (.cells #[.int .i64 (b : Nat), .int .i64 (c : Nat)] 3)).alloc (.cells #[.int .i64 (a : Nat)] 3)).drew) := Lib.hid ((below_new w2 _).alloc (by simp) _).drew
    have V2 : Hid (IRow ((w2.alloc (.cells #[.int .i64 (a : Nat)] 3)).alloc (.cells #[.int .i64 (b : Nat), .int .i64 (c : Nat)] 3)).drew (.slice (some ⟨w2.heap.size, 0, none⟩) 1 1) [a]) := Lib.hid (show IRow ((w2.alloc (.cells #[.int .i64 (a : Nat)] 3)).alloc (.cells #[.int .i64 (b : Nat), .int .i64 (c : Nat)] 3)) _ _ from (row1 w2 a 3).keep (below_new (w2.alloc (.cells #[.int .i64 (a : Nat)] 3)) (.cells #[.int .i64 (b : Nat), .int .i64 (c : Nat)] 3)))
    have V3 : Hid (IRow ((w2.alloc (.cells #[.int .i64 (b : Nat), .int .i64 (c : Nat)] 3)).alloc (.cells #[.int .i64 (a : Nat)] 3)).drew (.slice (some ⟨w2.heap.size + 1, 0, none⟩) 1 1) [a]) := Lib.hid (show IRow ((w2.alloc (.cells #[.int .i64 (b : Nat), .int .i64 (c : Nat)] 3)).alloc (.cells #[.int .i64 (a : Nat)] 3)) _ _ by have := row1 (w2.alloc (.cells #[.int .i64 (b : Nat), .int .i64 (c : Nat)] 3)) a 3; simpa using this)
    clear c0 c4
    go_region_held3 (fun w' => w'.cell? ⟨w.heap.size, 1, none⟩ = some (.int .i64 a) ∧ w'.cell? ⟨w.heap.size, 2, none⟩ = some (.int .i64 b) ∧ w'.cell? ⟨w.heap.size, 3, none⟩ = some (.int .i64 c))
      (first | exact ⟨c1, c2, c3⟩ | (go_split_ands; first | exact ⟨by assumption, by assumption, by assumption⟩ | exact ⟨keep_below (below_new _ _) (by assumption), keep_below (below_new _ _) (by assumption), keep_below (below_new _ _) (by assumption)⟩ | exact ⟨keep_below (below_new _ _).drew (by assumption), keep_below (below_new _ _).drew (by assumption), keep_below (below_new _ _).drew (by assumption)⟩ | exact ⟨keep_below HBx.out (by assumption), keep_below HBx.out (by assumption), keep_below HBx.out (by assumption)⟩) | fail)
      (first
        | (go_at_call 40; refine (rusesP _ [b, c] _ (by first | exact P1.out | exact P2.out | exact P3.out)).mono ?_; rintro e w3 ⟨v, rfl, hrow, hb⟩; have HBx := Lib.hid hb; have HROW := Lib.hid hrow; clear hb hrow))
    all_goals
      go_wp2_with fail
      go_ret2
      first
        | exact KEY.out _ _ _ (HROW.out.keep (below_new _ _)) (row1 w3 a _) ((Q1.out.trans (HBx.out.mono Q1.out.size)).alloc (Q1.out.trans (HBx.out.mono Q1.out.size)).size _)
        | exact KEY.out _ _ _ HROW.out (V2.out.keep HBx.out) (Q2.out.trans (HBx.out.mono Q2.out.size))
        | exact KEY.out _ _ _ HROW.out (V3.out.keep HBx.out) (Q3.out.trans (HBx.out.mono Q3.out.size))
  exact fun u v W hu hv hb => ⟨u, v, rfl, hu, hv, HB2.out.trans (hb.mono HB2.out.size)⟩
end Go.Proofs.YtmnhnighlgpjmaaDoor

