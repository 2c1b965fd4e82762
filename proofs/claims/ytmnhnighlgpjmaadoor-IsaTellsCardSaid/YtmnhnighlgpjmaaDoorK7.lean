/-
  The reference of isa: Uses.
-/
import Derived.Test.YtmnhnighlgpjmaaDoorK6
namespace Go.Proofs.YtmnhnighlgpjmaaDoor
set_option linter.unusedVariables false
set_option linter.unusedSimpArgs false
open Go.RowKit

set_option maxRecDepth 100000 in
set_option maxHeartbeats 4000000 in
theorem rU7 (a b c : Nat) (m : Int) (w : World) (h : rightB ⟨7, (a : Nat), (b : Nat), (c : Nat), m⟩ = true) :
    Calls Tryd.prog 16 #[.agg #[.int .i64 7, .int .i64 a, .int .i64 b, .int .i64 c, .int .i64 m]] w (RowsPost (regL [b, c]) [a] w) := by
  have HB0 := Lib.hid (below_new w (.cells #[.int .i64 7, .int .i64 a, .int .i64 b, .int .i64 c, .int .i64 m] 23))
  have HR := Lib.hid (rRightP 7 (a : Nat) (b : Nat) (c : Nat) m (w.alloc (.cells #[.int .i64 7, .int .i64 a, .int .i64 b, .int .i64 c, .int .i64 m] 23)))
  rw [h] at HR
  clear h
  go_enter Tryd.func16, Tryd.ntmps16
  go_wp2_with fail
  refine HR.out.mono ?_; rintro e w2 ⟨rfl, hb⟩
  have HB2 := Lib.hid (HB0.out.trans (hb.mono (by simp)))
  have hk2 := (hb.block w.heap.size (by simp)).trans (block_new w _)
  have c0 : w2.cell? ⟨w.heap.size, 0, none⟩ = some (.int .i64 7) := blk_cell hk2 0
  have c1 : w2.cell? ⟨w.heap.size, 1, none⟩ = some (.int .i64 a) := blk_cell hk2 1
  have c2 : w2.cell? ⟨w.heap.size, 2, none⟩ = some (.int .i64 b) := blk_cell hk2 2
  have c3 : w2.cell? ⟨w.heap.size, 3, none⟩ = some (.int .i64 c) := blk_cell hk2 3
  have c4 : w2.cell? ⟨w.heap.size, 4, none⟩ = some (.int .i64 m) := blk_cell hk2 4
  clear hb hk2 HR
  go_wp2_with fail
  suffices key : ∀ (u v : Value) (W : World), IRow W u (regL [b, c]) → IRow W v [a] → Below w2.heap.size w2 W → RowsPost (regL [b, c]) [a] w (.returned (.tuple #[u, v])) W by
    have KEY := Lib.hid key
    clear key
    have P1 : Hid (IRow (w2.alloc (.cells #[.int .i64 (b : Nat), .int .i64 (c : Nat)] 3)).drew (.slice (some ⟨w2.heap.size, 0, none⟩) 2 2) [b, c]) := Lib.hid (row2 w2 b c _)
    have P2 : Hid (IRow ((w2.alloc (.cells #[.int .i64 (a : Nat)] 3)).alloc (.cells #[.int .i64 (b : Nat), .int .i64 (c : Nat)] 3)).drew (.slice (some ⟨w2.heap.size + 1, 0, none⟩) 2 2) [b, c]) := Lib.hid (show IRow ((w2.alloc (.cells #[.int .i64 (a : Nat)] 3)).alloc (.cells #[.int .i64 (b : Nat), .int .i64 (c : Nat)] 3)) _ _ by have := row2 (w2.alloc (.cells #[.int .i64 (a : Nat)] 3)) b c 3; simpa using this)
    have P3 : Hid (IRow ((w2.alloc (.cells #[.int .i64 (b : Nat), .int .i64 (c : Nat)] 3)).alloc (.cells #[.int .i64 (a : Nat)] 3)).drew (.slice (some ⟨w2.heap.size, 0, none⟩) 2 2) [b, c]) := Lib.hid (show IRow ((w2.alloc (.cells #[.int .i64 (b : Nat), .int .i64 (c : Nat)] 3)).alloc (.cells #[.int .i64 (a : Nat)] 3)) _ _ from (row2 w2 b c 3).keep (below_new (w2.alloc (.cells #[.int .i64 (b : Nat), .int .i64 (c : Nat)] 3)) (.cells #[.int .i64 (a : Nat)] 3)))
    have Q1 : Hid (Below w2.heap.size w2 (w2.alloc (.cells #[.int .i64 (b : Nat), .int .i64 (c : Nat)] 3)).drew) := Lib.hid (below_new _ _).drew
    have Q2 : Hid (Below w2.heap.size w2 ((w2.alloc (.cells #[.int .i64 (a : Nat)] 3)).alloc (.cells #[.int .i64 (b : Nat), .int .i64 (c : Nat)] 3)).drew) := Lib.hid ((below_new w2 _).alloc (by simp) _).drew
    have Q3 : Hid (Below w2.heap.size w2 ((w2.alloc (.cells #[.int .i64 (b : Nat), .int .i64 (c : Nat)] 3)).alloc (.cells #[.int .i64 (a : Nat)] 3)).drew) := Lib.hid ((below_new w2 _).alloc (by simp) _).drew
    have V2 : Hid (IRow ((w2.alloc (.cells #[.int .i64 (a : Nat)] 3)).alloc (.cells #[.int .i64 (b : Nat), .int .i64 (c : Nat)] 3)).drew (.slice (some ⟨w2.heap.size, 0, none⟩) 1 1) [a]) := Lib.hid (show IRow ((w2.alloc (.cells #[.int .i64 (a : Nat)] 3)).alloc (.cells #[.int .i64 (b : Nat), .int .i64 (c : Nat)] 3)) _ _ from (row1 w2 a 3).keep (below_new (w2.alloc (.cells #[.int .i64 (a : Nat)] 3)) (.cells #[.int .i64 (b : Nat), .int .i64 (c : Nat)] 3)))
    have V3 : Hid (IRow ((w2.alloc (.cells #[.int .i64 (b : Nat), .int .i64 (c : Nat)] 3)).alloc (.cells #[.int .i64 (a : Nat)] 3)).drew (.slice (some ⟨w2.heap.size + 1, 0, none⟩) 1 1) [a]) := Lib.hid (show IRow ((w2.alloc (.cells #[.int .i64 (b : Nat), .int .i64 (c : Nat)] 3)).alloc (.cells #[.int .i64 (a : Nat)] 3)) _ _ by have := row1 (w2.alloc (.cells #[.int .i64 (b : Nat), .int .i64 (c : Nat)] 3)) a 3; simpa using this)
    clear c0 c4
    go_region_held3 (fun w' => w'.cell? ⟨w.heap.size, 1, none⟩ = some (.int .i64 a) ∧ w'.cell? ⟨w.heap.size, 2, none⟩ = some (.int .i64 b) ∧ w'.cell? ⟨w.heap.size, 3, none⟩ = some (.int .i64 c))
      (first | exact ⟨c1, c2, c3⟩ | (go_split_ands; first | exact ⟨by assumption, by assumption, by assumption⟩ | exact ⟨keep_below (below_new _ _) (by assumption), keep_below (below_new _ _) (by assumption), keep_below (below_new _ _) (by assumption)⟩ | exact ⟨keep_below (below_new _ _).drew (by assumption), keep_below (below_new _ _).drew (by assumption), keep_below (below_new _ _).drew (by assumption)⟩ | exact ⟨keep_below HBx.out (by assumption), keep_below HBx.out (by assumption), keep_below HBx.out (by assumption)⟩) | fail)
      (first
        | (go_at_call 40; refine (rusesP _ [b, c] _ (by first | exact P1.out | exact P2.out | exact P3.out)).mono ?_; rintro e w3 ⟨v, rfl, hrow, hb⟩; have HBx := Lib.hid hb; have HROW := Lib.hid hrow; clear hb hrow))
    all_goals
      go_wp2_with fail
      go_ret2
      first
        | exact KEY.out _ _ _ (HROW.out.keep (below_new _ _)) (row1 w3 a _) ((Q1.out.trans (HBx.out.mono Q1.out.size)).alloc (Q1.out.trans (HBx.out.mono Q1.out.size)).size _)
        | exact KEY.out _ _ _ HROW.out (V2.out.keep HBx.out) (Q2.out.trans (HBx.out.mono Q2.out.size))
        | exact KEY.out _ _ _ HROW.out (V3.out.keep HBx.out) (Q3.out.trans (HBx.out.mono Q3.out.size))
  exact fun u v W hu hv hb => ⟨u, v, rfl, hu, hv, HB2.out.trans (hb.mono HB2.out.size)⟩
set_option maxRecDepth 100000 in
set_option maxHeartbeats 4000000 in
theorem rU8 (a b c : Nat) (m : Int) (w : World) (h : rightB ⟨8, (a : Nat), (b : Nat), (c : Nat), m⟩ = true) :
    Calls Tryd.prog 16 #[.agg #[.int .i64 8, .int .i64 a, .int .i64 b, .int .i64 c, .int .i64 m]] w (RowsPost (regL [b, c]) [a] w) := by
  have HB0 := Lib.hid (below_new w (.cells #[.int .i64 8, .int .i64 a, .int .i64 b, .int .i64 c, .int .i64 m] 23))
  have HR := Lib.hid (rRightP 8 (a : Nat) (b : Nat) (c : Nat) m (w.alloc (.cells #[.int .i64 8, .int .i64 a, .int .i64 b, .int .i64 c, .int .i64 m] 23)))
  rw [h] at HR
  clear h
  go_enter Tryd.func16, Tryd.ntmps16
  go_wp2_with fail
  refine HR.out.mono ?_; rintro e w2 ⟨rfl, hb⟩
  have HB2 := Lib.hid (HB0.out.trans (hb.mono (by simp)))
  have hk2 := (hb.block w.heap.size (by simp)).trans (block_new w _)
  have c0 : w2.cell? ⟨w.heap.size, 0, none⟩ = some (.int .i64 8) := blk_cell hk2 0
  have c1 : w2.cell? ⟨w.heap.size, 1, none⟩ = some (.int .i64 a) := blk_cell hk2 1
  have c2 : w2.cell? ⟨w.heap.size, 2, none⟩ = some (.int .i64 b) := blk_cell hk2 2
  have c3 : w2.cell? ⟨w.heap.size, 3, none⟩ = some (.int .i64 c) := blk_cell hk2 3
  have c4 : w2.cell? ⟨w.heap.size, 4, none⟩ = some (.int .i64 m) := blk_cell hk2 4
  clear hb hk2 HR
  go_wp2_with fail
  suffices key : ∀ (u v : Value) (W : World), IRow W u (regL [b, c]) → IRow W v [a] → Below w2.heap.size w2 W → RowsPost (regL [b, c]) [a] w (.returned (.tuple #[u, v])) W by
    have KEY := Lib.hid key
    clear key
    have P1 : Hid (IRow (w2.alloc (.cells #[.int .i64 (b : Nat), .int .i64 (c : Nat)] 3)).drew (.slice (some ⟨w2.heap.size, 0, none⟩) 2 2) [b, c]) := Lib.hid (row2 w2 b c _)
    have P2 : Hid (IRow ((w2.alloc (.cells #[.int .i64 (a : Nat)] 3)).alloc (.cells #[.int .i64 (b : Nat), .int .i64 (c : Nat)] 3)).drew (.slice (some ⟨w2.heap.size + 1, 0, none⟩) 2 2) [b, c]) := Lib.hid (show IRow ((w2.alloc (.cells #[.int .i64 (a : Nat)] 3)).alloc (.cells #[.int .i64 (b : Nat), .int .i64 (c : Nat)] 3)) _ _ by have := row2 (w2.alloc (.cells #[.int .i64 (a : Nat)] 3)) b c 3; simpa using this)
    have P3 : Hid (IRow ((w2.alloc (.cells #[.int .i64 (b : Nat), .int .i64 (c : Nat)] 3)).alloc (.cells #[.int .i64 (a : Nat)] 3)).drew (.slice (some ⟨w2.heap.size, 0, none⟩) 2 2) [b, c]) := Lib.hid (show IRow ((w2.alloc (.cells #[.int .i64 (b : Nat), .int .i64 (c : Nat)] 3)).alloc (.cells #[.int .i64 (a : Nat)] 3)) _ _ from (row2 w2 b c 3).keep (below_new (w2.alloc (.cells #[.int .i64 (b : Nat), .int .i64 (c : Nat)] 3)) (.cells #[.int .i64 (a : Nat)] 3)))
    have Q1 : Hid (Below w2.heap.size w2 (w2.alloc (.cells #[.int .i64 (b : Nat), .int .i64 (c : Nat)] 3)).drew) := Lib.hid (below_new _ _).drew
    have Q2 : Hid (Below w2.heap.size w2 ((w2.alloc (.cells #[.int .i64 (a : Nat)] 3)).alloc (.cells #[.int .i64 (b : Nat), .int .i64 (c : Nat)] 3)).drew) := Lib.hid ((below_new w2 _).alloc (by simp) _).drew
    have Q3 : Hid (Below w2.heap.size w2 ((w2.alloc (.cells #[.int .i64 (b : Nat), .int .i64 (c : Nat)] 3)).alloc (.cells #[.int .i64 (a : Nat)] 3)).drew) := Lib.hid ((below_new w2 _).alloc (by simp) _).drew
    have V2 : Hid (IRow ((w2.alloc (.cells #[.int .i64 (a : Nat)] 3)).alloc (.cells #[.int .i64 (b : Nat), .int .i64 (c : Nat)] 3)).drew (.slice (some ⟨w2.heap.size, 0, none⟩) 1 1) [a]) := Lib.hid (show IRow ((w2.alloc (.cells #[.int .i64 (a : Nat)] 3)).alloc (.cells #[.int .i64 (b : Nat), .int .i64 (c : Nat)] 3)) _ _ from (row1 w2 a 3).keep (below_new (w2.alloc (.cells #[.int .i64 (a : Nat)] 3)) (.cells #[.int .i64 (b : Nat), .int .i64 (c : Nat)] 3)))
    have V3 : Hid (IRow ((w2.alloc (.cells #[.int .i64 (b : Nat), .int .i64 (c : Nat)] 3)).alloc (.cells #[.int .i64 (a : Nat)] 3)).drew (.slice (some ⟨w2.heap.size + 1, 0, none⟩) 1 1) [a]) := Lib.hid (show IRow ((w2.alloc (.cells #[.int .i64 (b : Nat), .int .i64 (c : Nat)] 3)).alloc (.cells #[.int .i64 (a : Nat)] 3)) _ _ by have := row1 (w2.alloc (.cells #[.int .i64 (b : Nat), .int .i64 (c : Nat)] 3)) a 3; simpa using this)
    clear c0 c4
    go_region_held3 (fun w' => w'.cell? ⟨w.heap.size, 1, none⟩ = some (.int .i64 a) ∧ w'.cell? ⟨w.heap.size, 2, none⟩ = some (.int .i64 b) ∧ w'.cell? ⟨w.heap.size, 3, none⟩ = some (.int .i64 c))
      (first | exact ⟨c1, c2, c3⟩ | (go_split_ands; first | exact ⟨by assumption, by assumption, by assumption⟩ | exact ⟨keep_below (below_new _ _) (by assumption), keep_below (below_new _ _) (by assumption), keep_below (below_new _ _) (by assumption)⟩ | exact ⟨keep_below (below_new _ _).drew (by assumption), keep_below (below_new _ _).drew (by assumption), keep_below (below_new _ _).drew (by assumption)⟩ | exact ⟨keep_below HBx.out (by assumption), keep_below HBx.out (by assumption), keep_below HBx.out (by assumption)⟩) | fail)
      (first
        | (go_at_call 40; refine (rusesP _ [b, c] _ (by first | exact P1.out | exact P2.out | exact P3.out)).mono ?_; rintro e w3 ⟨v, rfl, hrow, hb⟩; have HBx := Lib.hid hb; have HROW := Lib.hid hrow; clear hb hrow))
    all_goals
      go_wp2_with fail
      go_ret2
      first
        | exact KEY.out _ _ _ (HROW.out.keep (below_new _ _)) (row1 w3 a _) ((Q1.out.trans (HBx.out.mono Q1.out.size)).alloc (Q1.out.trans (HBx.out.mono Q1.out.size)).size _)
        | exact KEY.out _ _ _ HROW.out (V2.out.keep HBx.out) (Q2.out.trans (HBx.out.mono Q2.out.size))
        | exact KEY.out _ _ _ HROW.out (V3.out.keep HBx.out) (Q3.out.trans (HBx.out.mono Q3.out.size))
  exact fun u v W hu hv hb => ⟨u, v, rfl, hu, hv, HB2.out.trans (hb.mono HB2.out.size)⟩
set_option maxRecDepth 100000 in
set_option maxHeartbeats 4000000 in
theorem rU9 (a b c : Nat) (m : Int) (w : World) (h : rightB ⟨9, (a : Nat), (b : Nat), (c : Nat), m⟩ = true) :
    Calls Tryd.prog 16 #[.agg #[.int .i64 9, .int .i64 a, .int .i64 b, .int .i64 c, .int .i64 m]] w (RowsPost (regL [b, c]) [a] w) := by
  have HB0 := Lib.hid (below_new w (.cells #[.int .i64 9, .int .i64 a, .int .i64 b, .int .i64 c, .int .i64 m] 23))
  have HR := Lib.hid (rRightP 9 (a : Nat) (b : Nat) (c : Nat) m (w.alloc (.cells #[.int .i64 9, .int .i64 a, .int .i64 b, .int .i64 c, .int .i64 m] 23)))
  rw [h] at HR
  clear h
  go_enter Tryd.func16, Tryd.ntmps16
  go_wp2_with fail
  refine HR.out.mono ?_; rintro e w2 ⟨rfl, hb⟩
  have HB2 := Lib.hid (HB0.out.trans (hb.mono (by simp)))
  have hk2 := (hb.block w.heap.size (by simp)).trans (block_new w _)
  have c0 : w2.cell? ⟨w.heap.size, 0, none⟩ = some (.int .i64 9) := blk_cell hk2 0
  have c1 : w2.cell? ⟨w.heap.size, 1, none⟩ = some (.int .i64 a) := blk_cell hk2 1
  have c2 : w2.cell? ⟨w.heap.size, 2, none⟩ = some (.int .i64 b) := blk_cell hk2 2
  have c3 : w2.cell? ⟨w.heap.size, 3, none⟩ = some (.int .i64 c) := blk_cell hk2 3
  have c4 : w2.cell? ⟨w.heap.size, 4, none⟩ = some (.int .i64 m) := blk_cell hk2 4
  clear hb hk2 HR
  go_wp2_with fail
  suffices key : ∀ (u v : Value) (W : World), IRow W u (regL [b, c]) → IRow W v [a] → Below w2.heap.size w2 W → RowsPost (regL [b, c]) [a] w (.returned (.tuple #[u, v])) W by
    have KEY := Lib.hid key
    clear key
    have P1 : Hid (IRow (w2.alloc (.cells #[.int .i64 (b : Nat), .int .i64 (c : Nat)] 3)).drew (.slice (some ⟨w2.heap.size, 0, none⟩) 2 2) [b, c]) := Lib.hid (row2 w2 b c _)
    have P2 : Hid (IRow ((w2.alloc (.cells #[.int .i64 (a : Nat)] 3)).alloc (.cells #[.int .i64 (b : Nat), .int .i64 (c : Nat)] 3)).drew (.slice (some ⟨w2.heap.size + 1, 0, none⟩) 2 2) [b, c]) := Lib.hid (show IRow ((w2.alloc (.cells #[.int .i64 (a : Nat)] 3)).alloc (.cells #[.int .i64 (b : Nat), .int .i64 (c : Nat)] 3)) _ _ by have := row2 (w2.alloc (.cells #[.int .i64 (a : Nat)] 3)) b c 3; simpa using this)
    have P3 : Hid (IRow ((w2.alloc (.cells #[.int .i64 (b : Nat), .int .i64 (c : Nat)] 3)).alloc (.cells #[.int .i64 (a : Nat)] 3)).drew (.slice (some ⟨w2.heap.size, 0, none⟩) 2 2) [b, c]) := Lib.hid (show IRow ((w2.alloc (.cells #[.int .i64 (b : Nat), .int .i64 (c : Nat)] 3)).alloc (.cells #[.int .i64 (a : Nat)] 3)) _ _ from (row2 w2 b c 3).keep (below_new (w2.alloc (.cells #[.int .i64 (b : Nat), .int .i64 (c : Nat)] 3)) (.cells #[.int .i64 (a : Nat)] 3)))
    have Q1 : Hid (Below w2.heap.size w2 (w2.alloc (.cells #[.int .i64 (b : Nat), .int .i64 (c : Nat)] 3)).drew) := Lib.hid (below_new _ _).drew
    have Q2 : Hid (Below w2.heap.size w2 ((w2.alloc (.cells #[.int .i64 (a : Nat)] 3)).alloc (.cells #[.int .i64 (b : Nat), .int .i64 (c : Nat)] 3)).drew) := Lib.hid ((below_new w2 _).alloc (by simp) _).drew
    have Q3 : Hid (Below w2.heap.size w2 ((w2.alloc (.cells #[.int .i64 (b : Nat), .int .i64 (c : Nat)] 3)).alloc (.cells #[.int .i64 (a : Nat)] 3)).drew) := Lib.hid ((below_new w2 _).alloc (by simp) _).drew
    have V2 : Hid (IRow ((w2.alloc (.cells #[.int .i64 (a : Nat)] 3)).alloc (.cells #[.int .i64 (b : Nat), .int .i64 (c : Nat)] 3)).drew (.slice (some ⟨w2.heap.size, 0, none⟩) 1 1) [a]) := Lib.hid (show IRow ((w2.alloc (.cells #[.int .i64 (a : Nat)] 3)).alloc (.cells #[.int .i64 (b : Nat), .int .i64 (c : Nat)] 3)) _ _ from (row1 w2 a 3).keep (below_new (w2.alloc (.cells #[.int .i64 (a : Nat)] 3)) (.cells #[.int .i64 (b : Nat), .int .i64 (c : Nat)] 3)))
    have V3 : Hid (IRow ((w2.alloc (.cells #[.int .i64 (b : Nat), .int .i64 (c : Nat)] 3)).alloc (.cells #[.int .i64 (a : Nat)] 3)).drew (.slice (some ⟨w2.heap.size + 1, 0, none⟩) 1 1) [a]) := Lib.hid (show IRow ((w2.alloc (.cells #[.int .i64 (b : Nat), .int .i64 (c : Nat)] 3)).alloc (.cells #[.int .i64 (a : Nat)] 3)) _ _ by have := row1 (w2.alloc (.cells #[.int .i64 (b : Nat), .int .i64 (c : Nat)] 3)) a 3; simpa using this)
    clear c0 c4
    go_region_held3 (fun w' => w'.cell? ⟨w.heap.size, 1, none⟩ = some (.int .i64 a) ∧ w'.cell? ⟨w.heap.size, 2, none⟩ = some (.int .i64 b) ∧ w'.cell? ⟨w.heap.size, 3, none⟩ = some (.int .i64 c))
      (first | exact ⟨c1, c2, c3⟩ | (go_split_ands; first | exact ⟨by assumption, by assumption, by assumption⟩ | exact ⟨keep_below (below_new _ _) (by assumption), keep_below (below_new _ _) (by assumption), keep_below (below_new _ _) (by assumption)⟩ | exact ⟨keep_below (below_new _ _).drew (by assumption), keep_below (below_new _ _).drew (by assumption), keep_below (below_new _ _).drew (by assumption)⟩ | exact ⟨keep_below HBx.out (by assumption), keep_below HBx.out (by assumption), keep_below HBx.out (by assumption)⟩) | fail)
      (first
        | (go_at_call 40; refine (rusesP _ [b, c] _ (by first | exact P1.out | exact P2.out | exact P3.out)).mono ?_; rintro e w3 ⟨v, rfl, hrow, hb⟩; have HBx := Lib.hid hb; have HROW := Lib.hid hrow; clear hb hrow))
    all_goals
      go_wp2_with fail
      go_ret2
      first
        | exact KEY.out _ _ _ (HROW.out.keep (below_new _ _)) (row1 w3 a _) ((Q1.out.trans (HBx.out.mono Q1.out.size)).alloc (Q1.out.trans (HBx.out.mono Q1.out.size)).size _)
        | exact KEY.out _ _ _ HROW.out (V2.out.keep HBx.out) (Q2.out.trans (HBx.out.mono Q2.out.size))
        | exact KEY.out _ _ _ HROW.out (V3.out.keep HBx.out) (Q3.out.trans (HBx.out.mono Q3.out.size))
  exact fun u v W hu hv hb => ⟨u, v, rfl, hu, hv, HB2.out.trans (hb.mono HB2.out.size)⟩
set_option maxRecDepth 100000 in
set_option maxHeartbeats 4000000 in
theorem rU10 (a b c : Nat) (m : Int) (w : World) (h : rightB ⟨10, (a : Nat), (b : Nat), (c : Nat), m⟩ = true) :
    Calls Tryd.prog 16 #[.agg #[.int .i64 10, .int .i64 a, .int .i64 b, .int .i64 c, .int .i64 m]] w (RowsPost (regL [b, c]) [a] w) := by
  have HB0 := Lib.hid (below_new w (.cells #[.int .i64 10, .int .i64 a, .int .i64 b, .int .i64 c, .int .i64 m] 23))
  have HR := Lib.hid (rRightP 10 (a : Nat) (b : Nat) (c : Nat) m (w.alloc (.cells #[.int .i64 10, .int .i64 a, .int .i64 b, .int .i64 c, .int .i64 m] 23)))
  rw [h] at HR
  clear h
  go_enter Tryd.func16, Tryd.ntmps16
  go_wp2_with fail
  refine HR.out.mono ?_; rintro e w2 ⟨rfl, hb⟩
  have HB2 := Lib.hid (HB0.out.trans (hb.mono (by simp)))
  have hk2 := (hb.block w.heap.size (by simp)).trans (block_new w _)
  have c0 : w2.cell? ⟨w.heap.size, 0, none⟩ = some (.int .i64 10) := blk_cell hk2 0
  have c1 : w2.cell? ⟨w.heap.size, 1, none⟩ = some (.int .i64 a) := blk_cell hk2 1
  have c2 : w2.cell? ⟨w.heap.size, 2, none⟩ = some (.int .i64 b) := blk_cell hk2 2
  have c3 : w2.cell? ⟨w.heap.size, 3, none⟩ = some (.int .i64 c) := blk_cell hk2 3
  have c4 : w2.cell? ⟨w.heap.size, 4, none⟩ = some (.int .i64 m) := blk_cell hk2 4
  clear hb hk2 HR
  go_wp2_with fail
  suffices key : ∀ (u v : Value) (W : World), IRow W u (regL [b, c]) → IRow W v [a] → Below w2.heap.size w2 W → RowsPost (regL [b, c]) [a] w (.returned (.tuple #[u, v])) W by
    have KEY := Lib.hid key
    clear key
    have P1 : Hid (IRow (w2.alloc (.cells #[.int .i64 (b : Nat), .int .i64 (c : Nat)] 3)).drew (.slice (some ⟨w2.heap.size, 0, none⟩) 2 2) [b, c]) := Lib.hid (row2 w2 b c _)
    have P2 : Hid (IRow ((w2.alloc (.cells #[.int .i64 (a : Nat)] 3)).alloc (.cells #[.int .i64 (b : Nat), .int .i64 (c : Nat)] 3)).drew (.slice (some ⟨w2.heap.size + 1, 0, none⟩) 2 2) [b, c]) := Lib.hid (show IRow ((w2.alloc (.cells #[.int .i64 (a : Nat)] 3)).alloc (.cells #[.int .i64 (b : Nat), .int .i64 (c : Nat)] 3)) _ _ by have := row2 (w2.alloc (.cells #[.int .i64 (a : Nat)] 3)) b c 3; simpa using this)
    have P3 : Hid (IRow ((w2.alloc (.cells #[.int .i64 (b : Nat), .int .i64 (c : Nat)] 3)).alloc (.cells #[.int .i64 (a : Nat)] 3)).drew (.slice (some ⟨w2.heap.size, 0, none⟩) 2 2) [b, c]) := Lib.hid (show IRow ((w2.alloc (.cells #[.int .i64 (b : Nat), .int .i64 (c : Nat)] 3)).alloc (.cells #[.int .i64 (a : Nat)] 3)) _ _ from (row2 w2 b c 3).keep (below_new (w2.alloc (.cells #[.int .i64 (b : Nat), .int .i64 (c : Nat)] 3)) (.cells #[.int .i64 (a : Nat)] 3)))
    have Q1 : Hid (Below w2.heap.size w2 (w2.alloc (.cells #[.int .i64 (b : Nat), .int .i64 (c : Nat)] 3)).drew) := Lib.hid (below_new _ _).drew
    have Q2 : Hid (Below w2.heap.size w2 ((w2.alloc (.cells #[.int .i64 (a : Nat)] 3)).alloc (.cells #[.int .i64 (b : Nat), .int .i64 (c : Nat)] 3)).drew) := Lib.hid ((below_new w2 _).alloc (by simp) _).drew
    have Q3 : Hid (Below w2.heap.size w2 ((w2.alloc (.cells #[.int .i64 (b : Nat), .int .i64 (c : Nat)] 3)).alloc (.cells #[.int .i64 (a : Nat)] 3)).drew) := Lib.hid ((below_new w2 _).alloc (by simp) _).drew
    have V2 : Hid (IRow ((w2.alloc (.cells #[.int .i64 (a : Nat)] 3)).alloc (.cells #[.int .i64 (b : Nat), .int .i64 (c : Nat)] 3)).drew (.slice (some ⟨w2.heap.size, 0, none⟩) 1 1) [a]) := Lib.hid (show IRow ((w2.alloc (.cells #[.int .i64 (a : Nat)] 3)).alloc (.cells #[.int .i64 (b : Nat), .int .i64 (c : Nat)] 3)) _ _ from (row1 w2 a 3).keep (below_new (w2.alloc (.cells #[.int .i64 (a : Nat)] 3)) (.cells #[.int .i64 (b : Nat), .int .i64 (c : Nat)] 3)))
    have V3 : Hid (IRow ((w2.alloc (.cells #[.int .i64 (b : Nat), .int .i64 (c : Nat)] 3)).alloc (.cells #[.int .i64 (a : Nat)] 3)).drew (.slice (some ⟨w2.heap.size + 1, 0, none⟩) 1 1) [a]) := Lib.hid (show IRow ((w2.alloc (.cells #[.int .i64 (b : Nat), .int .i64 (c : Nat)] 3)).alloc (.cells #[.int .i64 (a : Nat)] 3)) _ _ by have := row1 (w2.alloc (.cells #[.int .i64 (b : Nat), .int .i64 (c : Nat)] 3)) a 3; simpa using this)
    clear c0 c4
    go_region_held3 (fun w' => w'.cell? ⟨w.heap.size, 1, none⟩ = some (.int .i64 a) ∧ w'.cell? ⟨w.heap.size, 2, none⟩ = some (.int .i64 b) ∧ w'.cell? ⟨w.heap.size, 3, none⟩ = some (.int .i64 c))
      (first | exact ⟨c1, c2, c3⟩ | (go_split_ands; first | exact ⟨by assumption, by assumption, by assumption⟩ | exact ⟨keep_below (below_new _ _) (by assumption), keep_below (below_new _ _) (by assumption), keep_below (below_new _ _) (by assumption)⟩ | exact ⟨keep_below (below_new _ _).drew (by assumption), keep_below (below_new _ _).drew (by assumption), keep_below (below_new _ _).drew (by assumption)⟩ | exact ⟨keep_below HBx.out (by assumption), keep_below HBx.out (by assumption), keep_below HBx.out (by assumption)⟩) | fail)
      (first
        | (go_at_call 40; refine (rusesP _ [b, c] _ (by first | exact P1.out | exact P2.out | exact P3.out)).mono ?_; rintro e w3 ⟨v, rfl, hrow, hb⟩; have HBx := Lib.hid hb; have HROW := Lib.hid hrow; clear hb hrow))
    all_goals
      go_wp2_with fail
      go_ret2
      first
        | exact KEY.out _ _ _ (HROW.out.keep (below_new _ _)) (row1 w3 a _) ((Q1.out.trans (HBx.out.mono Q1.out.size)).alloc (Q1.out.trans (HBx.out.mono Q1.out.size)).size _)
        | exact KEY.out _ _ _ HROW.out (V2.out.keep HBx.out) (Q2.out.trans (HBx.out.mono Q2.out.size))
        | exact KEY.out _ _ _ HROW.out (V3.out.keep HBx.out) (Q3.out.trans (HBx.out.mono Q3.out.size))
  exact fun u v W hu hv hb => ⟨u, v, rfl, hu, hv, HB2.out.trans (hb.mono HB2.out.size)⟩
set_option maxRecDepth 100000 in
set_option maxHeartbeats 4000000 in
theorem rU11 (a b c : Nat) (m : Int) (w : World) (h : rightB ⟨11, (a : Nat), (b : Nat), (c : Nat), m⟩ = true) :
    Calls Tryd.prog 16 #[.agg #[.int .i64 11, .int .i64 a, .int .i64 b, .int .i64 c, .int .i64 m]] w (RowsPost (regL [b, c]) [a] w) := by
  have HB0 := Lib.hid (below_new w (.cells #[.int .i64 11, .int .i64 a, .int .i64 b, .int .i64 c, .int .i64 m] 23))
  have HR := Lib.hid (rRightP 11 (a : Nat) (b : Nat) (c : Nat) m (w.alloc (.cells #[.int .i64 11, .int .i64 a, .int .i64 b, .int .i64 c, .int .i64 m] 23)))
  rw [h] at HR
  clear h
  go_enter Tryd.func16, Tryd.ntmps16
  go_wp2_with fail
  refine HR.out.mono ?_; rintro e w2 ⟨rfl, hb⟩
  have HB2 := Lib.hid (HB0.out.trans (hb.mono (by simp)))
  have hk2 := (hb.block w.heap.size (by simp)).trans (block_new w _)
  have c0 : w2.cell? ⟨w.heap.size, 0, none⟩ = some (.int .i64 11) := blk_cell hk2 0
  have c1 : w2.cell? ⟨w.heap.size, 1, none⟩ = some (.int .i64 a) := blk_cell hk2 1
  have c2 : w2.cell? ⟨w.heap.size, 2, none⟩ = some (.int .i64 b) := blk_cell hk2 2
  have c3 : w2.cell? ⟨w.heap.size, 3, none⟩ = some (.int .i64 c) := blk_cell hk2 3
  have c4 : w2.cell? ⟨w.heap.size, 4, none⟩ = some (.int .i64 m) := blk_cell hk2 4
  clear hb hk2 HR
  go_wp2_with fail
  suffices key : ∀ (u v : Value) (W : World), IRow W u (regL [b, c]) → IRow W v [a] → Below w2.heap.size w2 W → RowsPost (regL [b, c]) [a] w (.returned (.tuple #[u, v])) W by
    have KEY := Lib.hid key
    clear key
    have P1 : Hid (IRow (w2.alloc (.cells #[.int .i64 (b : Nat), .int .i64 (c : Nat)] 3)).drew (.slice (some ⟨w2.heap.size, 0, none⟩) 2 2) [b, c]) := Lib.hid (row2 w2 b c _)
    have P2 : Hid (IRow ((w2.alloc (.cells #[.int .i64 (a : Nat)] 3)).alloc (.cells #[.int .i64 (b : Nat), .int .i64 (c : Nat)] 3)).drew (.slice (some ⟨w2.heap.size + 1, 0, none⟩) 2 2) [b, c]) := Lib.hid (show IRow ((w2.alloc (.cells #[.int .i64 (a : Nat)] 3)).alloc (.cells #[.int .i64 (b : Nat), .int .i64 (c : Nat)] 3)) _ _ by have := row2 (w2.alloc (.cells #[.int .i64 (a : Nat)] 3)) b c 3; simpa using this)
    have P3 : Hid (IRow ((w2.alloc (.cells #[.int .i64 (b : Nat), .int .i64 (c : Nat)] 3)).alloc (.cells #[.int .i64 (a : Nat)] 3)).drew (.slice (some ⟨w2.heap.size, 0, none⟩) 2 2) [b, c]) := Lib.hid (show IRow ((w2.alloc (.cells #[.int .i64 (b : Nat), .int .i64 (c : Nat)] 3)).alloc (.cells #[.int .i64 (a : Nat)] 3)) _ _ from (row2 w2 b c 3).keep (below_new (w2.alloc (.cells #[.int .i64 (b : Nat), .int .i64 (c : Nat)] 3)) (.cells #[.int .i64 (a : Nat)] 3)))
    have Q1 : Hid (Below w2.heap.size w2 (w2.alloc (.cells #[.int .i64 (b : Nat), .int .i64 (c : Nat)] 3)).drew) := Lib.hid (below_new _ _).drew
    have Q2 : Hid (Below w2.heap.size w2 ((w2.alloc (.cells #[.int .i64 (a : Nat)] 3)).alloc (.cells #[.int .i64 (b : Nat), .int .i64 (c : Nat)] 3)).drew) := Lib.hid ((below_new w2 _).alloc (by simp) _).drew
    have Q3 : Hid (Below w2.heap.size w2 ((w2.alloc (.cells #[.int .i64 (b : Nat), .int .i64 (c : Nat)] 3)).alloc (.cells #[.int .i64 (a : Nat)] 3)).drew) := Lib.hid ((below_new w2 _).alloc (by simp) _).drew
    have V2 : Hid (IRow ((w2.alloc (.cells #[.int .i64 (a : Nat)] 3)).alloc (.cells #[.int .i64 (b : Nat), .int .i64 (c : Nat)] 3)).drew (.slice (some ⟨w2.heap.size, 0, none⟩) 1 1) [a]) := Lib.hid (show IRow ((w2.alloc (.cells #[.int .i64 (a : Nat)] 3)).alloc (.cells #[.int .i64 (b : Nat), .int .i64 (c : Nat)] 3)) _ _ from (row1 w2 a 3).keep (below_new (w2.alloc (.cells #[.int .i64 (a : Nat)] 3)) (.cells #[.int .i64 (b : Nat), .int .i64 (c : Nat)] 3)))
    have V3 : Hid (IRow ((w2.alloc (.cells #[.int .i64 (b : Nat), .int .i64 (c : Nat)] 3)).alloc (.cells #[.int .i64 (a : Nat)] 3)).drew (.slice (some ⟨w2.heap.size + 1, 0, none⟩) 1 1) [a]) := Lib.hid (show IRow ((w2.alloc (.cells #[.int .i64 (b : Nat), .int .i64 (c : Nat)] 3)).alloc (.cells #[.int .i64 (a : Nat)] 3)) _ _ by have := row1 (w2.alloc (.cells #[.int .i64 (b : Nat), .int .i64 (c : Nat)] 3)) a 3; simpa using this)
    clear c0 c4
    go_region_held3 (fun w' => w'.cell? ⟨w.heap.size, 1, none⟩ = some (.int .i64 a) ∧ w'.cell? ⟨w.heap.size, 2, none⟩ = some (.int .i64 b) ∧ w'.cell? ⟨w.heap.size, 3, none⟩ = some (.int .i64 c))
      (first | exact ⟨c1, c2, c3⟩ | (go_split_ands; first | exact ⟨by assumption, by assumption, by assumption⟩ | exact ⟨keep_below (below_new _ _) (by assumption), keep_below (below_new _ _) (by assumption), keep_below (below_new _ _) (by assumption)⟩ | exact ⟨keep_below (below_new _ _).drew (by assumption), keep_below (below_new _ _).drew (by assumption), keep_below (below_new _ _).drew (by assumption)⟩ | exact ⟨keep_below HBx.out (by assumption), keep_below HBx.out (by assumption), keep_below HBx.out (by assumption)⟩) | fail)
      (first
        | (go_at_call 40; refine (rusesP _ [b, c] _ (by first | exact P1.out | exact P2.out | exact P3.out)).mono ?_; rintro e w3 ⟨v, rfl, hrow, hb⟩; have HBx := Lib.hid hb; have HROW := Lib.hid hrow; clear hb hrow))
    all_goals
      go_wp2_with fail
      go_ret2
      first
        | exact KEY.out _ _ _ (HROW.out.keep (below_new _ _)) (row1 w3 a _) ((Q1.out.trans (HBx.out.mono Q1.out.size)).alloc (Q1.out.trans (HBx.out.mono Q1.out.size)).size _)
        | exact KEY.out _ _ _ HROW.out (V2.out.keep HBx.out) (Q2.out.trans (HBx.out.mono Q2.out.size))
        | exact KEY.out _ _ _ HROW.out (V3.out.keep HBx.out) (Q3.out.trans (HBx.out.mono Q3.out.size))
  exact fun u v W hu hv hb => ⟨u, v, rfl, hu, hv, HB2.out.trans (hb.mono HB2.out.size)⟩
set_option maxRecDepth 100000 in
set_option maxHeartbeats 4000000 in
theorem rU12 (a b c : Nat) (m : Int) (w : World) (h : rightB ⟨12, (a : Nat), (b : Nat), (c : Nat), m⟩ = true) :
    Calls Tryd.prog 16 #[.agg #[.int .i64 12, .int .i64 a, .int .i64 b, .int .i64 c, .int .i64 m]] w (RowsPost (regL [b, c]) [a] w) := by
  have HB0 := Lib.hid (below_new w (.cells #[.int .i64 12, .int .i64 a, .int .i64 b, .int .i64 c, .int .i64 m] 23))
  have HR := Lib.hid (rRightP 12 (a : Nat) (b : Nat) (c : Nat) m (w.alloc (.cells #[.int .i64 12, .int .i64 a, .int .i64 b, .int .i64 c, .int .i64 m] 23)))
  rw [h] at HR
  clear h
  go_enter Tryd.func16, Tryd.ntmps16
  go_wp2_with fail
  refine HR.out.mono ?_; rintro e w2 ⟨rfl, hb⟩
  have HB2 := Lib.hid (HB0.out.trans (hb.mono (by simp)))
  have hk2 := (hb.block w.heap.size (by simp)).trans (block_new w _)
  have c0 : w2.cell? ⟨w.heap.size, 0, none⟩ = some (.int .i64 12) := blk_cell hk2 0
  have c1 : w2.cell? ⟨w.heap.size, 1, none⟩ = some (.int .i64 a) := blk_cell hk2 1
  have c2 : w2.cell? ⟨w.heap.size, 2, none⟩ = some (.int .i64 b) := blk_cell hk2 2
  have c3 : w2.cell? ⟨w.heap.size, 3, none⟩ = some (.int .i64 c) := blk_cell hk2 3
  have c4 : w2.cell? ⟨w.heap.size, 4, none⟩ = some (.int .i64 m) := blk_cell hk2 4
  clear hb hk2 HR
  go_wp2_with fail
  suffices key : ∀ (u v : Value) (W : World), IRow W u (regL [b, c]) → IRow W v [a] → Below w2.heap.size w2 W → RowsPost (regL [b, c]) [a] w (.returned (.tuple #[u, v])) W by
    have KEY := Lib.hid key
    clear key
    have P1 : Hid (IRow (w2.alloc (.cells #[.int .i64 (b : Nat), .int .i64 (c : Nat)] 3)).drew (.slice (some ⟨w2.heap.size, 0, none⟩) 2 2) [b, c]) := Lib.hid (row2 w2 b c _)
    have P2 : Hid (IRow ((w2.alloc (.cells #[.int .i64 (a : Nat)] 3)).alloc (.cells #[.int .i64 (b : Nat), .int .i64 (c : Nat)] 3)).drew (.slice (some ⟨w2.heap.size + 1, 0, none⟩) 2 2) [b, c]) := Lib.hid (show IRow ((w2.alloc (.cells #[.int .i64 (a : Nat)] 3)).alloc (.cells #[.int .i64 (b : Nat), .int .i64 (c : Nat)] 3)) _ _ by have := row2 (w2.alloc (.cells #[.int .i64 (a : Nat)] 3)) b c 3; simpa using this)
    have P3 : Hid (IRow ((w2.alloc (.cells #[.int .i64 (b : Nat), .int .i64 (c : Nat)] 3)).alloc (.cells #[.int .i64 (a : Nat)] 3)).drew (.slice (some ⟨w2.heap.size, 0, none⟩) 2 2) [b, c]) := Lib.hid (show IRow ((w2.alloc (.cells #[.int .i64 (b : Nat), .int .i64 (c : Nat)] 3)).alloc (.cells #[.int .i64 (a : Nat)] 3)) _ _ from (row2 w2 b c 3).keep (below_new (w2.alloc (.cells #[.int .i64 (b : Nat), .int .i64 (c : Nat)] 3)) (.cells #[.int .i64 (a : Nat)] 3)))
    have Q1 : Hid (Below w2.heap.size w2 (w2.alloc (.cells #[.int .i64 (b : Nat), .int .i64 (c : Nat)] 3)).drew) := Lib.hid (below_new _ _).drew
    have Q2 : Hid (Below w2.heap.size w2 ((w2.alloc (.cells #[.int .i64 (a : Nat)] 3)).alloc (.cells #[.int .i64 (b : Nat), .int .i64 (c : Nat)] 3)).drew) := Lib.hid ((below_new w2 _).alloc (by simp) _).drew
    have Q3 : Hid (Below w2.heap.size w2 ((w2.alloc (.cells #[.int .i64 (b : Nat), .int .i64 (c : Nat)] 3)).alloc (.cells #[.int .i64 (a : Nat)] 3)).drew) := Lib.hid ((below_new w2 _).alloc (by simp) _).drew
    have V2 : Hid (IRow ((w2.alloc (.cells #[.int .i64 (a : Nat)] 3)).alloc (.cells #[.int .i64 (b : Nat), .int .i64 (c : Nat)] 3)).drew (.slice (some ⟨w2.heap.size, 0, none⟩) 1 1) [a]) := Lib.hid (show IRow ((w2.alloc (.cells #[.int .i64 (a : Nat)] 3)).alloc (.cells #[.int .i64 (b : Nat), .int .i64 (c : Nat)] 3)) _ _ from (row1 w2 a 3).keep (below_new (w2.alloc (.cells #[.int .i64 (a : Nat)] 3)) (.cells #[.int .i64 (b : Nat), .int .i64 (c : Nat)] 3)))
    have V3 : Hid (IRow ((w2.alloc (.cells #[.int .i64 (b : Nat), .int .i64 (c : Nat)] 3)).alloc (.cells #[.int .i64 (a : Nat)] 3)).drew (.slice (some ⟨w2.heap.size + 1, 0, none⟩) 1 1) [a]) := Lib.hid (show IRow ((w2.alloc (.cells #[.int .i64 (b : Nat), .int .i64 (c : Nat)] 3)).alloc (.cells #[.int .i64 (a : Nat)] 3)) _ _ by have := row1 (w2.alloc (.cells #[.int .i64 (b : Nat), .int .i64 (c : Nat)] 3)) a 3; simpa using this)
    clear c0 c4
    go_region_held3 (fun w' => w'.cell? ⟨w.heap.size, 1, none⟩ = some (.int .i64 a) ∧ w'.cell? ⟨w.heap.size, 2, none⟩ = some (.int .i64 b) ∧ w'.cell? ⟨w.heap.size, 3, none⟩ = some (.int .i64 c))
      (first | exact ⟨c1, c2, c3⟩ | (go_split_ands; first | exact ⟨by assumption, by assumption, by assumption⟩ | exact ⟨keep_below (below_new _ _) (by assumption), keep_below (below_new _ _) (by assumption), keep_below (below_new _ _) (by assumption)⟩ | exact ⟨keep_below (below_new _ _).drew (by assumption), keep_below (below_new _ _).drew (by assumption), keep_below (below_new _ _).drew (by assumption)⟩ | exact ⟨keep_below HBx.out (by assumption), keep_below HBx.out (by assumption), keep_below HBx.out (by assumption)⟩) | fail)
      (first
        | (go_at_call 40; refine (rusesP _ [b, c] _ (by first | exact P1.out | exact P2.out | exact P3.out)).mono ?_; rintro e w3 ⟨v, rfl, hrow, hb⟩; have HBx := Lib.hid hb; have HROW := Lib.hid hrow; clear hb hrow))
    all_goals
      go_wp2_with fail
      go_ret2
      first
        | exact KEY.out _ _ _ (HROW.out.keep (below_new _ _)) (row1 w3 a _) ((Q1.out.trans (HBx.out.mono Q1.out.size)).alloc (Q1.out.trans (HBx.out.mono Q1.out.size)).size _)
        | exact KEY.out _ _ _ HROW.out (V2.out.keep HBx.out) (Q2.out.trans (HBx.out.mono Q2.out.size))
        | exact KEY.out _ _ _ HROW.out (V3.out.keep HBx.out) (Q3.out.trans (HBx.out.mono Q3.out.size))
  exact fun u v W hu hv hb => ⟨u, v, rfl, hu, hv, HB2.out.trans (hb.mono HB2.out.size)⟩
set_option maxRecDepth 100000 in
theorem rU30 (a b c m : Nat) (w : World) (h : rightB ⟨30, (a : Nat), (b : Nat), (c : Nat), (m : Nat)⟩ = true) (hm : m < 8) :
    Calls Tryd.prog 16 #[.agg #[.int .i64 30, .int .i64 a, .int .i64 b, .int .i64 c, .int .i64 m]] w (RowsPost (List.range (sysR.getD m 0)) (List.range (sysW.getD m 0)) w) := by
  have HB0 := Lib.hid (below_new w (.cells #[.int .i64 30, .int .i64 a, .int .i64 b, .int .i64 c, .int .i64 m] 23))
  have HR := Lib.hid (rRightP 30 (a : Nat) (b : Nat) (c : Nat) (m : Nat) (w.alloc (.cells #[.int .i64 30, .int .i64 a, .int .i64 b, .int .i64 c, .int .i64 m] 23)))
  rw [h] at HR
  have HS := Lib.hid (fun W => systemP m W hm)
  clear h hm
  go_enter Tryd.func16, Tryd.ntmps16
  go_wp2_with fail
  refine HR.out.mono ?_; rintro e w2 ⟨rfl, hb⟩
  have HB2 := Lib.hid (HB0.out.trans (hb.mono (by simp)))
  have hk2 := (hb.block w.heap.size (by simp)).trans (block_new w _)
  have c0 : w2.cell? ⟨w.heap.size, 0, none⟩ = some (.int .i64 30) := blk_cell hk2 0
  have c1 : w2.cell? ⟨w.heap.size, 1, none⟩ = some (.int .i64 a) := blk_cell hk2 1
  have c2 : w2.cell? ⟨w.heap.size, 2, none⟩ = some (.int .i64 b) := blk_cell hk2 2
  have c3 : w2.cell? ⟨w.heap.size, 3, none⟩ = some (.int .i64 c) := blk_cell hk2 3
  have c4 : w2.cell? ⟨w.heap.size, 4, none⟩ = some (.int .i64 m) := blk_cell hk2 4
  clear hb hk2 HR
  go_wp2_with fail
  refine (HS.out _).mono ?_; rintro e w3 ⟨u, v, rfl, hu, hv, hb⟩
  have HF : Hid (RowsPost (List.range (sysR.getD m 0)) (List.range (sysW.getD m 0)) w (.returned (.tuple #[u, v])) w3) := Lib.hid ⟨_, _, rfl, hu, hv, HB2.out.trans (hb.mono HB2.out.size)⟩
  clear hu hv hb
  go_wp2_with fail
  go_ret2
  exact HF.out
theorem rUsesNoP (o a b c m : Int) (w : World) (h : rightB ⟨o, a, b, c, m⟩ = false) :
    Calls Tryd.prog 16 #[.agg #[.int .i64 o, .int .i64 a, .int .i64 b, .int .i64 c, .int .i64 m]] w (RowsPost [] [] w) := by
  have HB0 := Lib.hid (below_new w (.cells #[.int .i64 o, .int .i64 a, .int .i64 b, .int .i64 c, .int .i64 m] 23))
  have HR := Lib.hid (rRightP o a b c m (w.alloc (.cells #[.int .i64 o, .int .i64 a, .int .i64 b, .int .i64 c, .int .i64 m] 23)))
  rw [h] at HR
  clear h
  go_enter Tryd.func16, Tryd.ntmps16
  go_wp2_with fail
  refine HR.out.mono ?_; rintro e w2 ⟨rfl, hb⟩
  have HB := Lib.hid hb; clear hb
  go_wp2_with fail
  have HF : Hid (RowsPost [] [] w (.returned (.tuple #[.slice none 0 0, .slice none 0 0])) w2) := Lib.hid ⟨_, _, rfl, IRow.nil _, IRow.nil _, HB0.out.trans (HB.out.mono (by simp))⟩
  go_ret2
  exact HF.out
theorem rds_of {o a b c m : Int} {q : Nat} (h : rightB ⟨o, a, b, c, m⟩ = true) (h30 : o ≠ 30) (hq : rdN o.toNat = q) : rdsL ⟨o, a, b, c, m⟩ = usedL ⟨o, a, b, c, m⟩ q := by
  unfold rdsL; rw [h, if_pos rfl, if_neg h30, hq]
theorem wrs_of {o a b c m : Int} {q : Nat} (h : rightB ⟨o, a, b, c, m⟩ = true) (h30 : o ≠ 30) (hq : wrN o.toNat = q) : wrsL ⟨o, a, b, c, m⟩ = usedL ⟨o, a, b, c, m⟩ q := by
  unfold wrsL; rw [h, if_pos rfl, if_neg h30, hq]
/-- Uses. -/
theorem rUsesP (o a b c m : Int) (w : World) :
    Calls Tryd.prog 16 #[.agg #[.int .i64 o, .int .i64 a, .int .i64 b, .int .i64 c, .int .i64 m]] w (RowsPost (rdsL ⟨o, a, b, c, m⟩) (wrsL ⟨o, a, b, c, m⟩) w) := by
  cases h : rightB ⟨o, a, b, c, m⟩
  · rw [show rdsL ⟨o, a, b, c, m⟩ = [] by unfold rdsL; rw [h]; rfl, show wrsL ⟨o, a, b, c, m⟩ = [] by unfold wrsL; rw [h]; rfl]
    exact rUsesNoP o a b c m w h
  have ho := right_op h
  simp only at ho
  have h0 := right_reg h 0 (by omega)
  have h1 := right_reg h 1 (by omega)
  have h2 := right_reg h 2 (by omega)
  rw [show fldN ⟨o, a, b, c, m⟩ 0 = a from rfl] at h0
  rw [show fldN ⟨o, a, b, c, m⟩ 1 = b from rfl] at h1
  rw [show fldN ⟨o, a, b, c, m⟩ 2 = c from rfl] at h2
  obtain ⟨a, rfl⟩ := Int.eq_ofNat_of_zero_le h0.1
  obtain ⟨b, rfl⟩ := Int.eq_ofNat_of_zero_le h1.1
  obtain ⟨c, rfl⟩ := Int.eq_ofNat_of_zero_le h2.1
  have ha : a < 16 := by omega
  have hb : b < 16 := by omega
  have hc : c < 16 := by omega
  have hcs : o = 1 ∨ o = 2 ∨ o = 3 ∨ o = 4 ∨ o = 5 ∨ o = 6 ∨ o = 7 ∨ o = 8 ∨ o = 9 ∨ o = 10 ∨ o = 11 ∨ o = 12 ∨ o = 13 ∨ o = 14 ∨ o = 15 ∨ o = 16 ∨ o = 17 ∨ o = 18 ∨ o = 19 ∨ o = 20 ∨ o = 21 ∨ o = 22 ∨ o = 23 ∨ o = 24 ∨ o = 25 ∨ o = 26 ∨ o = 27 ∨ o = 28 ∨ o = 29 ∨ o = 30 := by omega
  rcases hcs with rfl | rfl | rfl | rfl | rfl | rfl | rfl | rfl | rfl | rfl | rfl | rfl | rfl | rfl | rfl | rfl | rfl | rfl | rfl | rfl | rfl | rfl | rfl | rfl | rfl | rfl | rfl | rfl | rfl | rfl
  · have e1 := (rds_of h (by decide) (q := 0) rfl).trans (used0 _ _ _ _ _)
    have e2 := (wrs_of h (by decide) (q := 0) rfl).trans (used0 _ _ _ _ _)
    rw [e1, e2]
    exact rU1 a b c m w h
  · have e1 := (rds_of h (by decide) (q := 0) rfl).trans (used0 _ _ _ _ _)
    have e2 := (wrs_of h (by decide) (q := 0) rfl).trans (used0 _ _ _ _ _)
    rw [e1, e2]
    exact rU2 a b c m w h
  · have e1 := (rds_of h (by decide) (q := 0) rfl).trans (used0 _ _ _ _ _)
    have e2 := (wrs_of h (by decide) (q := 1) rfl).trans (usedA _ _ a _ _ ha)
    rw [e1, e2]
    exact rU3 a b c m w h
  · have e1 := (rds_of h (by decide) (q := 1) rfl).trans (usedA _ _ a _ _ ha)
    have e2 := (wrs_of h (by decide) (q := 1) rfl).trans (usedA _ _ a _ _ ha)
    rw [e1, e2]
    exact rU4 a b c m w h
  · have e1 := (rds_of h (by decide) (q := 2) rfl).trans (usedB _ _ b _ _ hb)
    have e2 := (wrs_of h (by decide) (q := 1) rfl).trans (usedA _ _ a _ _ ha)
    rw [e1, e2]
    exact rU5 a b c m w h
  · have e1 := (rds_of h (by decide) (q := 6) rfl).trans (usedBC _ _ b c _)
    have e2 := (wrs_of h (by decide) (q := 1) rfl).trans (usedA _ _ a _ _ ha)
    rw [e1, e2]
    exact rU6 a b c m w h
  · have e1 := (rds_of h (by decide) (q := 6) rfl).trans (usedBC _ _ b c _)
    have e2 := (wrs_of h (by decide) (q := 1) rfl).trans (usedA _ _ a _ _ ha)
    rw [e1, e2]
    exact rU7 a b c m w h
  · have e1 := (rds_of h (by decide) (q := 6) rfl).trans (usedBC _ _ b c _)
    have e2 := (wrs_of h (by decide) (q := 1) rfl).trans (usedA _ _ a _ _ ha)
    rw [e1, e2]
    exact rU8 a b c m w h
  · have e1 := (rds_of h (by decide) (q := 6) rfl).trans (usedBC _ _ b c _)
    have e2 := (wrs_of h (by decide) (q := 1) rfl).trans (usedA _ _ a _ _ ha)
    rw [e1, e2]
    exact rU9 a b c m w h
  · have e1 := (rds_of h (by decide) (q := 6) rfl).trans (usedBC _ _ b c _)
    have e2 := (wrs_of h (by decide) (q := 1) rfl).trans (usedA _ _ a _ _ ha)
    rw [e1, e2]
    exact rU10 a b c m w h
  · have e1 := (rds_of h (by decide) (q := 6) rfl).trans (usedBC _ _ b c _)
    have e2 := (wrs_of h (by decide) (q := 1) rfl).trans (usedA _ _ a _ _ ha)
    rw [e1, e2]
    exact rU11 a b c m w h
  · have e1 := (rds_of h (by decide) (q := 6) rfl).trans (usedBC _ _ b c _)
    have e2 := (wrs_of h (by decide) (q := 1) rfl).trans (usedA _ _ a _ _ ha)
    rw [e1, e2]
    exact rU12 a b c m w h
  · have e1 := (rds_of h (by decide) (q := 2) rfl).trans (usedB _ _ b _ _ hb)
    have e2 := (wrs_of h (by decide) (q := 1) rfl).trans (usedA _ _ a _ _ ha)
    rw [e1, e2]
    exact rU13 a b c m w h
  · have e1 := (rds_of h (by decide) (q := 0) rfl).trans (used0 _ _ _ _ _)
    have e2 := (wrs_of h (by decide) (q := 1) rfl).trans (usedA _ _ a _ _ ha)
    rw [e1, e2]
    exact rU14 a b c m w h
  · have e1 := (rds_of h (by decide) (q := 2) rfl).trans (usedB _ _ b _ _ hb)
    have e2 := (wrs_of h (by decide) (q := 1) rfl).trans (usedA _ _ a _ _ ha)
    rw [e1, e2]
    exact rU15 a b c m w h
  · have e1 := (rds_of h (by decide) (q := 2) rfl).trans (usedB _ _ b _ _ hb)
    have e2 := (wrs_of h (by decide) (q := 1) rfl).trans (usedA _ _ a _ _ ha)
    rw [e1, e2]
    exact rU16 a b c m w h
  · have e1 := (rds_of h (by decide) (q := 3) rfl).trans (usedAB _ _ a b _)
    have e2 := (wrs_of h (by decide) (q := 0) rfl).trans (used0 _ _ _ _ _)
    rw [e1, e2]
    exact rU17 a b c m w h
  · have e1 := (rds_of h (by decide) (q := 3) rfl).trans (usedAB _ _ a b _)
    have e2 := (wrs_of h (by decide) (q := 0) rfl).trans (used0 _ _ _ _ _)
    rw [e1, e2]
    exact rU18 a b c m w h
  · have e1 := (rds_of h (by decide) (q := 0) rfl).trans (used0 _ _ _ _ _)
    have e2 := (wrs_of h (by decide) (q := 0) rfl).trans (used0 _ _ _ _ _)
    rw [e1, e2]
    exact rU19 a b c m w h
  · have e1 := (rds_of h (by decide) (q := 1) rfl).trans (usedA _ _ a _ _ ha)
    have e2 := (wrs_of h (by decide) (q := 0) rfl).trans (used0 _ _ _ _ _)
    rw [e1, e2]
    exact rU20 a b c m w h
  · have e1 := (rds_of h (by decide) (q := 1) rfl).trans (usedA _ _ a _ _ ha)
    have e2 := (wrs_of h (by decide) (q := 0) rfl).trans (used0 _ _ _ _ _)
    rw [e1, e2]
    exact rU21 a b c m w h
  · have e1 := (rds_of h (by decide) (q := 16) rfl).trans (used15 _ _ _ _ _)
    have e2 := (wrs_of h (by decide) (q := 16) rfl).trans (used15 _ _ _ _ _)
    rw [e1, e2]
    exact rU22 a b c m w h
  · have e1 := (rds_of h (by decide) (q := 17) rfl).trans (usedA15 _ _ a _ _)
    have e2 := (wrs_of h (by decide) (q := 16) rfl).trans (used15 _ _ _ _ _)
    rw [e1, e2]
    exact rU23 a b c m w h
  · have e1 := (rds_of h (by decide) (q := 16) rfl).trans (used15 _ _ _ _ _)
    have e2 := (wrs_of h (by decide) (q := 16) rfl).trans (used15 _ _ _ _ _)
    rw [e1, e2]
    exact rU24 a b c m w h
  · have e1 := (rds_of h (by decide) (q := 0) rfl).trans (used0 _ _ _ _ _)
    have e2 := (wrs_of h (by decide) (q := 0) rfl).trans (used0 _ _ _ _ _)
    rw [e1, e2]
    exact rU25 a b c m w h
  · have e1 := (rds_of h (by decide) (q := 16) rfl).trans (used15 _ _ _ _ _)
    have e2 := (wrs_of h (by decide) (q := 16) rfl).trans (used15 _ _ _ _ _)
    rw [e1, e2]
    exact rU26 a b c m w h
  · have e1 := (rds_of h (by decide) (q := 17) rfl).trans (usedA15 _ _ a _ _)
    have e2 := (wrs_of h (by decide) (q := 16) rfl).trans (used15 _ _ _ _ _)
    rw [e1, e2]
    exact rU27 a b c m w h
  · have e1 := (rds_of h (by decide) (q := 16) rfl).trans (used15 _ _ _ _ _)
    have e2 := (wrs_of h (by decide) (q := 17) rfl).trans (usedA15 _ _ a _ _)
    rw [e1, e2]
    exact rU28 a b c m w h
  · have e1 := (rds_of h (by decide) (q := 2) rfl).trans (usedB _ _ b _ _ hb)
    have e2 := (wrs_of h (by decide) (q := 1) rfl).trans (usedA _ _ a _ _ ha)
    rw [e1, e2]
    exact rU29 a b c m w h
  · have hm := sys_imm h
    obtain ⟨k, rfl⟩ := Int.eq_ofNat_of_zero_le (a := m) hm.1
    rw [show rdsL ⟨30, (a : Nat), (b : Nat), (c : Nat), (k : Nat)⟩ = List.range (sysR.getD k 0) by unfold rdsL; rw [h]; rfl, show wrsL ⟨30, (a : Nat), (b : Nat), (c : Nat), (k : Nat)⟩ = List.range (sysW.getD k 0) by unfold wrsL; rw [h]; rfl]
    exact rU30 a b c k w h (by omega)
end Go.Proofs.YtmnhnighlgpjmaaDoor

