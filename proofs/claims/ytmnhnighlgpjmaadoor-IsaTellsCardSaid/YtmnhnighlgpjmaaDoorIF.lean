/-
  Package isa: Uses. The law's ints.
-/
import Derived.Test.YtmnhnighlgpjmaaDoorIE
import Derived.RegionTactic
import Derived.Deep.RegionHeld3
import Derived.ChangeAlike
namespace Go.Proofs.YtmnhnighlgpjmaaDoor
set_option linter.unusedVariables false
set_option linter.unusedSimpArgs false
open Go.RowKit

/-- What an instruction reads and writes. -/
def rdsL (i : Ins) : List Nat := if rightB i then (if i.op = 30 then List.range (sysR.getD i.m.toNat 0) else usedL i (rdN i.op.toNat)) else []
def wrsL (i : Ins) : List Nat := if rightB i then (if i.op = 30 then List.range (sysW.getD i.m.toNat 0) else usedL i (wrN i.op.toNat)) else []
def RowsPost (l r : List Nat) (w : World) (e : Ending) (w' : World) : Prop := ∃ u v, e = .returned (.tuple #[u, v]) ∧ IRow w' u l ∧ IRow w' v r ∧ Below w.heap.size w w'

theorem below_trod (w2 : World) (o : Obj) {w1 w' : World} (h1 : Below (w2.alloc o).drew.heap.size (w2.alloc o).drew w1) (h2 : Below w1.heap.size w1 w') : Below w2.heap.size w2 w' := by
  have e : (w2.alloc o).drew.heap.size = w2.heap.size + 1 := by simp
  have hs := h1.size
  rw [e] at hs h1
  exact ((below_new w2 o).drew.trans (h1.mono (by omega))).trans (h2.mono (by omega))
theorem rd_reg (o : Nat) : hasB (rdN o) 3 = false := by
  by_cases h : o < 31
  · have : ∀ o, o < 31 → hasB (rdN o) 3 = false := by decide
    exact this o h
  · unfold rdN; rw [List.getD_eq_getElem?_getD, List.getElem?_eq_none (by simp [rdL]; omega)]; decide
theorem wr_reg (o : Nat) : hasB (wrN o) 3 = false := by
  by_cases h : o < 31
  · have : ∀ o, o < 31 → hasB (wrN o) 3 = false := by decide
    exact this o h
  · unfold wrN; rw [List.getD_eq_getElem?_getD, List.getElem?_eq_none (by simp [wrL]; omega)]; decide
theorem sys_imm {a b c m : Int} (h : rightB ⟨30, a, b, c, m⟩ = true) : 0 ≤ m ∧ m < 8 := by
  unfold rightB at h
  simp only [Bool.and_eq_true] at h
  have := h.2
  simpa [immB] using this
theorem keep_below {w w' : World} (hb : Below w.heap.size w w') {a : Addr} {v : Value} (h : w.cell? a = some v) : w'.cell? a = some v := (hb.cell (World.block_lt_of_cell? w a h)).trans h
theorem keep7 {w w' : World} (hb : Below w.heap.size w w') {a0 a1 a2 a3 a4 a5 a6 : Addr} {v0 v1 v2 v3 v4 v5 v6 : Value} (h : w.cell? a0 = some v0 ∧ w.cell? a1 = some v1 ∧ w.cell? a2 = some v2 ∧ w.cell? a3 = some v3 ∧ w.cell? a4 = some v4 ∧ w.cell? a5 = some v5 ∧ w.cell? a6 = some v6) :
    w'.cell? a0 = some v0 ∧ w'.cell? a1 = some v1 ∧ w'.cell? a2 = some v2 ∧ w'.cell? a3 = some v3 ∧ w'.cell? a4 = some v4 ∧ w'.cell? a5 = some v5 ∧ w'.cell? a6 = some v6 :=
  ⟨keep_below hb h.1, keep_below hb h.2.1, keep_below hb h.2.2.1, keep_below hb h.2.2.2.1, keep_below hb h.2.2.2.2.1, keep_below hb h.2.2.2.2.2.1, keep_below hb h.2.2.2.2.2.2⟩
theorem usesNoP (o a b c m : Int) (w : World) (hF : FormsAt w) (h : rightB ⟨o, a, b, c, m⟩ = false) :
    Calls Tryd.prog 15 #[.agg #[.int .i64 o, .int .i64 a, .int .i64 b, .int .i64 c, .int .i64 m]] w (RowsPost [] [] w) := by
  have HB0 := Lib.hid ((Below.refl w.heap.size w).alloc (Nat.le_refl _) (.cells #[.int .i64 o, .int .i64 a, .int .i64 b, .int .i64 c, .int .i64 m] 23))
  have HR := Lib.hid (rightP o a b c m _ (hF.keep HB0.out))
  rw [h] at HR
  clear hF h
  go_enter Tryd.func15, Tryd.ntmps15
  go_wp2_with fail
  refine HR.out.mono ?_; rintro e w2 ⟨rfl, hb⟩
  have HB := Lib.hid hb; clear hb
  go_wp2_with fail
  have HF : Hid (RowsPost [] [] w (.returned (.tuple #[.slice none 0 0, .slice none 0 0])) w2) := Lib.hid ⟨_, _, rfl, IRow.nil _, IRow.nil _, HB0.out.trans (HB.out.mono (by simp))⟩
  go_ret2
  exact HF.out

set_option maxRecDepth 100000 in
set_option maxHeartbeats 4000000 in
theorem usesSysP (a b c : Int) (m : Nat) (w : World) (hL : LaidI w) (h : rightB ⟨30, a, b, c, m⟩ = true) (hm : m < 8) :
    Calls Tryd.prog 15 #[.agg #[.int .i64 30, .int .i64 a, .int .i64 b, .int .i64 c, .int .i64 m]] w (RowsPost (List.range (sysR.getD m 0)) (List.range (sysW.getD m 0)) w) := by
  have HB0 := Lib.hid ((Below.refl w.heap.size w).alloc (Nat.le_refl _) (.cells #[.int .i64 30, .int .i64 a, .int .i64 b, .int .i64 c, .int .i64 m] 23))
  have HL0 := Lib.hid (hL.keep HB0.out)
  have HK0 := Lib.hid (block_new w (.cells #[.int .i64 30, .int .i64 a, .int .i64 b, .int .i64 c, .int .i64 m] 23))
  have HR := Lib.hid (rightP 30 a b c m _ HL0.out.forms)
  rw [h] at HR
  clear hL h
  have h4 : ∀ m, m < 8 → sysR.getD m 0 < 4 ∧ sysW.getD m 0 < 4 := by decide
  obtain ⟨p, hp⟩ : ∃ p, sysR.getD m 0 = p := ⟨_, rfl⟩
  obtain ⟨q, hq⟩ : ∃ q, sysW.getD m 0 = q := ⟨_, rfl⟩
  have hpq := h4 m hm
  rw [hp, hq] at hpq
  rw [hp, hq]
  have HP := Lib.hid hp
  have HQ := Lib.hid hq
  clear h4 hp hq
  have HFI := Lib.hid (fun W => firstP p W hpq.1)
  have HFJ := Lib.hid (fun W => firstP q W hpq.2)
  go_enter Tryd.func15, Tryd.ntmps15
  go_wp2_with fail
  refine HR.out.mono ?_; rintro e w2 ⟨rfl, hb⟩
  have hk2 := (hb.block w.heap.size (by simp)).trans HK0.out
  have c0 : w2.cell? ⟨w.heap.size, 0, none⟩ = some (.int .i64 30) := blk_cell hk2 0
  have c4 : w2.cell? ⟨w.heap.size, 4, none⟩ = some (.int .i64 (m : Nat)) := blk_cell hk2 4
  have HL2 := Lib.hid (HL0.out.keep hb)
  have y0 : w2.cell? ⟨1, m * 2, none⟩ = some (.int .i64 (p : Nat)) := by rw [← HP.out]; exact (HL2.out.calls.2 m hm).1
  have y1 : w2.cell? ⟨1, m * 2 + 1, none⟩ = some (.int .i64 (q : Nat)) := by rw [← HQ.out]; exact (HL2.out.calls.2 m hm).2
  have HB2 := Lib.hid (HB0.out.trans (hb.mono (by simp)))
  clear hb hk2
  go_wp2_with fail
  clear c0 c4 y0 y1
  have hp4 := hpq.1
  have hq4 := hpq.2
  clear hpq
  suffices key : ∀ (u v : Value) (W : World), IRow W u (List.range p) → IRow W v (List.range q) → Below w2.heap.size w2 W → RowsPost (List.range p) (List.range q) w (.returned (.tuple #[u, v])) W by
    have KEY := Lib.hid key
    clear key
    go_region_with (go_at_call 38; refine (firstP _ _ (by assumption)).mono ?_; rintro e w' ⟨v, rfl, hrow, hb⟩; have hx0 := (hb.cell (p := ⟨w2.heap.size, 0, none⟩) (by first | (simp; done) | (have := HBx.out.size; simp at this; show w2.heap.size < _; omega))); have hx1 := (hb.cell (p := ⟨w2.heap.size, 1, none⟩) (by first | (simp; done) | (have := HBx.out.size; simp at this; show w2.heap.size < _; omega))); have HBx := Lib.hid hb; have HROW := Lib.hid hrow; clear hb hrow)
    all_goals go_wp2_with fail
    all_goals
      have hA := IRow.keep (l := List.range p) (Hid.out (by assumption)) HBx.out
      have hB := (below_trod w2 _ (Hid.out (by assumption)) HBx.out)
      have HF := Lib.hid (KEY.out _ _ _ hA HROW.out hB)
      clear hA hB
      go_ret2
      exact HF.out
  exact fun u v W hu hv hb => ⟨u, v, rfl, hu, hv, HB2.out.trans (hb.mono HB2.out.size)⟩

set_option maxRecDepth 100000 in
set_option maxHeartbeats 4000000 in
theorem usesRegP (o : Nat) (a b c m : Int) (w : World) (hL : LaidI w) (h : rightB ⟨o, a, b, c, m⟩ = true) (h30 : o ≠ 30) :
    Calls Tryd.prog 15 #[.agg #[.int .i64 o, .int .i64 a, .int .i64 b, .int .i64 c, .int .i64 m]] w (RowsPost (usedL ⟨o, a, b, c, m⟩ (rdN o)) (usedL ⟨o, a, b, c, m⟩ (wrN o)) w) := by
  have HB0 := Lib.hid ((Below.refl w.heap.size w).alloc (Nat.le_refl _) (.cells #[.int .i64 o, .int .i64 a, .int .i64 b, .int .i64 c, .int .i64 m] 23))
  have HL0 := Lib.hid (hL.keep HB0.out)
  have HK0 := Lib.hid (block_new w (.cells #[.int .i64 o, .int .i64 a, .int .i64 b, .int .i64 c, .int .i64 m] 23))
  have HR := Lib.hid (rightP o a b c m _ HL0.out.forms)
  rw [h] at HR
  have ho31 : o < 31 := by have := (right_op h).2; simp only at this; omega
  have hreg := fun k (hk : k < 3) => right_reg h k hk
  have hrd := rdN_lt o
  have hwr := wrN_lt o
  have hr3 := rd_reg o
  have hw3 := wr_reg o
  have hregs : ∀ q, hasB q 3 = false → ∀ k, k < 4 → hasB q k = true → ∃ n : Nat, n < 16 ∧ fldN ⟨o, a, b, c, m⟩ k = (n : Nat) := by
    intro q hq k hk hh
    by_cases e : k = 3
    · rw [e, hq] at hh; cases hh
    · have := hreg k (by omega)
      exact ⟨(fldN ⟨o, a, b, c, m⟩ k).toNat, by omega, by omega⟩
  have HU := Lib.hid (fun (q : Nat) (W : World) (hq : q < 32) (h3 : hasB q 3 = false) => usedP o a b c m q W hq (hregs q h3))
  obtain ⟨p, hp⟩ : ∃ p, rdN o = p := ⟨_, rfl⟩
  obtain ⟨q, hq⟩ : ∃ q, wrN o = q := ⟨_, rfl⟩
  have hns : ∃ x : ByteArray, (⟨(nameN o).toArray⟩ : ByteArray) = x := ⟨_, rfl⟩
  obtain ⟨nm, hnm⟩ := hns
  obtain ⟨os, hos⟩ : ∃ x, opsN o = x := ⟨_, rfl⟩
  rw [hp] at hrd hr3
  rw [hq] at hwr hw3
  rw [hp, hq]
  have HP := Lib.hid hp
  have HQ := Lib.hid hq
  have HN := Lib.hid hnm
  have HO := Lib.hid hos
  have hd : ((o : Int) == 30) = false := beq_eq_false_iff_ne.2 (by omega)
  clear h hL hreg hregs hp hq hnm hos h30
  obtain ⟨L, hLe⟩ : ∃ L, usedL ⟨o, a, b, c, m⟩ p = L := ⟨_, rfl⟩
  obtain ⟨R, hRe⟩ : ∃ R, usedL ⟨o, a, b, c, m⟩ q = R := ⟨_, rfl⟩
  have HUP := Lib.hid (fun W => HU.out p W hrd hr3)
  have HUQ := Lib.hid (fun W => HU.out q W hwr hw3)
  rw [hLe] at HUP
  rw [hRe] at HUQ
  rw [hLe, hRe]
  clear HU hLe hRe
  go_enter Tryd.func15, Tryd.ntmps15
  go_wp2_with fail
  refine HR.out.mono ?_; rintro e w2 ⟨rfl, hb⟩
  have hk2 := (hb.block w.heap.size (by simp)).trans HK0.out
  have c0 : w2.cell? ⟨w.heap.size, 0, none⟩ = some (.int .i64 (o : Nat)) := blk_cell hk2 0
  have c1 : w2.cell? ⟨w.heap.size, 1, none⟩ = some (.int .i64 a) := blk_cell hk2 1
  have c2 : w2.cell? ⟨w.heap.size, 2, none⟩ = some (.int .i64 b) := blk_cell hk2 2
  have c3 : w2.cell? ⟨w.heap.size, 3, none⟩ = some (.int .i64 c) := blk_cell hk2 3
  have c4 : w2.cell? ⟨w.heap.size, 4, none⟩ = some (.int .i64 m) := blk_cell hk2 4
  have HL2 := Lib.hid (HL0.out.keep hb)
  have hf := HL2.out.forms.2 o ho31
  have y0 : w2.cell? ⟨0, o * 4, none⟩ = some (.string nm) := by rw [← HN.out]; exact hf.1
  have y1 : w2.cell? ⟨0, o * 4 + 1, none⟩ = some (.int .u8 os) := by rw [← HO.out]; exact hf.2.1
  have y2 : w2.cell? ⟨0, o * 4 + 2, none⟩ = some (.int .u8 p) := by rw [← HP.out]; exact hf.2.2.1
  have y3 : w2.cell? ⟨0, o * 4 + 3, none⟩ = some (.int .u8 q) := by rw [← HQ.out]; exact hf.2.2.2
  have HB2 := Lib.hid (HB0.out.trans (hb.mono (by simp)))
  have hsz : w.heap.size < w2.heap.size := (Array.getElem?_eq_some_iff.1 hk2).1
  clear hb hk2 hf
  go_wp2_with fail
  clear y0 y1 y2 y3 hrd hwr hr3 hw3
  suffices key : ∀ (u v : Value) (W : World), IRow W u L → IRow W v R → Below w2.heap.size w2 W → RowsPost L R w (.returned (.tuple #[u, v])) W by
    have KEY := Lib.hid key
    clear key
    have hS0 : (fun W' => W'.cell? ⟨w.heap.size, 0, none⟩ = some (.int .i64 (o : Nat)) ∧ W'.cell? ⟨w.heap.size, 1, none⟩ = some (.int .i64 a) ∧ W'.cell? ⟨w.heap.size, 2, none⟩ = some (.int .i64 b) ∧ W'.cell? ⟨w.heap.size, 3, none⟩ = some (.int .i64 c) ∧ W'.cell? ⟨w.heap.size, 4, none⟩ = some (.int .i64 m) ∧ W'.cell? ⟨w2.heap.size, 2, none⟩ = some (.int .u8 p) ∧ W'.cell? ⟨w2.heap.size, 3, none⟩ = some (.int .u8 q)) (w2.alloc (.cells #[.string nm, .int .u8 os, .int .u8 p, .int .u8 q] 51)) := by
      have hnb := below_new w2 (.cells #[.string nm, .int .u8 os, .int .u8 p, .int .u8 q] 51)
      exact ⟨keep_below hnb c0, keep_below hnb c1, keep_below hnb c2, keep_below hnb c3, keep_below hnb c4, alloc_cell _ _ _ _, alloc_cell _ _ _ _⟩
    have HS0 := Lib.hid hS0
    clear hS0 c0 c1 c2 c3 c4
    go_region_held3 (fun W' => W'.cell? ⟨w.heap.size, 0, none⟩ = some (.int .i64 (o : Nat)) ∧ W'.cell? ⟨w.heap.size, 1, none⟩ = some (.int .i64 a) ∧ W'.cell? ⟨w.heap.size, 2, none⟩ = some (.int .i64 b) ∧ W'.cell? ⟨w.heap.size, 3, none⟩ = some (.int .i64 c) ∧ W'.cell? ⟨w.heap.size, 4, none⟩ = some (.int .i64 m) ∧ W'.cell? ⟨w2.heap.size, 2, none⟩ = some (.int .u8 p) ∧ W'.cell? ⟨w2.heap.size, 3, none⟩ = some (.int .u8 q))
      (first | exact HS0.out | exact HSx.out)
      (first
        | (go_at_call 39; (with_reducible refine (HUP.out _).mono ?_); rintro e w' ⟨v, rfl, hrow, hb⟩; have HSx := Lib.hid (keep7 hb HS0.out); have HBx := Lib.hid hb; have HROW := Lib.hid hrow; clear hb hrow)
        | (go_at_call 39; (with_reducible refine (HUQ.out _).mono ?_); rintro e w3 ⟨v3, rfl, hrow, hb⟩; have HSx := Lib.hid (keep7 hb HSx.out); have HBy := Lib.hid hb; have HROY := Lib.hid hrow; clear hb hrow))
    have HF := Lib.hid (KEY.out v v3 w3 (IRow.keep HROW.out HBy.out) HROY.out (below_trod w2 _ HBx.out HBy.out))
    go_wp2_with fail
    go_ret2
    exact HF.out
  exact fun u v W hu hv hb => ⟨u, v, rfl, hu, hv, HB2.out.trans (hb.mono HB2.out.size)⟩

/-- Uses. -/
theorem usesP (o a b c m : Int) (w : World) (hL : LaidI w) :
    Calls Tryd.prog 15 #[.agg #[.int .i64 o, .int .i64 a, .int .i64 b, .int .i64 c, .int .i64 m]] w (RowsPost (rdsL ⟨o, a, b, c, m⟩) (wrsL ⟨o, a, b, c, m⟩) w) := by
  cases h : rightB ⟨o, a, b, c, m⟩
  · rw [show rdsL ⟨o, a, b, c, m⟩ = [] by unfold rdsL; rw [h]; rfl, show wrsL ⟨o, a, b, c, m⟩ = [] by unfold wrsL; rw [h]; rfl]
    exact usesNoP o a b c m w hL.forms h
  · have ho := right_op h
    obtain ⟨n, rfl⟩ := Int.eq_ofNat_of_zero_le (a := o) (by simp only at ho; omega)
    by_cases h30 : n = 30
    · subst h30
      have hm := sys_imm h
      obtain ⟨k, rfl⟩ := Int.eq_ofNat_of_zero_le (a := m) hm.1
      rw [show rdsL ⟨(30 : Nat), a, b, c, (k : Nat)⟩ = List.range (sysR.getD k 0) by unfold rdsL; rw [h]; rfl, show wrsL ⟨(30 : Nat), a, b, c, (k : Nat)⟩ = List.range (sysW.getD k 0) by unfold wrsL; rw [h]; rfl]
      exact usesSysP a b c k w hL h (by omega)
    · rw [show rdsL ⟨(n : Nat), a, b, c, m⟩ = usedL ⟨n, a, b, c, m⟩ (rdN n) by unfold rdsL; rw [h, if_pos rfl, if_neg (by show ¬ ((n : Nat) : Int) = 30; omega)]; rfl, show wrsL ⟨(n : Nat), a, b, c, m⟩ = usedL ⟨n, a, b, c, m⟩ (wrN n) by unfold wrsL; rw [h, if_pos rfl, if_neg (by show ¬ ((n : Nat) : Int) = 30; omega)]; rfl]
      exact usesRegP n a b c m w hL h h30
end Go.Proofs.YtmnhnighlgpjmaaDoor
