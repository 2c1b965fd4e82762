/-
  The reference of layer 7: Append.
-/
import Derived.Test.YthdmcjiccbgknaaJR1
import Derived.Deep.RegionHeld3
import Derived.IntWalk
namespace Go.Proofs.Ythdmcjiccbgknaa
set_option linter.unusedVariables false
set_option linter.unusedSimpArgs false
open Go.RowKit

structure BW (W0 w : World) : Prop where
  bel : Below W0.heap.size W0 w
/-- A row of its own in new memory. -/
structure SIn (W0 w : World) (row : ByteArray) (g : Nat) : Prop where
  bk : Blk w g 9 #[.string row]
  bel : Below W0.heap.size W0 w
theorem bel_al {W0 w : World} (h : Below W0.heap.size W0 w) (o : Obj) : Below W0.heap.size W0 (w.alloc o) := h.trans ((below_new w o).mono h.size)
theorem bel_dr {W0 w : World} (h : Below W0.heap.size W0 w) : Below W0.heap.size W0 w.drew := h.drew
theorem sin_new {W0 w : World} {row : ByteArray} {g : Nat} (hb : Below W0.heap.size W0 w) (hg : g = w.heap.size) : Hid (SIn W0 (w.alloc (.cells #[.string row] 9)) row g) := by
  subst hg; exact Lib.hid ⟨Blk.new w _ _, bel_al hb _⟩
theorem SIn.later {W0 w w' : World} {row : ByteArray} {g : Nat} (hb : Hid (Below w.heap.size w w')) (h : Hid (SIn W0 w row g)) : Hid (SIn W0 w' row g) := Lib.hid ⟨h.out.bk.below hb.out h.out.bk.lt, h.out.bel.trans (hb.out.mono h.out.bel.size)⟩
theorem sin_drew {W0 w : World} {row : ByteArray} {g : Nat} (h : Hid (SIn W0 w row g)) : Hid (SIn W0 w.drew row g) := Lib.hid ⟨h.out.bk, h.out.bel.drew⟩
/-- What the reference's Append makes of its log and disk. -/
def Lg.rappend (g : Lg) (s : Dk) (row : ByteArray) : Int × Lg × Dk :=
  let r := s.rwrite g.file (ext g.rows) (frm row)
  if r.1 = 0 then (0, ⟨g.file, g.rows ++ [row], g.sure⟩, r.2) else (r.1, g, r.2)
def RLPost (B : Nat → Prop) (w : World) (lb db : Nat) (r : Int × Lg × Dk) (e : Ending) (w' : World) : Prop := e = .returned (.int .i64 r.1) ∧ ∃ v, RLOp B w w' lb db v r.2.1 r.2.2
theorem flat1 (row : ByteArray) : bs (flat [row]) = frm row := by
  unfold flat
  simp only [List.flatMap_cons, List.flatMap_nil, List.append_nil]
  exact bs_data _
set_option maxRecDepth 100000 in
set_option maxHeartbeats 8000000 in
theorem rAppendP {B : Nat → Prop} {w : World} {lb db : Nat} {v : Value} {g : Lg} {s : Dk} (h : RD B w lb db v g s) (row : ByteArray) (hx : ext (g.rows ++ [row]) ≤ 1000000000) (hn : s.pend.length + 8 + row.size ≤ 1000000) :
    Calls Try.prog 26 #[.pointer (some ⟨lb, 0, none⟩), .string row] w (RLPost B w lb db (g.rappend s row)) := by
  have hea := ext_app g.rows row
  have HG : Hid (g.rappend s row = if (s.rwrite g.file (ext g.rows) (frm row)).1 = 0 then (0, ⟨g.file, g.rows ++ [row], g.sure⟩, (s.rwrite g.file (ext g.rows) (frm row)).2) else ((s.rwrite g.file (ext g.rows) (frm row)).1, g, (s.rwrite g.file (ext g.rows) (frm row)).2)) := rfl
  have hfs : (frm row).size = 8 + row.size := frm_size row
  have hfl := flat_length g.rows
  obtain ⟨A, cap, hv⟩ := h.lg.form
  have H0 := Lib.hid (RLOp.refl h)
  have hll := ext_len (g.rows ++ [row])
  have HLL : Hid (g.rows.length + 1 ≤ 1000000000) := Lib.hid (by rw [List.length_append] at hll; simp at hll; omega)
  have HXX : Hid (ext (g.rows ++ [row]) ≤ 1000000000) := Lib.hid (by omega)
  have HBL : Hid (∀ w', Below w.heap.size w w' → RLOp B w w' lb db v g s) := Lib.hid fun w' hb => H0.out.below hb
  have HF1 : Hid (∀ w', Below w.heap.size w w' → Calls Try.prog 57 #[.slice A g.rows.length cap] w' fun e w2 => e = .returned (.string (bs (flat g.rows))) ∧ Below w'.heap.size w' w2) := Lib.hid fun w' hb => rFormsP _ g.rows w' (by have := Row.of_own (HBL.out w' hb).at_.lg.own; rw [hv] at this; exact this) (by omega)
  have HF2 : Hid (∀ w' G, Hid (SIn w w' row G) → Calls Try.prog 57 #[.slice (some ⟨G, 0, none⟩) 1 1] w' fun e w2 => e = .returned (.string (frm row)) ∧ Below w'.heap.size w' w2) := Lib.hid fun w' G hs => by
    have := rFormsP (.slice (some ⟨G, 0, none⟩) 1 1) [row] w' (row_blk (l := [row]) hs.out.bk) (by unfold ext; simp; omega)
    rw [flat1] at this; exact this
  have HW : Hid (∀ w', Below w.heap.size w w' → Calls Try.prog 45 #[.pointer (some ⟨db, 0, none⟩), .int .i64 g.file, .int .i64 (ext g.rows), .string (frm row)] w' fun e w2 => e = .returned (.int .i64 (s.rwrite g.file (ext g.rows) (frm row)).1) ∧ RLOp B w w2 lb db v g (s.rwrite g.file (ext g.rows) (frm row)).2) := Lib.hid fun w' hb => hWrite (HBL.out w' hb) _ _ _ (by rw [hfs]; omega) (by rw [hfs]; omega)
  have HCS : Hid (∀ w', Below w.heap.size w w' → w'.cell? ⟨lb, 0, none⟩ = some (.pointer (some ⟨db, 0, none⟩)) ∧ w'.cell? ⟨lb, 1, none⟩ = some (.int .i64 g.file) ∧ w'.cell? ⟨lb, 2, none⟩ = some (.slice A g.rows.length cap)) := Lib.hid fun w' hb => by
    obtain ⟨d0, d1, d2, d3, _⟩ := (HBL.out w' hb).at_.lg.cells
    rw [hv] at d2
    exact ⟨d0, d1, d2⟩
  have HCS2 : Hid (∀ w' s', Hid (RLOp B w w' lb db v g s') → w'.cell? ⟨lb, 0, none⟩ = some (.pointer (some ⟨db, 0, none⟩)) ∧ w'.cell? ⟨lb, 1, none⟩ = some (.int .i64 g.file) ∧ w'.cell? ⟨lb, 2, none⟩ = some (.slice A g.rows.length cap)) := Lib.hid fun w' s' h => by
    obtain ⟨d0, d1, d2, d3, _⟩ := h.out.at_.lg.cells
    rw [hv] at d2
    exact ⟨d0, d1, d2⟩
  have HV := Lib.hid hv
  have HEA := Lib.hid hea
  have e16 : (16 : Int) + ((bs (flat g.rows)).size : Int) = ((ext g.rows : Nat) : Int) := by rw [bs_size]; omega
  have hX9 : ext g.rows ≤ 1000000000 := by omega
  obtain ⟨FL, hFL⟩ : ∃ FL, bs (flat g.rows) = FL := ⟨_, rfl⟩
  obtain ⟨FR, hFR⟩ : ∃ FR, frm row = FR := ⟨_, rfl⟩
  obtain ⟨X, hX⟩ : ∃ X, ext g.rows = X := ⟨_, rfl⟩
  obtain ⟨gf, hgf⟩ : ∃ gf, g.file = gf := ⟨_, rfl⟩
  obtain ⟨N, hN⟩ : ∃ N, g.rows.length = N := ⟨_, rfl⟩
  generalize g.rappend s row = R at *
  rw [hFL] at HF1 e16
  rw [hFR] at HF2 HW HG
  rw [hX] at HW HG e16 hX9
  rw [hgf] at HW HG HCS HCS2
  rw [hN] at HF1 HCS HCS2 HLL HV
  have HGF := Lib.hid hgf
  have HN := Lib.hid hN
  obtain ⟨⟨E, S'⟩, hE⟩ : ∃ q, s.rwrite gf (X : Int) FR = q := ⟨_, rfl⟩
  rw [hE] at HG HW
  have hw : IntKind.i64.wrap ((16 : Int) + (FL.size : Int)) = (X : Int) := by rw [e16]; exact IntWalk.i64_in _ (by omega)
  have hw2 : IntKind.i64.wrap (X : Int) = (X : Int) := IntWalk.i64_in _ (by omega)
  have CS0 := HCS.out w.drew (Below.refl _ _).drew
  clear hv hea hfs hfl hll hFL hFR hX hgf hN hE h hx hn
  go_enter Try.func26, Try.ntmps26
  go_wp2_with fail
  go_region_held3 (fun w' => w'.cell? ⟨lb, 0, none⟩ = some (.pointer (some ⟨db, 0, none⟩)) ∧ w'.cell? ⟨lb, 1, none⟩ = some (.int .i64 gf) ∧ w'.cell? ⟨lb, 2, none⟩ = some (.slice A N cap)) (first | exact CS0 | exact HCS2.out _ _ (by assumption) | (refine HCS.out _ ?_; (repeat (first | exact BW.bel (Hid.out (by assumption)) | exact Below.refl _ _ | exact (SIn.bel (Hid.out (by assumption))) | with_reducible apply bel_al | with_reducible apply bel_dr)); done) | fail) (first
    | (go_at_call 57; (with_reducible refine (HF1.out _ (by repeat (first | exact BW.bel (Hid.out (by assumption)) | exact Below.refl _ _ | exact (SIn.bel (Hid.out (by assumption))) | with_reducible apply bel_al | with_reducible apply bel_dr))).mono ?_); rintro e w2 ⟨rfl, hb⟩; have HBx := Lib.hid hb; have HBw := Lib.hid (BW.mk ((show Below w.heap.size w _ by repeat (first | exact BW.bel (Hid.out (by assumption)) | exact Below.refl _ _ | exact (SIn.bel (Hid.out (by assumption))) | with_reducible apply bel_al | with_reducible apply bel_dr)).trans (hb.mono (Below.size (show Below w.heap.size w _ by repeat (first | exact BW.bel (Hid.out (by assumption)) | exact Below.refl _ _ | exact (SIn.bel (Hid.out (by assumption))) | with_reducible apply bel_al | with_reducible apply bel_dr)))))); clear hb)
    | (go_at_call 57; (with_reducible refine (HF2.out _ _ (by repeat (first | assumption | with_reducible apply sin_drew | (with_reducible refine sin_new (by repeat (first | exact BW.bel (Hid.out (by assumption)) | exact Below.refl _ _ | exact (SIn.bel (Hid.out (by assumption))) | with_reducible apply bel_al | with_reducible apply bel_dr)) (by simp)) | (refine SIn.later (by assumption) ?_)))).mono ?_); rintro e w2 ⟨rfl, hb⟩; have HBx := Lib.hid hb; have HBw := Lib.hid (BW.mk ((show Below w.heap.size w _ by repeat (first | exact BW.bel (Hid.out (by assumption)) | exact Below.refl _ _ | exact (SIn.bel (Hid.out (by assumption))) | with_reducible apply bel_al | with_reducible apply bel_dr)).trans (hb.mono (Below.size (show Below w.heap.size w _ by repeat (first | exact BW.bel (Hid.out (by assumption)) | exact Below.refl _ _ | exact (SIn.bel (Hid.out (by assumption))) | with_reducible apply bel_al | with_reducible apply bel_dr)))))); clear hb)
    | (go_at_call 45; (with_reducible refine (HW.out _ (by repeat (first | exact BW.bel (Hid.out (by assumption)) | exact Below.refl _ _ | exact (SIn.bel (Hid.out (by assumption))) | with_reducible apply bel_al | with_reducible apply bel_dr))).mono ?_); rintro e w5 ⟨rfl, ho⟩; have HO := Lib.hid ho; clear ho))
  all_goals
    clear hw hw2 e16 CS0 HCS HCS2 HW HF1 HF2 HBL
    have HL2 := Lib.hid HO.out.at_
    by_cases hE0 : E = 0
    · subst hE0
      have HG0 : Hid (R = (0, ⟨gf, g.rows ++ [row], g.sure⟩, S')) := Lib.hid (by rw [HG.out, if_pos rfl])
      have k1 : ((0 : Int) == 0) = true := rfl
      clear HG
      obtain ⟨i0, hi, hz0, hz1, hz2⟩ := info_parts infoSt
      have hlg := HL2.out.lg
      obtain ⟨c0, c1, c2, c3, fz⟩ := hlg.cells
      have f2 := fz 2
      rw [HV.out] at c2 hlg HL2
      have HOWN := Lib.hid hlg.own
      have HVN := Lib.hid hlg.ne
      have hlt := hlg.bx.lt
      have HBX := Lib.hid hlg.bx
      rw [HN.out] at HOWN
      clear hlg fz
      have hnl := HLL.out
      go_wp2_with (at_builtin; refine wpList_append_lies _ rfl _ _ 36 rfl 0 9 i0 (.string (bs [])) 1 16 Try.underlying36 hi hz0 hz1 hz2 rfl (by decide) _ _ _ rfl (HOWN.out.alloc _) ⟨w5.heap.size, 0, none⟩ 1 1 [.string row] rfl rfl (fun i y hy => by rw [Addr.add_lit, Nat.zero_add, (Blk.new w5 9 #[.string row]).cell]; simpa using hy) (fun y hy => by rw [List.mem_singleton] at hy; rw [hy]; rfl) (by decide) (by unfold maxLen; omega) (by omega) (Nat.zero_le _) (w5.heap.size + 1) (by simp) ?_; intro gg cap4 w6 hown hgrow hat hlt5; have HFIN := Lib.hid (HO.out.trans (RD.app (row := row) HL2.out (by rw [HN.out]; exact hown) hgrow hat (by have := HXX.out; omega))); have hb5 : Blk w6 lb 51 #[.pointer (some ⟨db, 0, none⟩), .int .i64 g.file, .slice A N cap, .int .i64 g.sure] := (hgrow.block lb (by simp; omega) (fun e => HVN.out e.symm)).trans (((below_new w5 (.cells #[.string row] 9)).block lb hlt).trans HBX.out); have y2 := hb5.cell 2; have g2 := Lib.frozen_of_heap hb5 2; simp at y2; rw [HN.out] at HFIN; clear hb5 hown hgrow hat hlt5 c0 c1 c2 c3 f2)
      go_ret
      refine ⟨by rw [HG0.out]; rfl, ?_⟩
      rw [HG0.out]
      have := HFIN.out
      rw [HGF.out] at this
      exact ⟨_, this⟩
    · have HG0 : Hid (R = (E, g, S')) := Lib.hid (by rw [HG.out, if_neg hE0])
      have k1 : (E == 0) = false := by rw [beq_eq_false_iff_ne]; exact hE0
      clear HG hE0
      go_wp2_with fail
      go_ret
      exact ⟨by rw [HG0.out]; rfl, by rw [HG0.out]; exact ⟨v, HO.out⟩⟩
end Go.Proofs.Ythdmcjiccbgknaa
