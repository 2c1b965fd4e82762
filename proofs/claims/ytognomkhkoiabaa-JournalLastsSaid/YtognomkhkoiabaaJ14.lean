/-
  Package journal: Append.
-/
import Derived.Test.YtognomkhkoiabaaJ13
import Derived.Deep.RegionHeld3
import Derived.Laws.OwnMore
namespace Go.Proofs.Ytognomkhkoiabaa
set_option linter.unusedVariables false
set_option linter.unusedSimpArgs false
open Go.RowKit

theorem infoSt : (Try.prog.info? 9).map (fun i => (i.zero, i.size, i.bytes)) = some (some (.string (bs [])), 1, 16) := by kernel_rfl
/-- What Append makes of a log and its disk. -/
def Lg.append (g : Lg) (s : Dk) (row : ByteArray) : Int × Lg × Dk :=
  let r := s.write g.file (ext g.rows) (frm row)
  if r.1 = 0 then (0, ⟨g.file, g.rows ++ [row], g.sure⟩, r.2) else (r.1, g, r.2)
def LPost (B : Nat → Prop) (w : World) (lb db : Nat) (r : Int × Lg × Dk) (e : Ending) (w' : World) : Prop := e = .returned (.int .i64 r.1) ∧ ∃ v, LOp B w w' lb db v r.2.1 r.2.2
theorem ext_app (l : List ByteArray) (r : ByteArray) : ext (l ++ [r]) = ext l + (8 + r.size) := by
  unfold ext; simp [List.sum_append]; omega
theorem sv_one (l : List ByteArray) : ∀ u ∈ sv l, u.oneCell' = true := fun u hu => by
  obtain ⟨z, _, rfl⟩ := List.mem_map.1 hu; rfl
set_option maxRecDepth 100000 in
set_option maxHeartbeats 8000000 in
theorem appendP {B : Nat → Prop} {w : World} {lb db : Nat} {v : Value} {g : Lg} {s : Dk} (h : LD B w lb db v g s) (row : ByteArray) (hx : ext (g.rows ++ [row]) ≤ 1000000000) (hn : s.pend.length + 8 + row.size ≤ 1000000) :
    Calls Try.prog 15 #[.pointer (some ⟨lb, 0, none⟩), .string row] w (LPost B w lb db (g.append s row)) := by
  have hea := ext_app g.rows row
  have HF := Lib.hid (formP row w (by omega))
  have HG : Hid (g.append s row = if (s.write g.file (ext g.rows) (frm row)).1 = 0 then (0, ⟨g.file, g.rows ++ [row], g.sure⟩, (s.write g.file (ext g.rows) (frm row)).2) else ((s.write g.file (ext g.rows) (frm row)).1, g, (s.write g.file (ext g.rows) (frm row)).2)) := rfl
  have hfs : (frm row).size = 8 + row.size := frm_size row
  have H := Lib.hid h
  have HEA := Lib.hid hea
  have hll := ext_len (g.rows ++ [row])
  have HLL : Hid (g.rows.length + 1 ≤ 1000000000) := Lib.hid (by rw [List.length_append] at hll; simp at hll; omega)
  have HXX := Lib.hid hx
  generalize g.append s row = R at *
  obtain ⟨FR, hFR⟩ : ∃ FR, frm row = FR := ⟨_, rfl⟩
  rw [hFR] at HF HG hfs
  clear h hea hll hFR
  go_enter Try.func15, Try.ntmps15
  go_wp2_with fail
  refine HF.out.mono ?_; rintro e w1 ⟨rfl, hb1⟩
  have HB1 := Lib.hid hb1
  have H1 := Lib.hid (H.out.below hb1)
  have HW := Lib.hid (gWrite H1.out.drew g.file (ext g.rows) FR (by rw [hfs]; omega))
  obtain ⟨c0, c1, c2, c3, c4, fz⟩ := H1.out.lg.cells
  have HFS := Lib.hid hfs
  have e5 : ((ext g.rows : Nat) : Int) + ((8 + row.size : Nat) : Int) = ((ext (g.rows ++ [row]) : Nat) : Int) := by have := HEA.out; omega
  have HE5 := Lib.hid e5
  obtain ⟨X, hX⟩ : ∃ X, ext g.rows = X := ⟨_, rfl⟩
  obtain ⟨⟨E, S'⟩, hE⟩ : ∃ q, s.write g.file (X : Int) FR = q := ⟨_, rfl⟩
  rw [hX] at HG
  rw [hX] at HW
  rw [hX] at c4 HE5
  rw [hE] at HG HW
  have HX := Lib.hid hX
  obtain ⟨gf, hgf⟩ : ∃ gf, g.file = gf := ⟨_, rfl⟩
  rw [hgf] at c1 HW
  have HGF := Lib.hid hgf
  have CS0 : w1.drew.cell? ⟨lb, 0, none⟩ = some (.pointer (some ⟨db, 0, none⟩)) ∧ w1.drew.cell? ⟨lb, 1, none⟩ = some (.int .i64 gf) ∧ w1.drew.cell? ⟨lb, 4, none⟩ = some (.int .i64 X) := ⟨c0, c1, c4⟩
  have HCS : Hid (∀ w', Hid (LOp B w1.drew w' lb db v g S') → w'.cell? ⟨lb, 0, none⟩ = some (.pointer (some ⟨db, 0, none⟩)) ∧ w'.cell? ⟨lb, 1, none⟩ = some (.int .i64 gf) ∧ w'.cell? ⟨lb, 4, none⟩ = some (.int .i64 X)) := Lib.hid fun w' h => by
    obtain ⟨d0, d1, d2, d3, d4, _⟩ := h.out.at_.lg.cells
    rw [hgf] at d1
    rw [hX] at d4
    exact ⟨d0, d1, d4⟩
  clear fz hb1 HF hE hX hfs e5 hx c2 c3 hgf
  go_wp2_with fail
  go_region_held3 (fun w' => w'.cell? ⟨lb, 0, none⟩ = some (.pointer (some ⟨db, 0, none⟩)) ∧ w'.cell? ⟨lb, 1, none⟩ = some (.int .i64 gf) ∧ w'.cell? ⟨lb, 4, none⟩ = some (.int .i64 X)) (first | exact CS0 | exact HCS.out _ (by assumption) | fail) ((go_at_call 28; (with_reducible refine HW.out.mono ?_); rintro e w2 ⟨rfl, ho⟩; have HO := Lib.hid ho; clear ho))
  replace HO := Lib.hid (LOp.pre HB1.out (LOp.pre (below_drew (Below.refl _ _)) HO.out))
  have HL2 := Lib.hid HO.out.at_
  clear c0 c1 c4 CS0 HCS HW
  by_cases hE0 : E = 0
  · subst hE0
    have HG0 : Hid (R = (0, ⟨gf, g.rows ++ [row], g.sure⟩, S')) := Lib.hid (by rw [HG.out, if_pos rfl, HGF.out])
    have k1 : ((0 : Int) != 0) = false := rfl
    clear HG
    obtain ⟨i0, hi, hz0, hz1, hz2⟩ := info_parts infoSt
    have hlg := HL2.out.lg
    obtain ⟨c0, c1, c2, c3, c4, fz⟩ := hlg.cells
    have f2 := fz 2
    have f4 := fz 4
    rw [HX.out] at c4
    obtain ⟨A, cap, hv⟩ := hlg.form
    subst hv
    have HOWN := Lib.hid hlg.own
    have HVN := Lib.hid hlg.ne
    have hlt := hlg.bx.lt
    rw [HGF.out] at c1
    obtain ⟨n, hn'⟩ : ∃ n, g.rows.length = n := ⟨_, rfl⟩
    have HN := Lib.hid hn'
    rw [hn'] at c2 HOWN HVN HLL HL2
    have HBX := Lib.hid hlg.bx
    clear hlg fz hn'
    have hnl := HLL.out
    go_wp2_with (at_builtin; refine wpList_append_lies _ rfl _ _ 33 rfl 0 9 i0 (.string (bs [])) 1 16 Try.underlying33 hi hz0 hz1 hz2 rfl (by decide) _ _ _ rfl (HOWN.out.alloc _) ⟨w2.heap.size, 0, none⟩ 1 1 [.string row] rfl rfl ?c1 ?c2 (by decide) ?c3 ?c4 (Nat.zero_le _) (w2.heap.size + 1) (by simp) ?_)
    case c1 =>
      intro i y hy
      rw [Addr.add_lit, Nat.zero_add, (Blk.new w2 9 #[.string row]).cell]
      simpa using hy
    case c2 => intro y hy; rw [List.mem_singleton] at hy; rw [hy]; rfl
    case c3 => unfold maxLen; omega
    case c4 => omega
    intro gg cap4 w5 hown hgrow hat hlt5
    have HFIN := Lib.hid (HO.out.trans (LD.app (row := row) HL2.out (by rw [HN.out]; exact hown) hgrow hat (by have := HXX.out; omega)))
    rw [HN.out] at HFIN
    have hb5 : Blk w5 lb 59 #[.pointer (some ⟨db, 0, none⟩), .int .i64 g.file, .slice A n cap, .int .i64 g.sure, .int .i64 (ext g.rows)] := by
      have h1 := (below_new w2 (.cells #[.string row] 9)).block lb hlt
      have h2 := hgrow.block lb (by simp; omega) (fun e => HVN.out e.symm)
      have h3 := HBX.out
      rw [HN.out] at h3
      exact h2.trans (h1.trans h3)
    have y2 := hb5.cell 2
    have y4 := hb5.cell 4
    have g2 := Lib.frozen_of_heap hb5 2
    have g4 := Lib.frozen_of_heap hb5 4
    rw [HX.out] at y4
    simp at y2 y4
    clear hb5 hown hgrow hat hlt5 c0 c1 c2 c3 c4 f2 f4
    have hx1 : X ≤ 1000000000 := by have := HE5.out; have := HXX.out; omega
    have hx2 := HFS.out
    have hx3 : row.size ≤ 1000000 := by omega
    have e5 : (X : Int) + (FR.size : Int) = ((ext (g.rows ++ [row]) : Nat) : Int) := by rw [hx2]; exact HE5.out
    obtain ⟨Y, hY⟩ : ∃ Y, ext (g.rows ++ [row]) = Y := ⟨_, rfl⟩
    rw [hY] at e5 HFIN
    have HE6 := Lib.hid e5
    clear e5 hY
    have hx4 : FR.size ≤ 1000008 := by omega
    clear hx2
    go_wp2_with fail
    go_ret
    refine ⟨by rw [HG0.out]; rfl, ?_⟩
    rw [HG0.out]
    have := HFIN.out
    rw [← HE6.out, HGF.out] at this
    exact ⟨_, this⟩
  · have HG0 : Hid (R = (E, g, S')) := Lib.hid (by rw [HG.out, if_neg hE0])
    have k1 : (E != 0) = true := by rw [bne_iff_ne]; exact hE0
    clear HG hE0
    go_wp2_with fail
    go_ret
    exact ⟨by rw [HG0.out]; rfl, by rw [HG0.out]; exact ⟨v, HO.out⟩⟩
end Go.Proofs.Ytognomkhkoiabaa
