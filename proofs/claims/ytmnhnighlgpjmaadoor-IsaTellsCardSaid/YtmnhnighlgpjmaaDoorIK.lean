/-
  From a row's condition on its variables to what the contracts ask (LaidI), the world that meets it, and a wrap that keeps the world's shape; an argument that is an instruction.
-/
import Derived.Test.YtmnhnighlgpjmaaDoorI6
import Derived.Test.YtmnhnighlgpjmaaDoorRows
import Derived.LaidMore
import Derived.Lay
import Derived.Lib.LaidTab
import Derived.Lib.LaidU8
import Derived.Stop.Joined
import Derived.Carry
import Derived.Below
import Derived.HandedShaped
import Derived.Lib.SmallJoins
import Derived.ChangeArms
import Derived.Shelf.Vars
namespace Go.Proofs.YtmnhnighlgpjmaaDoor
set_option linter.unusedVariables false
set_option linter.unusedSimpArgs false
open Go.ChangeShapes Go.WideShapes Go.RowKit Go.Joins Go.Deep

theorem laidOut : laidOutB Tryd.prog = true := by kernel_rfl
def tabs : List (String × DataW Unit) := [("math/bits.deBruijn32tab", Rows.laid_math_bits_deBruijn32tab), ("math/bits.deBruijn64tab", Rows.laid_math_bits_deBruijn64tab), ("internal/strconv.uint64pow10", Rows.laid_internal_strconv_uint64pow10), ("unicode/utf8.acceptRanges", Rows.laid_unicode_utf8_acceptRanges), ("linchpin/isa.forms", Rows.laid_linchpin_isa_forms), ("linchpin/isa.calls", Rows.laid_linchpin_isa_calls), ("unicode/utf8.first", Rows.laid_unicode_utf8_first)]
theorem gFor : Tryd.prog.globalNamed "linchpin/isa.forms" = some 0 := by kernel_rfl
theorem gCal : Tryd.prog.globalNamed "linchpin/isa.calls" = some 1 := by kernel_rfl
theorem tFor : (Tryd.prog.globals[0]?).map (·.type) = some 52 := by kernel_rfl
theorem tCal : (Tryd.prog.globals[1]?).map (·.type) = some 70 := by kernel_rfl
theorem tPow : (Tryd.prog.globals[5]?).map (·.type) = some 130 := by kernel_rfl

theorem row_of_var {W : World} {name : String} {g : Nat} {cs : Array Value} (hg : Tryd.prog.globalNamed name = some g) (h : W.var? Tryd.prog name = some cs) : ∃ t fr, W.heap[g]? = some (.cells cs t fr) := by
  unfold World.var? at h
  rw [hg] at h
  simp only [Option.bind_some] at h
  split at h
  · rename_i cs' t fr he
    cases h
    exact ⟨t, fr, he⟩
  · cases h
theorem row_cell {w : World} {b : Nat} {cs : Array Value} {t : TypeId} {fr : Nat × Nat} (h : w.heap[b]? = some (.cells cs t fr)) (k : Nat) : w.cell? ⟨b, k, none⟩ = cs.toList[k]? := by
  unfold World.cell?; simp only [h]; simp

/-- The datum of the table of forms, row by row. -/
theorem forms_data : (Rows.laid_linchpin_isa_forms : DataW Unit) = .agg ((List.range 31).map fun o => .agg [.lit (.string (nameN o)), .lit (.int .u8 (opsN o)), .lit (.int .u8 (rdN o)), .lit (.int .u8 (wrN o))]) := rfl
theorem calls_data : (Rows.laid_linchpin_isa_calls : DataW Unit) = .agg ((List.range 8).map fun o => .agg [.lit (.int .i64 (sysR.getD o 0 : Nat)), .lit (.int .i64 (sysW.getD o 0 : Nat))]) := rfl

theorem at_take {cs : List Value} {a n j : Nat} {v : Value} (h : (((cs.drop a).take n).drop j).take 1 = [v]) : cs[a + j]? = some v := by
  have h0 := congrArg (·[0]?) h
  simp only [List.getElem?_cons_zero] at h0
  rw [List.getElem?_take, if_pos (by omega), List.getElem?_drop, List.getElem?_take] at h0
  split at h0
  · rw [List.getElem?_drop] at h0
    rwa [Nat.add_zero] at h0
  · cases h0

theorem cells59 : Tryd.prog.cellsOf 51 = 4 := by kernel_rfl
theorem cellsS : Tryd.prog.cellsOf 9 = 1 := by kernel_rfl
theorem cellsU : Tryd.prog.cellsOf 49 = 1 := by kernel_rfl
theorem cellsI : Tryd.prog.cellsOf 3 = 1 := by kernel_rfl
theorem cells75 : Tryd.prog.cellsOf 69 = 2 := by kernel_rfl

theorem one59 : ∀ fs, Tryd.prog.underlying 51 = some (.struct fs) → oneCellFields Tryd.prog fs = true := fun fs h => by
  rw [Tryd.underlying51] at h
  injection h with h
  injection h with h
  subst h
  kernel_rfl
theorem one75 : ∀ fs, Tryd.prog.underlying 69 = some (.struct fs) → oneCellFields Tryd.prog fs = true := fun fs h => by
  rw [Tryd.underlying69] at h
  injection h with h
  injection h with h
  subst h
  kernel_rfl
theorem str_eq {s : ByteArray} {l : List UInt8} (h : s.data.toList = l) : s = ⟨l.toArray⟩ := by
  apply W1.ba_ext; rw [h]

theorem forms_of {W : World} (h : laidMet Tryd.prog tabs W) : FormsAt W := by
  obtain ⟨g, t, cs, fuel, p, hg, ht, hv, hd⟩ := Lib.laidMet.reads h (n := "linchpin/isa.forms") (d := Rows.laid_linchpin_isa_forms) (by simp [tabs])
  obtain rfl := Option.some.inj (gFor.symm.trans hg)
  obtain rfl := Option.some.inj (tFor.symm.trans ht)
  obtain ⟨t, fr, hh⟩ := row_of_var gFor hv
  rw [forms_data] at hd
  refine ⟨(Array.getElem?_eq_some_iff.1 hh).1, fun o ho => ?_⟩
  obtain ⟨f2, d, q, hds, htr⟩ := Lib.array_elem Tryd.underlying52 hd o ho
  rw [List.getElem?_map, List.getElem?_range ho] at hds
  obtain rfl := Option.some.inj hds
  obtain ⟨xs, n, _, hx, _, hl, hf⟩ := DataW.trod_struct Tryd.underlying51 htr
  have h0 := hf 0 _ rfl
  have h1 := hf 1 _ rfl
  have h2 := hf 2 _ rfl
  have h3 := hf 3 _ rfl
  have hxs := congrArg Prod.fst hx
  obtain ⟨o0, k0⟩ := hone_of (one59 _ Tryd.underlying51) 0 _ rfl
  obtain ⟨o1, k1⟩ := hone_of (one59 _ Tryd.underlying51) 1 _ rfl
  obtain ⟨o2, k2⟩ := hone_of (one59 _ Tryd.underlying51) 2 _ rfl
  obtain ⟨o3, k3⟩ := hone_of (one59 _ Tryd.underlying51) 3 _ rfl
  rw [cells59, o0, k0] at h0
  rw [cells59, o1, k1] at h1
  rw [cells59, o2, k2] at h2
  rw [cells59, o3, k3] at h3
  clear o0 o1 o2 o3 k0 k1 k2 k3
  match xs, hl with
  | [x0, x1, x2, x3], _ =>
    simp only [List.map_cons, List.map_nil, DataW.agg.injEq, List.cons.injEq, and_true] at hxs
    obtain ⟨e0, e1, e2, e3⟩ := hxs
    obtain ⟨s, c0, y0, _⟩ := DataW.trod_string (t := 9) Tryd.underlying9 h0
    obtain ⟨z1, c1, y1, _⟩ := DataW.trod_int (t := 49) Tryd.underlying49 h1
    obtain ⟨z2, c2, y2, _⟩ := DataW.trod_int (t := 49) Tryd.underlying49 h2
    obtain ⟨z3, c3, y3, _⟩ := DataW.trod_int (t := 49) Tryd.underlying49 h3
    rw [y0] at e0
    rw [y1] at e1
    rw [y2] at e2
    rw [y3] at e3
    simp only [DataW.lit.injEq, Lit.string.injEq, Lit.int.injEq, true_and] at e0 e1 e2 e3
    have k0 := at_take c0
    have k1 := at_take c1
    have k2 := at_take c2
    have k3 := at_take c3
    rw [← e1] at k1
    rw [← e2] at k2
    rw [← e3] at k3
    rw [str_eq e0.symm] at k0
    exact ⟨(row_cell hh _).trans k0, (row_cell hh _).trans k1, (row_cell hh _).trans k2, (row_cell hh _).trans k3⟩

theorem calls_of {W : World} (h : laidMet Tryd.prog tabs W) : CallsAt W := by
  obtain ⟨g, t, cs, fuel, p, hg, ht, hv, hd⟩ := Lib.laidMet.reads h (n := "linchpin/isa.calls") (d := Rows.laid_linchpin_isa_calls) (by simp [tabs])
  obtain rfl := Option.some.inj (gCal.symm.trans hg)
  obtain rfl := Option.some.inj (tCal.symm.trans ht)
  obtain ⟨t, fr, hh⟩ := row_of_var gCal hv
  rw [calls_data] at hd
  refine ⟨(Array.getElem?_eq_some_iff.1 hh).1, fun o ho => ?_⟩
  obtain ⟨f2, d, q, hds, htr⟩ := Lib.array_elem Tryd.underlying70 hd o ho
  rw [List.getElem?_map, List.getElem?_range ho] at hds
  obtain rfl := Option.some.inj hds
  obtain ⟨xs, n, _, hx, _, hl, hf⟩ := DataW.trod_struct Tryd.underlying69 htr
  have h0 := hf 0 _ rfl
  have h1 := hf 1 _ rfl
  have hxs := congrArg Prod.fst hx
  obtain ⟨o0, k0⟩ := hone_of (one75 _ Tryd.underlying69) 0 _ rfl
  obtain ⟨o1, k1⟩ := hone_of (one75 _ Tryd.underlying69) 1 _ rfl
  rw [cells75, o0, k0] at h0
  rw [cells75, o1, k1] at h1
  clear o0 o1 k0 k1
  match xs, hl with
  | [x0, x1], _ =>
    simp only [List.map_cons, List.map_nil, DataW.agg.injEq, List.cons.injEq, and_true] at hxs
    obtain ⟨e0, e1⟩ := hxs
    obtain ⟨z0, c0, y0, _⟩ := DataW.trod_int (t := 3) Tryd.underlying3 h0
    obtain ⟨z1, c1, y1, _⟩ := DataW.trod_int (t := 3) Tryd.underlying3 h1
    rw [y0] at e0
    rw [y1] at e1
    simp only [DataW.lit.injEq, Lit.int.injEq, true_and] at e0 e1
    have k0 := at_take c0
    have k1 := at_take c1
    rw [← e0] at k0
    rw [← e1] at k1
    exact ⟨(row_cell hh _).trans k0, (row_cell hh _).trans k1⟩

theorem pow_data : (Rows.laid_internal_strconv_uint64pow10 : DataW Unit) = Lib.tabData .u64 Lib.pow10Tab := by kernel_rfl
theorem pow_of {W : World} (h : laidMet Tryd.prog tabs W) : ∃ t fr, W.heap[5]? = some (.cells powV t fr) := by
  obtain ⟨g, t, cs, fuel, p, hg, ht, hv, hd⟩ := Lib.laidMet.reads h (n := "internal/strconv.uint64pow10") (d := Rows.laid_internal_strconv_uint64pow10) (by simp [tabs])
  obtain rfl := Option.some.inj (gPow.symm.trans hg)
  obtain rfl := Option.some.inj (tPow.symm.trans ht)
  rw [pow_data] at hd
  have e0 := Lib.cells_of_tab (k := .u64) (zs := Lib.pow10Tab) Tryd.underlying130 Tryd.underlying117 (by kernel_rfl) (by kernel_rfl) hd
  have a0 : cs = powV := by apply Array.ext'; rw [e0]; rfl
  subst a0
  exact row_of_var gPow hv

theorem laid_of {W : World} (h : laidMetH Tryd.prog tabs W) (hs : W.ShapedOpen Tryd.prog) : LaidI W := by
  rw [MakeChecks.laidMetH_plain _ _ _ (by kernel_rfl)] at h
  obtain ⟨m, hm⟩ := cell_of_shapedOpen_int (zero := #[.int .i64 0]) (t := 3) (g := 2) hs (of_decide_eq_true (by kernel_rfl)) (by kernel_rfl) rfl (by kernel_rfl) (by kernel_rfl) Tryd.underlying3
  exact ⟨forms_of h, calls_of h, pow_of h, World.block_lt_of_cell? _ _ hm, m, hm⟩

theorem door_met (os : Os) (args : Array Value) : laidMetH Tryd.prog tabs ((World.laidAll Tryd.prog os tabs).forCall (fun _ _ => 0) ⟨#[], args, []⟩).memory := by
  rw [MakeChecks.laidMetH_plain _ _ _ (by kernel_rfl)]
  exact laidMet_laidAll _ (by kernel_rfl) (by kernel_rfl)
end Go.Proofs.YtmnhnighlgpjmaaDoor
