/-
  From a row's condition on the two tables to what the contracts ask (Laid), and the world that meets it.
-/
import Derived.Test.YtcekmedfphmpcaaDoorLaid
import Derived.Test.YtcekmedfphmpcaaDoorRows
import Derived.LaidMore
import Derived.Lib.LaidTab
import Derived.Stop.Joined
import Derived.Carry
import Derived.Below
namespace Go.Proofs.YtcekmedfphmpcaaDoor
set_option linter.unusedVariables false
set_option linter.unusedSimpArgs false
open Go.ChangeShapes Go.WideShapes Go.RowKit

theorem laidOut : laidOutB Tryd.prog = true := by kernel_rfl
def tabs : List (String × DataW Unit) := [("linchpin/digest.rotations", Rows.laid_linchpin_digest_rotations), ("linchpin/digest.constants", Rows.laid_linchpin_digest_constants)]
theorem gRot : Tryd.prog.globalNamed "linchpin/digest.rotations" = some 2 := by kernel_rfl
theorem gCon : Tryd.prog.globalNamed "linchpin/digest.constants" = some 0 := by kernel_rfl
theorem tRot : (Tryd.prog.globals[2]?).map (·.type) = some 55 := by kernel_rfl
theorem tCon : (Tryd.prog.globals[0]?).map (·.type) = some 50 := by kernel_rfl

theorem door_met (os : Os) (args : Array Value) : laidMetH Tryd.prog tabs ((World.doorLaid Tryd.prog 400 os).forCall (fun _ _ => 0) ⟨#[], args, []⟩).memory :=
  laidMetH_of_parts3 (fuel := 8) (laidMet_of_run' 8 (by kernel_rfl) (by kernel_rfl)) (by kernel_rfl) (by kernel_rfl)

theorem row_of_var {W : World} {name : String} {g : Nat} {cs : Array Value} (hg : Tryd.prog.globalNamed name = some g) (h : W.var? Tryd.prog name = some cs) : ∃ t fr, W.heap[g]? = some (.cells cs t fr) := by
  unfold World.var? at h
  rw [hg] at h
  simp only [Option.bind_some] at h
  split at h
  · rename_i cs' t fr he
    cases h
    exact ⟨t, fr, he⟩
  · cases h

theorem laid_of {W : World} (h : laidMetH Tryd.prog tabs W) : Laid W := by
  rw [MakeChecks.laidMetH_plain _ _ _ (by kernel_rfl)] at h
  obtain ⟨ps, ⟨g0, t0, cs0, f0, p0, q0, hg0, ht0, hv0, hd0, ⟨g1, t1, cs1, f1, p1, q1, hg1, ht1, hv1, hd1, _, _⟩, _⟩, _, _⟩ := h
  obtain rfl := Option.some.inj (gRot.symm.trans hg0)
  obtain rfl := Option.some.inj (gCon.symm.trans hg1)
  obtain rfl := Option.some.inj (tRot.symm.trans ht0)
  obtain rfl := Option.some.inj (tCon.symm.trans ht1)
  have e0 := Lib.cells_of_tab (k := .i64) (zs := turns.map fun n : Nat => (n : Int)) Tryd.underlying55 Tryd.underlying3 (by kernel_rfl) (by kernel_rfl) hd0
  have e1 := Lib.cells_of_tab (k := .u64) (zs := consts.map fun n : Nat => (n : Int)) Tryd.underlying50 Tryd.underlying36 (by kernel_rfl) (by kernel_rfl) hd1
  have a0 : cs0 = rotV := by apply Array.ext'; rw [e0]; rfl
  have a1 : cs1 = conV := by apply Array.ext'; rw [e1]; rfl
  subst a0; subst a1
  exact ⟨row_of_var gRot hv0, row_of_var gCon hv1⟩
end Go.Proofs.YtcekmedfphmpcaaDoor
