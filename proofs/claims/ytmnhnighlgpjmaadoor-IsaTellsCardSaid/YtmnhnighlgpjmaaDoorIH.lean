/-
  The examples of the document.
-/
import Derived.Test.YtmnhnighlgpjmaaDoorI4
import Derived.Test.YtmnhnighlgpjmaaDoorIA
import Derived.Test.YtmnhnighlgpjmaaDoorIC
import Derived.Test.YtmnhnighlgpjmaaDoorIG
namespace Go.Proofs.YtmnhnighlgpjmaaDoor
set_option linter.unusedVariables false
set_option linter.unusedSimpArgs false
open Go.RowKit

theorem ascii_all {l : List UInt8} (h : l.all (fun b => decide (b.toNat < 128)) = true) : ∀ (j : Nat) b, l[j]? = some b → b.toNat < 128 := fun j b hj => by
  have := List.all_eq_true.1 h b (List.mem_of_getElem? hj)
  simpa using this

theorem enc_ex (w : World) (hL : LaidI w) :
    Calls Tryd.prog 5 #[.agg #[.int .i64 13, .int .i64 1, .int .i64 2, .int .i64 0, .int .i64 (-1)]] w fun e w' => e = .returned (.tuple #[.string ⟨#[13, 1, 2, 0, 255, 255, 255, 255]⟩, .bool true]) ∧ Below w.heap.size w w' :=
  encYesP 13 1 2 0 (-1) w hL.forms (by decide) (by decide) (by decide) (by decide) (by decide)
theorem dec_ins : insAt (⟨#[120, 120]⟩ ++ ⟨#[13, 1, 2, 0, 255, 255, 255, 255]⟩) 2 = ⟨13, 1, 2, 0, -1⟩ := by decide +kernel
theorem dec_ex (w : World) (hL : LaidI w) :
    Calls Tryd.prog 7 #[.string (⟨#[120, 120]⟩ ++ ⟨#[13, 1, 2, 0, 255, 255, 255, 255]⟩), .int .i64 2] w fun e w' => e = .returned (.tuple #[.agg #[.int .i64 13, .int .i64 1, .int .i64 2, .int .i64 0, .int .i64 (-1)], .bool true]) ∧ Below w.heap.size w w' := by
  have := decInP (⟨#[120, 120]⟩ ++ ⟨#[13, 1, 2, 0, 255, 255, 255, 255]⟩) 2 w (by decide) hL.forms (by decide) true (by rw [dec_ins]; decide)
  rw [dec_ins] at this
  exact this
theorem par_ex1 : parsN [32, 108, 111, 97, 100, 32, 114, 51, 44, 114, 49, 53, 32, 44, 32, 48, 56] = (⟨15, 3, 15, 0, 8⟩, 0) := by decide +kernel
theorem par_ex2 : parsN [106, 117, 109, 112, 32, 52] = (⟨0, 0, 0, 0, 0⟩, 6) := by decide +kernel
theorem par_ex3 : parsN [106, 117, 109, 112] = (⟨0, 0, 0, 0, 0⟩, 2) := by decide +kernel
theorem par_ex4 : parsN [109, 111, 118, 101, 32, 114, 49, 44, 32, 114, 49, 54] = (⟨0, 0, 0, 0, 0⟩, 6) := by decide +kernel
theorem txt_ex1 : textL ⟨13, 1, 2, 0, -1⟩ = [97, 100, 100, 105, 32, 114, 49, 44, 32, 114, 50, 44, 32, 45, 49] := by decide +kernel
theorem txt_ex2 : textL ⟨26, 0, 0, 0, 0⟩ = [114, 101, 116, 117, 114, 110] := by decide +kernel
theorem use_ex1 : rdsL ⟨28, 4, 0, 0, 0⟩ = [15] := by decide +kernel
theorem use_ex2 : wrsL ⟨28, 4, 0, 0, 0⟩ = [4, 15] := by decide +kernel
theorem rt_ex1 : rightB ⟨13, 1, 2, 0, -1⟩ = true := by decide
theorem rt_ex2 : rightB ⟨0, 0, 0, 0, 0⟩ = false := by decide
theorem pex1 (w : World) (hL : LaidI w) :
    Calls Tryd.prog 9 #[.string ⟨#[32, 108, 111, 97, 100, 32, 114, 51, 44, 114, 49, 53, 32, 44, 32, 48, 56]⟩] w fun e w' => e = .returned (.tuple #[.agg #[.int .i64 15, .int .i64 3, .int .i64 15, .int .i64 0, .int .i64 8], .int .i64 0]) ∧ Below w.heap.size w w' := by
  have := parseP ⟨#[32, 108, 111, 97, 100, 32, 114, 51, 44, 114, 49, 53, 32, 44, 32, 48, 56]⟩ w (by decide) hL (idxAny_ascii _ (by decide +kernel) (ascii_all (by decide +kernel)))
  rw [show (⟨#[32, 108, 111, 97, 100, 32, 114, 51, 44, 114, 49, 53, 32, 44, 32, 48, 56]⟩ : ByteArray).data.toList = [32, 108, 111, 97, 100, 32, 114, 51, 44, 114, 49, 53, 32, 44, 32, 48, 56] from rfl, par_ex1] at this
  exact this
theorem pex2 (w : World) (hL : LaidI w) :
    Calls Tryd.prog 9 #[.string ⟨#[106, 117, 109, 112, 32, 52]⟩] w fun e w' => e = .returned (.tuple #[.agg #[.int .i64 0, .int .i64 0, .int .i64 0, .int .i64 0, .int .i64 0], .int .i64 6]) ∧ Below w.heap.size w w' := by
  have := parseP ⟨#[106, 117, 109, 112, 32, 52]⟩ w (by decide) hL (idxAny_ascii _ (by decide +kernel) (ascii_all (by decide +kernel)))
  rw [show (⟨#[106, 117, 109, 112, 32, 52]⟩ : ByteArray).data.toList = [106, 117, 109, 112, 32, 52] from rfl, par_ex2] at this
  exact this
theorem pex3 (w : World) (hL : LaidI w) :
    Calls Tryd.prog 9 #[.string ⟨#[106, 117, 109, 112]⟩] w fun e w' => e = .returned (.tuple #[.agg #[.int .i64 0, .int .i64 0, .int .i64 0, .int .i64 0, .int .i64 0], .int .i64 2]) ∧ Below w.heap.size w w' := by
  have := parseP ⟨#[106, 117, 109, 112]⟩ w (by decide) hL (idxAny_ascii _ (by decide +kernel) (ascii_all (by decide +kernel)))
  rw [show (⟨#[106, 117, 109, 112]⟩ : ByteArray).data.toList = [106, 117, 109, 112] from rfl, par_ex3] at this
  exact this
theorem pex4 (w : World) (hL : LaidI w) :
    Calls Tryd.prog 9 #[.string ⟨#[109, 111, 118, 101, 32, 114, 49, 44, 32, 114, 49, 54]⟩] w fun e w' => e = .returned (.tuple #[.agg #[.int .i64 0, .int .i64 0, .int .i64 0, .int .i64 0, .int .i64 0], .int .i64 6]) ∧ Below w.heap.size w w' := by
  have := parseP ⟨#[109, 111, 118, 101, 32, 114, 49, 44, 32, 114, 49, 54]⟩ w (by decide) hL (idxAny_ascii _ (by decide +kernel) (ascii_all (by decide +kernel)))
  rw [show (⟨#[109, 111, 118, 101, 32, 114, 49, 44, 32, 114, 49, 54]⟩ : ByteArray).data.toList = [109, 111, 118, 101, 32, 114, 49, 44, 32, 114, 49, 54] from rfl, par_ex4] at this
  exact this
theorem tex1 (w : World) (hL : LaidI w) :
    Calls Tryd.prog 13 #[.agg #[.int .i64 13, .int .i64 1, .int .i64 2, .int .i64 0, .int .i64 (-1)]] w fun e w' => e = .returned (.string ⟨#[97, 100, 100, 105, 32, 114, 49, 44, 32, 114, 50, 44, 32, 45, 49]⟩) ∧ Below w.heap.size w w' := by
  have := textP 13 1 2 0 (-1) w hL
  rw [txt_ex1] at this
  exact this
theorem tex2 (w : World) (hL : LaidI w) :
    Calls Tryd.prog 13 #[.agg #[.int .i64 26, .int .i64 0, .int .i64 0, .int .i64 0, .int .i64 0]] w fun e w' => e = .returned (.string ⟨#[114, 101, 116, 117, 114, 110]⟩) ∧ Below w.heap.size w w' := by
  have := textP 26 0 0 0 0 w hL
  rw [txt_ex2] at this
  exact this
theorem uex (w : World) (hL : LaidI w) :
    Calls Tryd.prog 15 #[.agg #[.int .i64 28, .int .i64 4, .int .i64 0, .int .i64 0, .int .i64 0]] w (RowsPost [15] [4, 15] w) := by
  have := usesP 28 4 0 0 0 w hL
  rw [use_ex1, use_ex2] at this
  exact this
theorem rex1 (w : World) (hL : LaidI w) :
    Calls Tryd.prog 11 #[.agg #[.int .i64 13, .int .i64 1, .int .i64 2, .int .i64 0, .int .i64 (-1)]] w fun e w' => e = .returned (.bool true) ∧ Below w.heap.size w w' := by
  have := rightP 13 1 2 0 (-1) w hL.forms
  rw [rt_ex1] at this
  exact this
theorem rex2 (w : World) (hL : LaidI w) :
    Calls Tryd.prog 11 #[.agg #[.int .i64 0, .int .i64 0, .int .i64 0, .int .i64 0, .int .i64 0]] w fun e w' => e = .returned (.bool false) ∧ Below w.heap.size w w' := by
  have := rightP 0 0 0 0 0 w hL.forms
  rw [rt_ex2] at this
  exact this
theorem row1 (W : World) (x : Nat) (t : TypeId) : IRow (W.alloc (.cells #[.int .i64 (x : Nat)] t)) (.slice (some ⟨W.heap.size, 0, none⟩) 1 1) [x] :=
  ⟨_, 1, rfl, Nat.le_refl _, by decide, fun _ => ⟨W.heap.size, rfl, by simp, fun i hi => by
    obtain rfl : i = 0 := by simp at hi; omega
    exact alloc_cell _ _ _ _⟩⟩
theorem row2 (W : World) (x y : Nat) (t : TypeId) : IRow (W.alloc (.cells #[.int .i64 (x : Nat), .int .i64 (y : Nat)] t)) (.slice (some ⟨W.heap.size, 0, none⟩) 2 2) [x, y] :=
  ⟨_, 2, rfl, Nat.le_refl _, by decide, fun _ => ⟨W.heap.size, rfl, by simp, fun i hi => by
    have : i = 0 ∨ i = 1 := by simp at hi; omega
    rcases this with rfl | rfl
    · exact alloc_cell _ _ _ _
    · exact alloc_cell _ _ _ _⟩⟩
theorem blkKeep {W w' : World} {b : Nat} {cs : Array Value} {t : TypeId} (h : W.heap[b]? = some (.cells cs t)) (hb : Below W.heap.size W w') : w'.heap[b]? = some (.cells cs t) :=
  (hb.block b (Array.getElem?_eq_some_iff.1 h).1).trans h
theorem blkNew {W : World} {b : Nat} {cs : Array Value} {t : TypeId} (h : W.heap[b]? = some (.cells cs t)) (o : Obj) : (W.alloc o).heap[b]? = some (.cells cs t) := blkKeep h (below_new W o)
/-- What the law's examples keep: the tables, the memory of the caller. -/
structure Kp (w W : World) : Prop where
  laid : LaidI W
  below : Below w.heap.size w W
theorem Kp.call {w W w' : World} (h : Kp w W) (hb : Below W.heap.size W w') : Kp w w' := ⟨h.laid.keep hb, h.below.trans (hb.mono h.below.size)⟩
theorem Kp.alloc {w W : World} (h : Kp w W) (o : Obj) : Kp w (W.alloc o) := h.call (below_new W o)
end Go.Proofs.YtmnhnighlgpjmaaDoor
