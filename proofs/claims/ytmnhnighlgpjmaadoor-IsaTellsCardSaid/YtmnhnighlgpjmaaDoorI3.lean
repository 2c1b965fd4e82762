/-
  Package isa: Encode and Decode.
-/
import Derived.Test.YtmnhnighlgpjmaaDoorI2
import Derived.Test.YtmnhnighlgpjmaaDoorPut
import Derived.Test.YtmnhnighlgpjmaaDoorPureB
import Derived.ChangeAlike
namespace Go.Proofs.YtmnhnighlgpjmaaDoor
set_option linter.unusedVariables false
set_option linter.unusedSimpArgs false
open Go.RowKit

def head8 (o a b c : Nat) : ByteArray := ⟨#[UInt8.ofNat o, UInt8.ofNat a, UInt8.ofNat b, UInt8.ofNat c, 0, 0, 0, 0]⟩
/-- The bytes of an instruction. -/
def encL (i : Ins) : List UInt8 := [UInt8.ofNat i.op.toNat, UInt8.ofNat i.a.toNat, UInt8.ofNat i.b.toNat, UInt8.ofNat i.c.toNat] ++ W1.bytesOf i.m 4
def encS (i : Ins) : ByteArray := ⟨(encL i).toArray⟩
theorem put_head (o a b c : Nat) (m : Int) : W1.putS (head8 o a b c) 4 4 m = encS ⟨o, a, b, c, m⟩ := by
  apply W1.ba_ext
  rw [W1.putS_list]
  simp [encS, encL, head8]

theorem bytes8 (w : World) (o a b c : Nat) (ho : o < 256) (ha : a < 256) (hb : b < 256) (hc : c < 256) (t : TypeId) :
    (convert 39 9 (.slice (some ⟨w.heap.size, 0, none⟩) 8 8)).run Tryd.prog (w.alloc (.cells #[.int .u8 o, .int .u8 a, .int .u8 b, .int .u8 c, .int .u8 0, .int .u8 0, .int .u8 0, .int .u8 0] t))
      = .ok (.string (head8 o a b c)) (w.alloc (.cells #[.int .u8 o, .int .u8 a, .int .u8 b, .int .u8 c, .int .u8 0, .int .u8 0, .int .u8 0, .int .u8 0] t)) := by
  refine run_convert_bytes_back (P := Tryd.prog) _ 39 9 5 ⟨w.heap.size, 0, none⟩ 8 [UInt8.ofNat o, UInt8.ofNat a, UInt8.ofNat b, UInt8.ofNat c, 0, 0, 0, 0] Tryd.underlying39 Tryd.underlying5 Tryd.underlying9 (fun j hj => ?_)
  have hj8 : j < 8 := hj
  have e : ∀ n : Nat, n < 256 → (UInt8.ofNat n).toNat = n := fun n hn => by simp; omega
  have ea : (⟨w.heap.size, 0, none⟩ : Addr).add j = ⟨w.heap.size, j, none⟩ := by unfold Addr.add; split <;> simp_all
  rw [ea, alloc_cell]
  have : j = 0 ∨ j = 1 ∨ j = 2 ∨ j = 3 ∨ j = 4 ∨ j = 5 ∨ j = 6 ∨ j = 7 := by omega
  rcases this with rfl | rfl | rfl | rfl | rfl | rfl | rfl | rfl <;> simp [Nat.mod_eq_of_lt, *]

theorem fits_imm (m : Int) (h : -2147483648 ≤ m ∧ m ≤ 2147483647) : (W1.fitsB m (8 * 4) true || W1.fitsB m (8 * 4) false) = true := by
  rw [show (8 : Int) * 4 = 32 from rfl, fits32, decide_eq_true h]; rfl

theorem encNoP (o a b c m : Int) (w : World) (hF : FormsAt w) (h : rightB ⟨o, a, b, c, m⟩ = false) :
    Calls Tryd.prog 5 #[.agg #[.int .i64 o, .int .i64 a, .int .i64 b, .int .i64 c, .int .i64 m]] w fun e w' => e = .returned (.tuple #[.string ⟨#[]⟩, .bool false]) ∧ Below w.heap.size w w' := by
  have HB0 := Lib.hid ((Below.refl w.heap.size w).alloc (Nat.le_refl _) (.cells #[.int .i64 o, .int .i64 a, .int .i64 b, .int .i64 c, .int .i64 m] 23))
  have HR := Lib.hid (rightP o a b c m _ (hF.keep HB0.out))
  rw [h] at HR
  clear hF h
  go_enter Tryd.func5, Tryd.ntmps5
  go_wp2_with fail
  refine HR.out.mono ?_; rintro e w2 ⟨rfl, hb⟩
  have HB := Lib.hid hb; clear hb
  go_wp2_with fail
  go_ret2
  exact ⟨rfl, HB0.out.trans (HB.out.mono (by simp))⟩

set_option maxHeartbeats 1000000 in
theorem encYesP (o a b c : Nat) (m : Int) (w : World) (hF : FormsAt w) (h : rightB ⟨o, a, b, c, m⟩ = true) (ho : o < 256) (ha : a < 256) (hb : b < 256) (hc : c < 256) :
    Calls Tryd.prog 5 #[.agg #[.int .i64 o, .int .i64 a, .int .i64 b, .int .i64 c, .int .i64 m]] w fun e w' => e = .returned (.tuple #[.string (encS ⟨o, a, b, c, m⟩), .bool true]) ∧ Below w.heap.size w w' := by
  have HB0 := Lib.hid ((Below.refl w.heap.size w).alloc (Nat.le_refl _) (.cells #[.int .i64 o, .int .i64 a, .int .i64 b, .int .i64 c, .int .i64 m] 23))
  have HR := Lib.hid (rightP o a b c m _ (hF.keep HB0.out))
  rw [h] at HR
  have HM := Lib.hid (right_imm h)
  have hcv := fun w : World => bytes8 w o a b c ho ha hb hc 5
  clear hF h
  go_enter Tryd.func5, Tryd.ntmps5
  go_wp2_with fail
  refine HR.out.mono ?_; rintro e w2 ⟨rfl, hbb⟩
  have c0 : w2.cell? ⟨w.heap.size, 0, none⟩ = some (.int .i64 o) := (hbb.cell (p := ⟨_, _, none⟩) (by simp)).trans (alloc_cell _ _ _ _)
  have c1 : w2.cell? ⟨w.heap.size, 1, none⟩ = some (.int .i64 a) := (hbb.cell (p := ⟨_, _, none⟩) (by simp)).trans (alloc_cell _ _ _ _)
  have c2 : w2.cell? ⟨w.heap.size, 2, none⟩ = some (.int .i64 b) := (hbb.cell (p := ⟨_, _, none⟩) (by simp)).trans (alloc_cell _ _ _ _)
  have c3 : w2.cell? ⟨w.heap.size, 3, none⟩ = some (.int .i64 c) := (hbb.cell (p := ⟨_, _, none⟩) (by simp)).trans (alloc_cell _ _ _ _)
  have c4 : w2.cell? ⟨w.heap.size, 4, none⟩ = some (.int .i64 m) := (hbb.cell (p := ⟨_, _, none⟩) (by simp)).trans (alloc_cell _ _ _ _)
  have hsz : w.heap.size < w2.heap.size := by have := hbb.size; simp at this; omega
  have HB := Lib.hid hbb; clear hbb
  go_wp2_with fail
  refine (W1.put_yes (head8 o a b c) 4 4 m _ (by show (8 : Nat) ≤ _; decide) ⟨.inr (.inr (.inl rfl)), by decide, by show (4 : Int) ≤ (8 : Nat) - 4; decide⟩ (fits_imm m HM.out)).mono ?_; rintro e w3 ⟨rfl, hb3⟩
  have HB3 := Lib.hid hb3; clear hb3
  go_wp2_with fail
  go_ret2
  refine ⟨by rw [put_head]; rfl, HB0.out.trans ((HB.out.mono (by simp)).trans (((Below.refl _ _).alloc (by omega) _).trans (HB3.out.mono (by simp; omega))))⟩

def insAt (s : ByteArray) (p : Nat) : Ins :=
  ⟨(s.data.toList.getD p 0).toNat, (s.data.toList.getD (p + 1) 0).toNat, (s.data.toList.getD (p + 2) 0).toNat, (s.data.toList.getD (p + 3) 0).toNat, W1.valOf 4 true (W1.bytesAt s ((p : Int) + 4) 4)⟩
def insV (i : Ins) : Value := .agg #[.int .i64 i.op, .int .i64 i.a, .int .i64 i.b, .int .i64 i.c, .int .i64 i.m]
theorem getD_at (s : ByteArray) (p : Nat) (h : p < s.size) : s.data.toList.getD p 0 = s[p] := by
  rw [List.getD_eq_getElem?_getD, List.getElem?_eq_getElem (by simpa using h)]; rfl
def zeroV : Value := .agg #[.int .i64 0, .int .i64 0, .int .i64 0, .int .i64 0, .int .i64 0]

theorem decOutP (s : ByteArray) (p : Int) (w : World) (hs : s.size ≤ 9223372036854775807) (h : p < 0 ∨ s.size - 8 < p) :
    Calls Tryd.prog 7 #[.string s, .int .i64 p] w fun e w' => e = .returned (.tuple #[.agg #[.int .i64 0, .int .i64 0, .int .i64 0, .int .i64 0, .int .i64 0], .bool false]) ∧ Below w.heap.size w w' := by
  rcases h with h | h
  · go_enter Tryd.func7, Tryd.ntmps7
    go_wp2_with fail
    exact bodyPost_ret (v := .tuple #[.agg #[.int .i64 0, .int .i64 0, .int .i64 0, .int .i64 0, .int .i64 0], .bool false]) (by simp [results, Tryd.results7, go_sem]) rfl ⟨rfl, ((Below.refl _ _).alloc (Nat.le_refl _) _)⟩
  · by_cases hn : p < 0
    · go_enter Tryd.func7, Tryd.ntmps7
      go_wp2_with fail
      exact bodyPost_ret (v := .tuple #[.agg #[.int .i64 0, .int .i64 0, .int .i64 0, .int .i64 0, .int .i64 0], .bool false]) (by simp [results, Tryd.results7, go_sem]) rfl ⟨rfl, ((Below.refl _ _).alloc (Nat.le_refl _) _)⟩
    · have hn' : decide (p < 0) = false := by simpa using hn
      go_enter Tryd.func7, Tryd.ntmps7
      go_wp2_with fail
      exact bodyPost_ret (v := .tuple #[.agg #[.int .i64 0, .int .i64 0, .int .i64 0, .int .i64 0, .int .i64 0], .bool false]) (by simp [results, Tryd.results7, go_sem]) rfl ⟨rfl, ((Below.refl _ _).alloc (Nat.le_refl _) _)⟩

theorem two_second (w : World) (a b : Obj) : ((w.alloc a).alloc b).drew.heap[w.heap.size + 1]? = some b := by
  show ((w.heap.push a).push b)[w.heap.size + 1]? = some b
  rw [show w.heap.size + 1 = (w.heap.push a).size by simp, Array.getElem?_push_size]
theorem two_first (w : World) (a b : Obj) : ((w.alloc a).alloc b).drew.heap[w.heap.size]? = some a := by
  show ((w.heap.push a).push b)[w.heap.size]? = some a
  rw [Array.getElem?_push_lt (by simp)]; simp
theorem block_new (w : World) (a : Obj) : (w.alloc a).heap[w.heap.size]? = some a := by
  show (w.heap.push a)[w.heap.size]? = some a
  rw [Array.getElem?_push_size]
theorem blk_cell {w : World} {b : Nat} {cs : Array Value} {t : TypeId} (h : w.heap[b]? = some (.cells cs t)) (k : Nat) : w.cell? ⟨b, k, none⟩ = cs[k]? := by
  unfold World.cell?; simp only [h]; rfl
theorem blk_free {w : World} {b : Nat} {cs : Array Value} {t : TypeId} (h : w.heap[b]? = some (.cells cs t)) (k : Nat) : w.frozen? ⟨b, k, none⟩ = false := by
  simp [World.frozen?, h]

theorem setCell_block {w : World} {b k : Nat} {cs : Array Value} {t : TypeId} {x : Value} (h : w.heap[b]? = some (.cells cs t)) : (w.setCell ⟨b, k, none⟩ x).heap[b]? = some (.cells (cs.setIfInBounds k x) t) := by
  simp [World.setCell, Array.getElem?_modify, h]
theorem setCell_else {w : World} {b b2 k : Nat} {x : Value} (h : b2 ≠ b) : (w.setCell ⟨b, k, none⟩ x).heap[b2]? = w.heap[b2]? := by
  simp [World.setCell, Array.getElem?_modify, Ne.symm h]
theorem set5 {w : World} {b : Nat} {y0 y1 y2 y3 y4 : Value} {t : TypeId} (h : w.heap[b]? = some (.cells #[y0, y1, y2, y3, y4] t)) (x0 x1 x2 x3 x4 : Value) :
    (((((w.setCell ⟨b, 0, none⟩ x0).setCell ⟨b, 1, none⟩ x1).setCell ⟨b, 2, none⟩ x2).setCell ⟨b, 3, none⟩ x3).setCell ⟨b, 4, none⟩ x4).heap[b]? = some (.cells #[x0, x1, x2, x3, x4] t) := by
  rw [setCell_block (setCell_block (setCell_block (setCell_block (setCell_block h))))]; rfl

end Go.Proofs.YtmnhnighlgpjmaaDoor
