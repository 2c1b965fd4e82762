/-
  Package isa, plain: the tables, instructions, and when one is right; no program in sight.
-/
import Derived.Test.YtmnhnighlgpjmaaDoorPure
namespace Go.Proofs.YtmnhnighlgpjmaaDoor
set_option linter.unusedVariables false
set_option linter.unusedSimpArgs false

def nameL : List (List UInt8) := [[], [110, 111, 112], [115, 97, 102, 101], [115, 101, 116], [104, 105, 103, 104], [109, 111, 118, 101], [97, 100, 100], [115, 117, 98], [109, 117, 108], [97, 110, 100], [111, 114], [108, 101, 115, 115], [115, 97, 109, 101], [97, 100, 100, 105], [97, 100, 100, 114], [108, 111, 97, 100], [98, 121, 116, 101], [115, 116, 111, 114, 101], [112, 117, 116], [106, 117, 109, 112], [122, 101, 114, 111], [110, 111, 110, 122, 101, 114, 111], [99, 97, 108, 108], [99, 97, 108, 108, 114], [99, 97, 108, 108, 115], [106, 117, 109, 112, 115], [114, 101, 116, 117, 114, 110], [112, 117, 115, 104], [112, 111, 112], [116, 108, 115], [115, 121, 115]]
def opsL : List Nat := [0, 0, 0, 9, 9, 3, 7, 7, 7, 7, 7, 7, 7, 11, 9, 11, 11, 11, 11, 8, 9, 9, 8, 1, 8, 8, 0, 1, 1, 3, 8]
def rdL : List Nat := [0, 0, 0, 0, 1, 2, 6, 6, 6, 6, 6, 6, 6, 2, 0, 2, 2, 3, 3, 0, 1, 1, 16, 17, 16, 0, 16, 17, 16, 2, 0]
def wrL : List Nat := [0, 0, 0, 1, 1, 1, 1, 1, 1, 1, 1, 1, 1, 1, 1, 1, 1, 0, 0, 0, 0, 0, 16, 16, 16, 0, 16, 16, 17, 1, 0]
def sysR : List Nat := [0, 1, 1, 2, 0, 3, 1, 3]
def sysW : List Nat := [0, 0, 1, 1, 0, 1, 1, 1]
/-- The mnemonic of an Op, its operands, and the fields whose registers it reads and writes. -/
def nameN (o : Nat) : List UInt8 := nameL.getD o []
def opsN (o : Nat) : Nat := opsL.getD o 0
def rdN (o : Nat) : Nat := rdL.getD o 0
def wrN (o : Nat) : Nat := wrL.getD o 0
theorem opsN_lt (o : Nat) : opsN o < 32 := by
  by_cases h : o < 31
  · have : ∀ o, o < 31 → opsN o < 32 := by decide
    exact this o h
  · unfold opsN; rw [List.getD_eq_getElem?_getD, List.getElem?_eq_none (by simp [opsL]; omega)]; decide
theorem rdN_lt (o : Nat) : rdN o < 32 := by
  by_cases h : o < 31
  · have : ∀ o, o < 31 → rdN o < 32 := by decide
    exact this o h
  · unfold rdN; rw [List.getD_eq_getElem?_getD, List.getElem?_eq_none (by simp [rdL]; omega)]; decide
theorem wrN_lt (o : Nat) : wrN o < 32 := by
  by_cases h : o < 31
  · have : ∀ o, o < 31 → wrN o < 32 := by decide
    exact this o h
  · unfold wrN; rw [List.getD_eq_getElem?_getD, List.getElem?_eq_none (by simp [wrL]; omega)]; decide

/-- An instruction. -/
structure Ins where
  op : Int
  a : Int
  b : Int
  c : Int
  m : Int
deriving DecidableEq
def Ins.zero : Ins := ⟨0, 0, 0, 0, 0⟩
/-- A field of an instruction. -/
def fldN (i : Ins) (k : Nat) : Int := if k = 0 then i.a else if k = 1 then i.b else if k = 2 then i.c else i.m
/-- Whether a set of fields has one. -/
def hasB (m f : Nat) : Bool := m / 2 ^ f % 2 == 1
/-- Whether a number may stand in a field that is an operand or not. -/
def fieldB (f : Nat) (n : Int) (is : Bool) : Bool := if is then (if f = 3 then decide (-2147483648 ≤ n ∧ n ≤ 2147483647) else decide (0 ≤ n ∧ n < 16)) else n == 0
def immB (o m : Int) : Bool := if o = 30 then decide (0 ≤ m ∧ m < 8) else if o = 22 then decide (m % 8 = 0 ∧ -512 ≤ m ∧ m ≤ 504) else if o = 19 ∨ o = 20 ∨ o = 21 ∨ o = 24 ∨ o = 25 then decide (m % 8 = 0) else true
def okF (i : Ins) (k : Nat) : Bool := fieldB k (fldN i k) (hasB (opsN i.op.toNat) k)
/-- Whether an instruction is right. -/
def rightB (i : Ins) : Bool := decide (1 ≤ i.op ∧ i.op ≤ 30) && (okF i 0 && okF i 1 && okF i 2 && okF i 3) && immB i.op i.m
theorem rightB_out (i : Ins) (h : i.op < 1 ∨ 30 < i.op) : rightB i = false := by
  unfold rightB
  rw [decide_eq_false (by omega)]
  rfl
theorem rightB_in (i : Ins) (h1 : 1 ≤ i.op) (h2 : i.op ≤ 30) : rightB i = ((okF i 0 && okF i 1 && okF i 2 && okF i 3) && immB i.op i.m) := by
  unfold rightB
  rw [decide_eq_true ⟨h1, h2⟩]
  rfl
theorem rightB_bad (i : Ins) (k : Nat) (hk : k < 4) (h : okF i k = false) : rightB i = false := by
  unfold rightB
  have : k = 0 ∨ k = 1 ∨ k = 2 ∨ k = 3 := by omega
  rcases this with rfl | rfl | rfl | rfl <;> rw [h] <;> simp
/-- What a right instruction's Imm is. -/
theorem right_imm {i : Ins} (h : rightB i = true) : -2147483648 ≤ i.m ∧ i.m ≤ 2147483647 := by
  unfold rightB okF fieldB at h
  simp only [Bool.and_eq_true, decide_eq_true_eq] at h
  have h3 := h.1.2.2
  split at h3
  · simpa [fldN] using h3
  · simp [fldN] at h3; omega
theorem right_op {i : Ins} (h : rightB i = true) : 1 ≤ i.op ∧ i.op ≤ 30 := by
  unfold rightB at h
  simp only [Bool.and_eq_true, decide_eq_true_eq] at h
  exact h.1.1
theorem right_reg {i : Ins} (h : rightB i = true) (k : Nat) (hk : k < 3) : 0 ≤ fldN i k ∧ fldN i k < 16 := by
  unfold rightB okF at h
  simp only [Bool.and_eq_true] at h
  have hf : fieldB k (fldN i k) (hasB (opsN i.op.toNat) k) = true := by
    have : k = 0 ∨ k = 1 ∨ k = 2 := by omega
    rcases this with rfl | rfl | rfl
    · exact h.1.2.1.1.1
    · exact h.1.2.1.1.2
    · exact h.1.2.1.2
  unfold fieldB at hf
  split at hf
  · rw [if_neg (by omega)] at hf; simpa using hf
  · simp at hf; omega
end Go.Proofs.YtmnhnighlgpjmaaDoor
