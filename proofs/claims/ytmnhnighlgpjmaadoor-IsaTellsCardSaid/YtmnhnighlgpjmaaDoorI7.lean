/-
  Package isa: the Op of a name; the name in front of a line.
-/
import Derived.Test.YtmnhnighlgpjmaaDoorI6
namespace Go.Proofs.YtmnhnighlgpjmaaDoor
set_option linter.unusedVariables false
set_option linter.unusedSimpArgs false
open Go.RowKit

/-- The Op with a mnemonic, or 0. -/
def opOf (l : List UInt8) : Nat := ((List.range 31).find? fun o => decide (1 ≤ o) && nameN o == l).getD 0
theorem names_differ : ∀ i, i < 31 → ∀ j, j < 31 → nameN i = nameN j → i = j := by decide +kernel
theorem opOf_hit {l : List UInt8} {o : Nat} (h1 : 1 ≤ o) (h2 : o < 31) (h : nameN o = l) : opOf l = o := by
  unfold opOf
  cases hf : (List.range 31).find? fun o => decide (1 ≤ o) && nameN o == l with
  | none =>
    have := List.find?_eq_none.1 hf o (List.mem_range.2 h2)
    simp [h1, h] at this
  | some j =>
    have hj := List.find?_some hf
    have hm := List.mem_range.1 (List.mem_of_find?_eq_some hf)
    simp only [Bool.and_eq_true, decide_eq_true_eq, beq_iff_eq] at hj
    exact names_differ j hm o h2 (hj.2.trans h.symm)
theorem opOf_none {l : List UInt8} (h : ∀ o, 1 ≤ o → o < 31 → nameN o ≠ l) : opOf l = 0 := by
  unfold opOf
  have : ((List.range 31).find? fun o => decide (1 ≤ o) && nameN o == l) = none := by
    rw [List.find?_eq_none]
    intro o ho
    have hm := List.mem_range.1 ho
    by_cases h1 : 1 ≤ o
    · simp [h1, h o h1 hm]
    · simp [h1]
  rw [this]; rfl
theorem opOf_cases (l : List UInt8) : opOf l = 0 ∨ (1 ≤ opOf l ∧ opOf l < 31 ∧ nameN (opOf l) = l) := by
  by_cases h : ∃ o, 1 ≤ o ∧ o < 31 ∧ nameN o = l
  · obtain ⟨o, h1, h2, h3⟩ := h
    rw [opOf_hit h1 h2 h3]
    exact .inr ⟨h1, h2, h3⟩
  · exact .inl (opOf_none fun o h1 h2 h3 => h ⟨o, h1, h2, h3⟩)

theorem arr_beq (a : List UInt8) (s : ByteArray) : ((⟨a.toArray⟩ : ByteArray).toList == s.toList) = (a == s.data.toList) := by
  rw [Lib.toList_data, Lib.toList_data]

set_option maxHeartbeats 1000000 in
theorem opNamedP (s : ByteArray) (w : World) (hF : FormsAt w) :
    Calls Tryd.prog 21 #[.string s] w fun e w' => e = .returned (.tuple #[.int .i64 (opOf s.data.toList : Nat), .bool (decide (1 ≤ opOf s.data.toList))]) ∧ w = w' := by
  obtain ⟨v, hv⟩ : ∃ v, opOf s.data.toList = v := ⟨_, rfl⟩
  rw [hv]
  have HV := Lib.hid hv; clear hv
  have HF := Lib.hid hF; clear hF
  go_enter Tryd.func21, Tryd.ntmps21
  go_wp2_with fail
  go_loop [4] (fun i => ∃ k : Nat, 1 ≤ k ∧ k ≤ 31 ∧ i = .int .i64 k ∧ ∀ o, 1 ≤ o → o < k → nameN o ≠ s.data.toList) (fun i => 31 - (intOf i).toNat)
  case atStart => exact ⟨1, by omega, by omega, rfl, fun o h1 h2 => by omega⟩
  case round =>
    obtain ⟨k, hk1, hk, rfl, hall⟩ := hrel
    have HA := Lib.hid hall; clear hall
    by_cases hlt : k < 31
    · obtain ⟨hc, _⟩ := HF.out.2 k hlt
      obtain ⟨q, hq⟩ : ∃ q : ByteArray, (⟨(nameN k).toArray⟩ : ByteArray) = q := ⟨_, rfl⟩
      have HB := Lib.hid (arr_beq (nameN k) s)
      rw [hq] at hc HB
      have HQ := Lib.hid hq; clear hq
      cases hb : (q.toList == s.toList)
      · rw [hb] at HB
        go_wp2_with fail
        go_round
        case rel => exact ⟨k + 1, by omega, by omega, by go_num, fun o h1 h2 => by
          by_cases e : o = k
          · rw [e]; exact beq_eq_false_iff_ne.1 HB.out.symm
          · exact HA.out o h1 (by omega)⟩
        case measure => simp [intOf]; omega
      · rw [hb] at HB
        have HO := Lib.hid (HV.out.symm.trans (opOf_hit hk1 hlt (beq_iff_eq.1 HB.out.symm)))
        go_wp2_with fail
        go_ret2
        exact ⟨by rw [HO.out, decide_eq_true hk1]; rfl, rfl⟩
    · obtain rfl : k = 31 := by omega
      have HO := Lib.hid (HV.out.symm.trans (opOf_none HA.out))
      go_wp2_with fail
      go_ret2
      exact ⟨by rw [HO.out]; rfl, rfl⟩

/-- Spaces and tabs. -/
def blk : List UInt8 := [32, 9]
def isBl (b : UInt8) : Bool := blk.contains b
/-- The first word of a line, and what follows. -/
def wordOf (l : List UInt8) : List UInt8 := (Lib.trimS l blk).takeWhile (!isBl ·)
def restOf (l : List UInt8) : List UInt8 := (Lib.trimS l blk).dropWhile (!isBl ·)

theorem indexAny_take (l : List UInt8) : Lib.indexAny l blk = if (l.takeWhile (!isBl ·)).length < l.length then ((l.takeWhile (!isBl ·)).length : Int) else -1 := by
  induction l with
  | nil => rfl
  | cons b t ih =>
    unfold Lib.indexAny
    by_cases hb : isBl b = true
    · have : blk.contains b = true := hb
      rw [if_pos this, List.takeWhile_cons_of_neg (by simp [hb])]
      simp
    · have hb' : isBl b = false := by simpa using hb
      have : blk.contains b = false := hb'
      rw [if_neg (by rw [this]; decide), List.takeWhile_cons_of_pos (by simp [hb']), ih]
      simp only [List.length_cons]
      generalize (t.takeWhile (!isBl ·)).length = c
      generalize t.length = n
      by_cases h : c < n
      · have h2 : c + 1 < n + 1 := by omega
        have h3 : ¬ (((c : Int) == -1) = true) := by simp
        rw [if_pos h, if_pos h2, if_neg h3]; try rfl
      · have h2 : ¬ (c + 1 < n + 1) := by omega
        rw [if_neg h, if_neg h2]; try rfl

theorem take_word (l : List UInt8) (p : UInt8 → Bool) : l.take (l.takeWhile p).length = l.takeWhile p :=
  calc l.take (l.takeWhile p).length = (l.takeWhile p ++ l.dropWhile p).take (l.takeWhile p).length := by rw [List.takeWhile_append_dropWhile]
    _ = l.takeWhile p := List.take_left' rfl
theorem drop_word (l : List UInt8) (p : UInt8 → Bool) : l.drop (l.takeWhile p).length = l.dropWhile p :=
  calc l.drop (l.takeWhile p).length = (l.takeWhile p ++ l.dropWhile p).drop (l.takeWhile p).length := by rw [List.takeWhile_append_dropWhile]
    _ = l.dropWhile p := List.drop_left' rfl

/-- What IndexAny answers for blanks in a string. -/
def IdxAny (t : ByteArray) : Prop := ∀ w, Calls Tryd.prog 47 #[.string t, .string ⟨#[32, 9]⟩] w fun e w' => e = .returned (.int .i64 (Lib.indexAny t.data.toList blk)) ∧ Below w.heap.size w w'
theorem idxAny_ascii (t : ByteArray) (ht : t.size < 4294967281) (h : ∀ (j : Nat) b, t.data.toList[j]? = some b → b.toNat < 128) : IdxAny t := fun w =>
  Tryd.strings_IndexAny_laid t ⟨#[32, 9]⟩ w ht (by decide) h (fun j b hj => by
    have : ∀ b ∈ ([32, 9] : List UInt8), b.toNat < 128 := by decide
    exact this b (List.mem_of_getElem? hj))

theorem trimP (s : ByteArray) (w : World) (hs : s.size ≤ 9223372036854775807) :
    Calls Tryd.prog 46 #[.string s, .string ⟨#[32, 9]⟩] w fun e w' => e = .returned (.string (arr (Lib.trimS s.data.toList blk))) ∧ Below w.heap.size w w' :=
  Tryd.strings_Trim_set s ⟨#[32, 9]⟩ w hs (by decide) (fun j b hj => by
    have : ∀ b ∈ ([32, 9] : List UInt8), b.toNat < 128 := by decide
    exact this b (List.mem_of_getElem? hj))
theorem trimS_le (l : List UInt8) : (Lib.trimS l blk).length ≤ l.length := by
  unfold Lib.trimS Lib.trimLeftS Lib.trimRightS
  refine Nat.le_trans (List.IsSuffix.length_le (List.dropWhile_suffix _)) ?_
  rw [List.length_reverse]
  refine Nat.le_trans (List.IsSuffix.length_le (List.dropWhile_suffix _)) ?_
  rw [List.length_reverse]
  exact Nat.le_refl _
end Go.Proofs.YtmnhnighlgpjmaaDoor
