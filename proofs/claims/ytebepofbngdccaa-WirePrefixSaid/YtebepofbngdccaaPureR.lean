/-
  Plain mathematics: what a reader read stands at the beginning, and what was written is read.
-/
import Derived.Test.YtebepofbngdccaaNum
namespace Go.Proofs.Ytebepofbngdccaa
set_option linter.unusedVariables false
set_option linter.unusedSimpArgs false

/-- What was read, if the reader has not failed, is the value's encoding. -/
def Good {α : Type} (item : St → α × St) (encode : α → List UInt8) : Prop := ∀ st : St, (item st).2.bad = false → st.l = encode (item st).1 ++ (item st).2.l

theorem fNumber_good : Good fNumber enc := by
  intro st h
  unfold fNumber at h ⊢
  rcases hf : first st.l with _ | ⟨m, r⟩
  · rw [hf] at h; cases h
  · exact (first_some hf).1
theorem fNum_good : Good fNum enc := by
  intro st h
  unfold fNum at h ⊢
  split
  · rename_i hlt; rw [if_pos hlt] at h; exact fNumber_good st h
  · rename_i hlt; rw [if_neg hlt] at h; cases h
theorem fInt_good : Good fInt encI := by
  intro st h
  show st.l = enc (zig (zag (fNumber st).1)) ++ (fNumber st).2.l
  rw [zig_zag]
  exact fNumber_good st h
theorem fLen_good : Good fLen enc := by
  intro st h
  unfold fLen at h ⊢
  split
  · rename_i hlt; rw [if_pos hlt] at h; exact fNum_good st h
  · rename_i hlt; rw [if_neg hlt] at h; cases h
theorem fText_good : Good fText encT := by
  intro st h
  have h1 := fLen_good st h
  have h2 := fLen_le st
  show st.l = encT ((fLen st).2.l.take (fLen st).1) ++ (fLen st).2.l.drop (fLen st).1
  rw [encT, List.length_take, Nat.min_eq_left h2, List.append_assoc, List.take_append_drop]
  exact h1
theorem fRep_good {α : Type} {item : St → α × St} {encode : α → List UInt8} (hg : Good item encode) : ∀ (k : Nat) (acc : List α) (st : St), (fRep item k acc st).2.bad = false →
    ∃ xs, (fRep item k acc st).1 = acc ++ xs ∧ xs.length = k ∧ st.l = xs.flatMap encode ++ (fRep item k acc st).2.l := by
  intro k
  induction k with
  | zero => intro acc st h; exact ⟨[], by simp [fRep], rfl, by simp [fRep]⟩
  | succ k ih =>
    intro acc st h
    rw [fRep] at h ⊢
    by_cases hb : (item st).2.bad = true
    · rw [if_pos hb] at h; rw [hb] at h; cases h
    · rw [if_neg hb] at h ⊢
      obtain ⟨xs, h1, h2, h3⟩ := ih _ _ h
      refine ⟨(item st).1 :: xs, by rw [h1]; simp, by simp [h2], ?_⟩
      have h4 := hg st (by simpa using hb)
      rw [List.flatMap_cons, List.append_assoc, ← h3]
      exact h4
theorem fRep_bad {α : Type} {item : St → α × St} (hi : ∀ st : St, st.ok → (item st).2.ok) : True := trivial
def encL {α : Type} (encode : α → List UInt8) (xs : List α) : List UInt8 := enc xs.length ++ xs.flatMap encode
theorem fList_good {α : Type} {item : St → α × St} {encode : α → List UInt8} (hg : Good item encode) (hbad : ∀ st, (fLen st).2.bad = true → (fList item st).2.bad = true) : Good (fList item) (encL encode) := by
  intro st h
  have hb : (fLen st).2.bad = false := by
    rcases h1 : (fLen st).2.bad with _ | _
    · rfl
    · rw [hbad st h1] at h; cases h
  have h1 := fLen_good st hb
  unfold fList at h ⊢
  obtain ⟨xs, h2, h3, h4⟩ := fRep_good hg _ _ _ h
  rw [h2, List.nil_append, encL, h3, List.append_assoc, ← h4]
  exact h1
/-- A state that has failed stays failed. -/
theorem fNumber_bad {st : St} (hok : st.ok) (h : st.bad = true) : fNumber st = (0, St.fail) := by
  unfold fNumber
  have : st.l = [] := hok h
  rw [this, first_nil]
theorem fNum_bad {st : St} (hok : st.ok) (h : st.bad = true) : fNum st = (0, St.fail) := by unfold fNum; rw [fNumber_bad hok h, if_pos (by simp)]
theorem fLen_bad {st : St} (hok : st.ok) (h : st.bad = true) : fLen st = (0, St.fail) := by unfold fLen; rw [fNum_bad hok h, if_pos (by simp)]
theorem fLen_fail (st : St) (hok : st.ok) (h : (fLen st).2.bad = true) : (fLen st).1 = 0 := by
  have h1 := fLen_ok st hok h
  have h2 := fLen_le st
  rw [h1] at h2
  simpa using h2
theorem fList_bad {α : Type} (item : St → α × St) (st : St) (hok : st.ok) (h : (fLen st).2.bad = true) : (fList item st).2.bad = true := by
  unfold fList
  rw [fLen_fail st hok h, fRep]
  exact h
theorem fList_good' {α : Type} {item : St → α × St} {encode : α → List UInt8} (hg : Good item encode) (st : St) (hok : st.ok) (h : (fList item st).2.bad = false) : st.l = encL encode (fList item st).1 ++ (fList item st).2.l := by
  have hb : (fLen st).2.bad = false := by
    rcases h1 : (fLen st).2.bad with _ | _
    · rfl
    · rw [fList_bad item st hok h1] at h; cases h
  have h1 := fLen_good st hb
  unfold fList at h ⊢
  obtain ⟨xs, h2, h3, h4⟩ := fRep_good hg _ _ _ h
  rw [h2, List.nil_append, encL, h3, List.append_assoc, ← h4]
  exact h1

theorem fRep_all {α : Type} {item : St → α × St} (P : α → Prop) (L : Nat) (hP : ∀ st, st.l.length ≤ L → P (item st).1) (hl : ∀ st, (item st).2.l.length ≤ st.l.length) :
    ∀ (k : Nat) (acc : List α) (st : St), st.l.length ≤ L → (∀ x ∈ acc, P x) → ∀ x ∈ (fRep item k acc st).1, P x := by
  intro k
  induction k with
  | zero => intro acc st _ h; exact h
  | succ k ih =>
    intro acc st hs h
    rw [fRep]
    split
    · intro x hx; cases hx
    · refine ih _ _ (Nat.le_trans (hl st) hs) ?_
      intro x hx
      rcases List.mem_append.1 hx with hx | hx
      · exact h x hx
      · simp at hx; subst hx; exact hP st hs
theorem fRep_length {α : Type} {item : St → α × St} : ∀ (k : Nat) (acc : List α) (st : St), (fRep item k acc st).1.length ≤ acc.length + k := by
  intro k
  induction k with
  | zero => intro acc st; exact Nat.le_refl _
  | succ k ih =>
    intro acc st
    rw [fRep]
    split
    · simp
    · have := ih (acc ++ [(item st).1]) (item st).2
      simp at this; omega
theorem fList_length {α : Type} (item : St → α × St) (st : St) : (fList item st).1.length ≤ st.l.length := by
  have h := fRep_length (item := item) (fLen st).1 [] (fLen st).2
  have h2 := fLen_le st
  have h3 := fLen_len st
  simp at h
  unfold fList; omega
theorem fList_all {α : Type} {item : St → α × St} (P : α → Prop) (L : Nat) (hP : ∀ st, st.l.length ≤ L → P (item st).1) (hl : ∀ st, (item st).2.l.length ≤ st.l.length) (st : St) (h : st.l.length ≤ L) : ∀ x ∈ (fList item st).1, P x :=
  fRep_all P L hP hl _ _ _ (Nat.le_trans (fLen_len st) h) (by simp)
theorem fRep_small {α : Type} {item : St → α × St} (hl : ∀ st, (item st).2.l.length ≤ st.l.length) : ∀ (k : Nat) (acc : List α) (st : St), (fRep item k acc st).2.l.length ≤ st.l.length := by
  intro k
  induction k with
  | zero => intro acc st; exact Nat.le_refl _
  | succ k ih =>
    intro acc st
    rw [fRep]
    split
    · exact hl st
    · exact Nat.le_trans (ih _ _) (hl st)
theorem fList_small {α : Type} {item : St → α × St} (hl : ∀ st, (item st).2.l.length ≤ st.l.length) (st : St) : (fList item st).2.l.length ≤ st.l.length :=
  Nat.le_trans (fRep_small hl _ _ _) (fLen_len st)
theorem fInt_in (st : St) : inI (fInt st).1 := zag_in (fNumber_lt st)
theorem fText_le (st : St) : (fText st).1.length ≤ st.l.length := by
  have := fLen_len st
  show (List.take _ _).length ≤ _
  rw [List.length_take]; omega
theorem nums_in (st : St) : ∀ z ∈ (fList fInt st).1, inI z := fList_all inI st.l.length (fun st _ => fInt_in st) fInt_len st (Nat.le_refl _)
theorem texts_le (st : St) : ∀ s ∈ (fList fText st).1, s.length ≤ st.l.length := fList_all (fun s => s.length ≤ st.l.length) st.l.length (fun st' h => Nat.le_trans (fText_le st') h) fText_len st (Nat.le_refl _)

/-! Reading what was written -/
/-- A value that was written is read. -/
def Inv {α : Type} (item : St → α × St) (encode : α → List UInt8) (x : α) : Prop := ∀ (r : List UInt8), item ⟨encode x ++ r, false⟩ = (x, ⟨r, false⟩)
theorem fNumber_inv {m : Nat} (h : m < 18446744073709551616) : Inv fNumber enc m := by
  intro r; unfold fNumber; simp only; rw [first_enc h]
theorem fNum_inv {m : Nat} (h : m < 9223372036854775808) : Inv fNum enc m := by
  intro r; unfold fNum; rw [fNumber_inv (by omega) r, if_pos h]
theorem fInt_inv {n : Int} (h : inI n) : Inv fInt encI n := by
  intro r; unfold fInt encI; rw [fNumber_inv (zig_lt h.1 h.2) r, zag_zig]
theorem fLen_inv {m : Nat} {r : List UInt8} (h : m < 9223372036854775808) (hl : m ≤ r.length) : fLen ⟨enc m ++ r, false⟩ = (m, ⟨r, false⟩) := by
  unfold fLen; rw [fNum_inv h r, if_pos hl]
theorem fText_inv {s : List UInt8} (h : s.length < 9223372036854775808) : Inv fText encT s := by
  intro r; unfold fText encT; rw [List.append_assoc, fLen_inv h (by rw [List.length_append]; omega)]; simp
theorem fRep_inv {α : Type} {item : St → α × St} {encode : α → List UInt8} : ∀ (xs acc : List α) (r : List UInt8), (∀ x ∈ xs, Inv item encode x) →
    fRep item xs.length acc ⟨xs.flatMap encode ++ r, false⟩ = (acc ++ xs, ⟨r, false⟩) := by
  intro xs
  induction xs with
  | nil => intro acc r _; simp [fRep]
  | cons x xs ih =>
    intro acc r h
    rw [List.length_cons, fRep, List.flatMap_cons, List.append_assoc, h x (by simp), if_neg (by simp), ih _ _ fun y hy => h y (by simp [hy])]
    simp
theorem flat_ge {α : Type} (encode : α → List UInt8) (hp : ∀ x, 1 ≤ (encode x).length) (xs : List α) : xs.length ≤ (xs.flatMap encode).length := by
  induction xs with
  | nil => simp
  | cons x xs ih => have := hp x; simp only [List.flatMap_cons, List.length_append, List.length_cons]; omega
theorem fList_inv {α : Type} {item : St → α × St} {encode : α → List UInt8} {xs : List α} (hp : ∀ x, 1 ≤ (encode x).length) (hn : xs.length < 9223372036854775808) (h : ∀ x ∈ xs, Inv item encode x) : Inv (fList item) (encL encode) xs := by
  intro r
  unfold fList encL
  have := flat_ge encode hp xs
  rw [List.append_assoc, fLen_inv hn (by rw [List.length_append]; omega), fRep_inv xs [] r h]
  simp
theorem encI_pos (n : Int) : 1 ≤ (encI n).length := enc_pos _
theorem encT_pos (s : List UInt8) : 1 ≤ (encT s).length := by have := enc_pos s.length; unfold encT; rw [List.length_append]; omega
theorem encL_nums (zs : List Int) : encL encI zs = encNums zs := rfl
theorem encL_texts (ss : List (List UInt8)) : encL encT ss = encTexts ss := rfl
end Go.Proofs.Ytebepofbngdccaa
