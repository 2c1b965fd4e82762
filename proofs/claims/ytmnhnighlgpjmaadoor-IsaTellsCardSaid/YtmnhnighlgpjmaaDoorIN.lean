/-
  The laws' mathematics: what Text writes Parse reads.
-/
import Derived.Test.YtmnhnighlgpjmaaDoorIA
import Derived.Test.YtmnhnighlgpjmaaDoorIC
import Derived.Lib.IndexBytes
namespace Go.Proofs.YtmnhnighlgpjmaaDoor
set_option linter.unusedVariables false
set_option linter.unusedSimpArgs false

theorem index44 (l : List UInt8) : Lib.index l [44] = if (l.takeWhile (· != 44)).length < l.length then ((l.takeWhile (· != 44)).length : Int) else -1 := by
  induction l with
  | nil => rfl
  | cons b t ih =>
    unfold Lib.index
    by_cases hb : b = 44
    · subst hb
      rw [if_pos (by simp), List.takeWhile_cons_of_neg (by simp)]; simp
    · rw [if_neg (by simp; exact fun e => hb e.symm), List.takeWhile_cons_of_pos (by simp [hb]), ih]
      simp only [List.length_cons]
      generalize (t.takeWhile (· != 44)).length = c
      generalize t.length = n
      by_cases h : c < n
      · have h2 : c + 1 < n + 1 := by omega
        have h3 : ¬ (((c : Int) == -1) = true) := by simp
        rw [if_pos h, if_pos h2, if_neg h3]; try rfl
      · have h2 : ¬ (c + 1 < n + 1) := by omega
        rw [if_neg h, if_neg h2]; try rfl
/-- What is in front of the first comma, what is behind it, and whether there is one. -/
theorem cut44 (l : List UInt8) : Lib.cut l [44] = (l.takeWhile (· != 44), (l.dropWhile (· != 44)).tail, decide ((l.takeWhile (· != 44)).length < l.length)) := by
  unfold Lib.cut
  rw [index44]
  by_cases h : (l.takeWhile (· != 44)).length < l.length
  · rw [if_pos h, if_pos (by omega), decide_eq_true h, Int.toNat_natCast, take_word, List.length_singleton, ← List.drop_drop, drop_word, List.drop_one]
  · have hl : (l.takeWhile (· != 44)).length = l.length := by
      have := List.IsPrefix.length_le (List.takeWhile_prefix (p := (· != 44)) (l := l)); omega
    have hd : l.dropWhile (· != 44) = [] := by
      rw [← drop_word, hl, List.drop_length]
    have ht : l.takeWhile (· != 44) = l := by rw [← take_word, hl, List.take_length]
    rw [if_neg h, if_neg (by decide), decide_eq_false h, hd, ht]; rfl

/-- A comma ends the piece, if there is none in front. -/
theorem cut_at {x r : List UInt8} (h : ∀ b ∈ x, b ≠ 44) : Lib.cut (x ++ 44 :: r) [44] = (x, r, true) := by
  have ht : (x ++ 44 :: r).takeWhile (· != 44) = x := by
    rw [List.takeWhile_append_of_pos (by intro b hb; simp [h b hb])]; simp
  have hd : (x ++ 44 :: r).dropWhile (· != 44) = 44 :: r := by
    rw [List.dropWhile_append_of_pos (by intro b hb; simp [h b hb])]; simp
  rw [cut44, ht, hd, decide_eq_true (by simp)]; rfl
theorem cut_end {x : List UInt8} (h : ∀ b ∈ x, b ≠ 44) : Lib.cut x [44] = (x, [], false) := by
  have ht : x.takeWhile (· != 44) = x := by
    have := List.takeWhile_append_of_pos (p := (· != 44)) (l₁ := x) (l₂ := []) (by intro b hb; simp [h b hb])
    simpa using this
  have hd : x.dropWhile (· != 44) = [] := by
    have := List.dropWhile_append_of_pos (p := (· != 44)) (l₁ := x) (l₂ := []) (by intro b hb; simp [h b hb])
    simpa using this
  rw [cut44, ht, hd, decide_eq_false (by simp)]; rfl

theorem isBl_iff (b : UInt8) : isBl b = true ↔ b = 32 ∨ b = 9 := by
  unfold isBl blk; simp
/-- No blank at the ends: nothing is trimmed. -/
theorem trim_id {l : List UInt8} (h1 : ∀ b, l.head? = some b → isBl b = false) (h2 : ∀ b, l.getLast? = some b → isBl b = false) : Lib.trimS l blk = l := by
  have hr : Lib.trimRightS l blk = l := by
    unfold Lib.trimRightS
    have : l.reverse.dropWhile (blk.contains ·) = l.reverse := by
      cases hl : l.reverse with
      | nil => rfl
      | cons b t =>
        have hb := h2 b (by rw [← List.head?_reverse, hl]; rfl)
        rw [List.dropWhile_cons_of_neg (by show ¬ isBl b = true; rw [hb]; decide)]
    rw [this, List.reverse_reverse]
  unfold Lib.trimS
  rw [hr]
  unfold Lib.trimLeftS
  cases l with
  | nil => rfl
  | cons b t =>
    have hb := h1 b rfl
    rw [List.dropWhile_cons_of_neg (by show ¬ isBl b = true; rw [hb]; decide)]
theorem trim_front {l : List UInt8} (h1 : ∀ b, l.head? = some b → isBl b = false) (h2 : ∀ b, l.getLast? = some b → isBl b = false) (hne : l ≠ []) : Lib.trimS (32 :: l) blk = l := by
  have hr : Lib.trimRightS (32 :: l) blk = 32 :: l := by
    unfold Lib.trimRightS
    have : (32 :: l).reverse.dropWhile (blk.contains ·) = (32 :: l).reverse := by
      cases hl : (32 :: l).reverse with
      | nil => rfl
      | cons b t =>
        have hg : (32 :: l).getLast? = some b := by rw [← List.head?_reverse, hl]; rfl
        have hb := h2 b (by
          cases l with
          | nil => exact absurd rfl hne
          | cons x y => rwa [List.getLast?_cons_cons] at hg)
        rw [List.dropWhile_cons_of_neg (by show ¬ isBl b = true; rw [hb]; decide)]
    rw [this, List.reverse_reverse]
  unfold Lib.trimS
  rw [hr]
  unfold Lib.trimLeftS
  rw [List.dropWhile_cons_of_pos (by decide)]
  cases l with
  | nil => rfl
  | cons b t =>
    have hb := h1 b rfl
    rw [List.dropWhile_cons_of_neg (by show ¬ isBl b = true; rw [hb]; decide)]

/-- The bytes of an operand. -/
def opdB (b : UInt8) : Bool := b == 45 || b == 114 || isDig b
theorem opd_clean {b : UInt8} (h : opdB b = true) : b ≠ 44 ∧ isBl b = false := by
  have hh : ∀ n : Fin 256, opdB (UInt8.ofNat n.val) = true → UInt8.ofNat n.val ≠ 44 ∧ isBl (UInt8.ofNat n.val) = false := by decide +kernel
  have := hh ⟨b.toNat, b.toNat_lt⟩
  simp only [UInt8.ofNat_toNat] at this
  exact this h

theorem dec_all : ∀ u : Nat, (Lib.decDigits u).all isDig = true := by
  intro u
  induction u using Nat.strongRecOn with
  | _ u ih =>
    have hd : ∀ k, k < 10 → isDig (UInt8.ofNat (48 + k)) = true := by decide
    by_cases h : u < 10
    · rw [Lib.decDigits_one h]
      simp only [List.all_cons, List.all_nil, Bool.and_true]
      exact hd u h
    · rw [Lib.decDigits, dif_neg h, List.all_append, ih (u / 10) (by omega)]
      simp only [List.all_cons, List.all_nil, Bool.and_true, Bool.true_and]
      exact hd (u % 10) (by omega)
theorem dec_val : ∀ u : Nat, digV 0 (Lib.decDigits u) = u := by
  intro u
  induction u using Nat.strongRecOn with
  | _ u ih =>
    have hd : ∀ k, k < 10 → (UInt8.ofNat (48 + k)).toNat - 48 = k := by decide
    by_cases h : u < 10
    · rw [Lib.decDigits_one h, digV_cons, hd u h]; simp [digV]
    · rw [Lib.decDigits, dif_neg h, digV_append, ih (u / 10) (by omega), digV_cons, hd (u % 10) (by omega)]
      simp only [digV, List.foldl_nil]
      omega
theorem dec_pos (u : Nat) : 1 ≤ (Lib.decDigits u).length := by
  by_cases h : u < 10
  · rw [Lib.decDigits_one h]; exact Nat.le_refl _
  · rw [Lib.decDigits, dif_neg h]; simp
theorem pDig_dec (u : Nat) (h : u < 10000000000) : pDig (Lib.decDigits u) 10 = (((u : Nat) : Int), true) := by
  rw [pDig_yes (digsB_good (dec_all u) (dec_pos u) (decDigits_len 9 u (by omega))), dec_val]
theorem dec_no45 (u : Nat) : Lib.hasPrefix (Lib.decDigits u) [45] = false := by
  have h1 := dec_all u
  unfold Lib.hasPrefix
  cases hl : Lib.decDigits u with
  | nil => rfl
  | cons b t =>
    rw [hl, List.all_cons, Bool.and_eq_true] at h1
    have : b ≠ 45 := fun e => by rw [e] at h1; exact absurd h1.1 (by decide)
    show (45 == b && _) = false
    rw [beq_eq_false_iff_ne.2 (fun e => this e.symm)]; rfl
theorem pImm_itoa (m : Int) (h : -2147483648 ≤ m ∧ m ≤ 2147483647) : pImm (Lib.itoa m) = (m, true) := by
  unfold pImm Lib.itoa
  by_cases hm : m < 0
  · rw [if_pos hm]
    have hp : Lib.hasPrefix (45 :: Lib.decDigits m.natAbs) [45] = true := by unfold Lib.hasPrefix; simp
    have ht : Lib.trimPrefix (45 :: Lib.decDigits m.natAbs) [45] = Lib.decDigits m.natAbs := by unfold Lib.trimPrefix; rw [hp]; rfl
    rw [if_pos hp, ht, pDig_dec _ (by omega)]
    show (-(m.natAbs : Int), true) = (m, true)
    rw [show -(m.natAbs : Int) = m by omega]
  · rw [if_neg hm, if_neg (by rw [dec_no45]; decide), pDig_dec _ (by omega), show ((m.toNat : Nat) : Int) = m by omega]
theorem pReg_itoa : ∀ n : Nat, n < 16 → pReg (114 :: Lib.itoa (n : Nat)) = (((n : Nat) : Int), true) := by decide +kernel
theorem pOpd_txt (k : Nat) (n : Int) (hk : k < 4) (h3 : k = 3 → -2147483648 ≤ n ∧ n ≤ 2147483647) (h16 : k < 3 → 0 ≤ n ∧ n < 16) : pOpd k (txtO k n) = (n, true) := by
  unfold pOpd txtO
  by_cases e : k = 3
  · rw [if_pos e, if_pos e]; exact pImm_itoa n (h3 e)
  · rw [if_neg e, if_neg e]
    have := h16 (by omega)
    obtain ⟨q, rfl⟩ := Int.eq_ofNat_of_zero_le this.1
    exact pReg_itoa q (by omega)
theorem txt_all (k : Nat) (n : Int) : (txtO k n).all opdB = true := by
  have hd : ∀ u, (Lib.decDigits u).all opdB = true := fun u => by
    rw [List.all_eq_true]
    intro b hb
    have := List.all_eq_true.1 (dec_all u) b hb
    unfold opdB; rw [this, Bool.or_true]
  have hi : (Lib.itoa n).all opdB = true := by
    unfold Lib.itoa
    split
    · rw [List.all_cons, hd]; rfl
    · exact hd _
  unfold txtO
  split
  · exact hi
  · rw [List.all_cons, hi]; rfl
theorem txt_ne (k : Nat) (n : Int) : txtO k n ≠ [] := by
  unfold txtO
  split
  · unfold Lib.itoa
    split
    · simp
    · have := dec_pos n.toNat
      intro e; rw [e] at this; simp at this
  · simp
theorem all_mem {l : List UInt8} {p : UInt8 → Bool} (h : l.all p = true) (b : UInt8) (hb : b ∈ l) : p b = true := List.all_eq_true.1 h b hb

/-- The texts of the fields from k on. -/
def rems (i : Ins) (m k : Nat) : List (List UInt8) := ((List.range' k (4 - k)).filter (hasB m)).map fun f => txtO f (fldN i f)
theorem rems_yes {i : Ins} {m k : Nat} (hk : k < 4) (h : hasB m k = true) : rems i m k = txtO k (fldN i k) :: rems i m (k + 1) := by
  unfold rems
  rw [show 4 - k = (4 - (k + 1)) + 1 by omega, List.range'_succ, List.filter_cons_of_pos h, List.map_cons]
theorem rems_no {i : Ins} {m k : Nat} (hk : k < 4) (h : hasB m k = false) : rems i m k = rems i m (k + 1) := by
  unfold rems
  rw [show 4 - k = (4 - (k + 1)) + 1 by omega, List.range'_succ, List.filter_cons_of_neg (by rw [h]; decide)]
/-- The text that is left in front of field k, and whether there is some. -/
def left (R : List (List UInt8)) : List UInt8 := if R = [] then [] else 32 :: Lib.join R [44, 32]
def vAt (i : Ins) (m k : Nat) : Ins :=
  ⟨0, if 0 < k ∧ hasB m 0 = true then i.a else 0, if 1 < k ∧ hasB m 1 = true then i.b else 0, if 2 < k ∧ hasB m 2 = true then i.c else 0, if 3 < k ∧ hasB m 3 = true then i.m else 0⟩
theorem vAt_no {i : Ins} {m k : Nat} (hk : k < 4) (h : hasB m k = false) : vAt i m (k + 1) = vAt i m k := by
  have : k = 0 ∨ k = 1 ∨ k = 2 ∨ k = 3 := by omega
  rcases this with rfl | rfl | rfl | rfl <;> simp [vAt, h]
theorem vAt_yes {i : Ins} {m k : Nat} (hk : k < 4) (h : hasB m k = true) : vAt i m (k + 1) = setF (vAt i m k) k (fldN i k) := by
  have : k = 0 ∨ k = 1 ∨ k = 2 ∨ k = 3 := by omega
  rcases this with rfl | rfl | rfl | rfl <;> simp [vAt, h, setF, fldN]

theorem cut_left {x : List UInt8} {R : List (List UInt8)} (hx : x.all opdB = true) : Lib.cut (left (x :: R)) [44] = (32 :: x, left R, !R.isEmpty) := by
  have h44 : ∀ b ∈ (32 :: x), b ≠ 44 := by
    intro b hb
    rcases List.mem_cons.1 hb with rfl | hb
    · decide
    · exact (opd_clean (all_mem hx b hb)).1
  unfold left
  rw [if_neg (by simp)]
  cases R with
  | nil => rw [Lib.join_one, if_pos rfl]; exact cut_end h44
  | cons y r =>
    rw [if_neg (by simp), join_two]
    have := cut_at (r := 32 :: Lib.join (y :: r) [44, 32]) h44
    simpa using this

theorem run_text {i : Ins} {m : Nat} (hf : ∀ k, k < 4 → hasB m k = true → pOpd k (txtO k (fldN i k)) = (fldN i k, true)) :
    ∀ k, k ≤ 4 → pRun m (left (rems i m 0)) k = some (vAt i m k, left (rems i m k), !(rems i m k).isEmpty)
  | 0, _ => by
    unfold pRun
    have : vAt i m 0 = Ins.zero := by simp [vAt, Ins.zero]
    rw [this]
    congr 2
    unfold left
    cases rems i m 0 <;> simp
  | k + 1, hk => by
    show (pRun m _ k).bind _ = _
    rw [run_text hf k (by omega)]
    show pStep m k _ = _
    unfold pStep
    cases hh : hasB m k
    · rw [if_neg (by decide), ← vAt_no (by omega) hh, rems_no (by omega) hh]
    · rw [if_pos rfl, rems_yes (by omega) hh]
      have hx := txt_all k (fldN i k)
      rw [cut_left hx]
      have hne := txt_ne k (fldN i k)
      have ht : Lib.trimS (32 :: txtO k (fldN i k)) blk = txtO k (fldN i k) := trim_front
        (fun b hb => (opd_clean (all_mem hx b (List.mem_of_mem_head? hb))).2) (fun b hb => (opd_clean (all_mem hx b (List.mem_of_getLast? hb))).2) hne
      simp only [ht, hf k (by omega) hh, if_true]
      rw [vAt_yes (by omega) hh]
end Go.Proofs.YtmnhnighlgpjmaaDoor
