/-
  The laws' mathematics: what Text writes Parse reads; what Encode writes Decode reads.
-/
import Derived.Test.YtmnhnighlgpjmaaDoorIN
import Derived.Test.YtmnhnighlgpjmaaDoorIM
namespace Go.Proofs.YtmnhnighlgpjmaaDoor
set_option linter.unusedVariables false
set_option linter.unusedSimpArgs false

def lowB (b : UInt8) : Bool := decide (97 ≤ b.toNat) && decide (b.toNat ≤ 122)
theorem low_clean {b : UInt8} (h : lowB b = true) : isBl b = false := by
  have hh : ∀ n : Fin 256, lowB (UInt8.ofNat n.val) = true → isBl (UInt8.ofNat n.val) = false := by decide +kernel
  have := hh ⟨b.toNat, b.toNat_lt⟩
  simp only [UInt8.ofNat_toNat] at this
  exact this h
theorem names_low : ∀ o, o < 31 → (nameN o).all lowB = true ∧ (1 ≤ o → nameN o ≠ []) := by decide +kernel
theorem last_app {a b : List UInt8} (h : b ≠ []) : (a ++ b).getLast? = b.getLast? := by
  rw [List.getLast?_append]
  cases hb : b.getLast? with
  | none => exact absurd (List.getLast?_eq_none_iff.1 hb) h
  | some x => rfl
theorem head_app {a b : List UInt8} (h : a ≠ []) : (a ++ b).head? = a.head? := by
  cases a with
  | nil => exact absurd rfl h
  | cons x y => rfl
theorem rems_txts (i : Ins) : rems i (opsN i.op.toNat) 0 = txts i 4 := by
  unfold rems txts
  rw [List.range_eq_range']
theorem text_left {i : Ins} (h : rightB i = true) : textL i = nameN i.op.toNat ++ left (txts i 4) := by
  unfold textL left
  rw [if_pos h]
  by_cases e : txts i 4 = []
  · rw [if_pos e, if_pos e, List.append_nil]
  · rw [if_neg e, if_neg e]; simp
theorem join_ne {x : List UInt8} {r : List (List UInt8)} (sep : List UInt8) (h : x ≠ []) : Lib.join (x :: r) sep ≠ [] := by
  rw [Lib.join_cons]
  intro e
  exact h (List.append_eq_nil_iff.1 e).1
theorem join_last (sep : List UInt8) : ∀ R : List (List UInt8), (∀ x ∈ R, x ≠ [] ∧ x.all opdB = true) → ∀ b, (Lib.join R sep).getLast? = some b → opdB b = true
  | [], _, b, hb => by rw [Lib.join_nil] at hb; cases hb
  | [x], h, b, hb => by
    rw [Lib.join_one] at hb
    exact all_mem (h x (by simp)).2 b (List.mem_of_getLast? hb)
  | x :: y :: r, h, b, hb => by
    rw [join_two] at hb
    have hne := join_ne (r := r) sep (h y (by simp)).1
    rw [last_app hne] at hb
    exact join_last sep (y :: r) (fun z hz => h z (List.mem_cons_of_mem _ hz)) b hb
theorem txts_ok (i : Ins) (k : Nat) : ∀ x ∈ txts i k, x ≠ [] ∧ x.all opdB = true := by
  intro x hx
  unfold txts at hx
  obtain ⟨f, _, rfl⟩ := List.mem_map.1 hx
  exact ⟨txt_ne f _, txt_all f _⟩
theorem left_last {R : List (List UInt8)} (h : ∀ x ∈ R, x ≠ [] ∧ x.all opdB = true) : ∀ b, (left R).getLast? = some b → isBl b = false := by
  intro b hb
  unfold left at hb
  split at hb
  · cases hb
  · rename_i hne
    cases R with
    | nil => exact absurd rfl hne
    | cons x r =>
      have hj := join_ne (r := r) [44, 32] (h x (by simp)).1
      have hc : (32 :: Lib.join (x :: r) [44, 32]).getLast? = (Lib.join (x :: r) [44, 32]).getLast? := by
        cases hl : Lib.join (x :: r) [44, 32] with
        | nil => exact absurd hl hj
        | cons y z => exact List.getLast?_cons_cons
      rw [hc] at hb
      exact (opd_clean (join_last _ _ h b hb)).2
theorem text_trim {i : Ins} (h : rightB i = true) : Lib.trimS (textL i) blk = textL i := by
  have ho := right_op h
  obtain ⟨hl, hn⟩ := names_low i.op.toNat (by omega)
  have hne := hn (by omega)
  rw [text_left h]
  refine trim_id (fun b hb => ?_) (fun b hb => ?_)
  · rw [head_app hne] at hb
    exact low_clean (all_mem hl b (List.mem_of_mem_head? hb))
  · by_cases e : left (txts i 4) = []
    · rw [e, List.append_nil] at hb
      exact low_clean (all_mem hl b (List.mem_of_getLast? hb))
    · rw [last_app e] at hb
      exact left_last (txts_ok i 4) b hb
theorem left_head (R : List (List UInt8)) : (left R).takeWhile (!isBl ·) = [] ∧ (left R).dropWhile (!isBl ·) = left R := by
  unfold left
  split
  · exact ⟨rfl, rfl⟩
  · exact ⟨List.takeWhile_cons_of_neg (by decide), List.dropWhile_cons_of_neg (by decide)⟩
theorem text_word {i : Ins} (h : rightB i = true) : wordOf (textL i) = nameN i.op.toNat ∧ restOf (textL i) = left (txts i 4) := by
  have ho := right_op h
  obtain ⟨hl, hn⟩ := names_low i.op.toNat (by omega)
  have hp : ∀ b ∈ nameN i.op.toNat, (!isBl b) = true := fun b hb => by rw [low_clean (all_mem hl b hb)]; rfl
  unfold wordOf restOf
  rw [text_trim h, text_left h]
  have h2 := left_head (txts i 4)
  exact ⟨by rw [List.takeWhile_append_of_pos hp, h2.1, List.append_nil], by rw [List.dropWhile_append_of_pos hp, h2.2]⟩
theorem right_zero {i : Ins} (h : rightB i = true) (k : Nat) (hk : k < 4) (hn : hasB (opsN i.op.toNat) k = false) : fldN i k = 0 := by
  unfold rightB at h
  simp only [Bool.and_eq_true] at h
  have hok : okF i k = true := by
    have : k = 0 ∨ k = 1 ∨ k = 2 ∨ k = 3 := by omega
    rcases this with rfl | rfl | rfl | rfl
    · exact h.1.2.1.1.1
    · exact h.1.2.1.1.2
    · exact h.1.2.1.2
    · exact h.1.2.2
  unfold okF at hok
  rw [hn] at hok
  unfold fieldB at hok
  simpa using hok
/-- What Text writes Parse reads. -/
theorem parse_text {i : Ins} (h : rightB i = true) : parsN (textL i) = (i, 0) := by
  have ho := right_op h
  have hw := text_word h
  unfold parsN
  rw [hw.1, hw.2, opOf_hit (o := i.op.toNat) (by omega) (by omega) rfl]
  unfold parsOp
  have hrun := run_text (i := i) (m := opsN i.op.toNat) (fun k hk hh => pOpd_txt k _ hk (fun e => by rw [e]; exact right_imm h) (fun e => right_reg h k e)) 4 (Nat.le_refl _)
  rw [rems_txts] at hrun
  have hops := pOps_some hrun
  rw [if_neg (by omega), hops]
  have hz := fun k hk hn => right_zero h k hk hn
  have hv : ({ vAt i (opsN i.op.toNat) 4 with op := ((i.op.toNat : Nat) : Int) } : Ins) = i := by
    have e0 : ((i.op.toNat : Nat) : Int) = i.op := by omega
    rw [e0]
    have f : ∀ k, k < 4 → (if k < 4 ∧ hasB (opsN i.op.toNat) k = true then fldN i k else 0) = fldN i k := by
      intro k hk
      by_cases hh : hasB (opsN i.op.toNat) k = true
      · rw [if_pos ⟨hk, hh⟩]
      · rw [if_neg (fun e => hh e.2), hz k hk (by simpa using hh)]
    have f0 := f 0 (by omega)
    have f1 := f 1 (by omega)
    have f2 := f 2 (by omega)
    have f3 := f 3 (by omega)
    cases i
    simp only [vAt, Ins.mk.injEq, true_and]
    exact ⟨f0, f1, f2, f3⟩
  have hm : (!(rems i (opsN i.op.toNat) 4).isEmpty) = false := by unfold rems; rfl
  rw [hm]
  simp only [hv, Bool.not_false, if_true, h]
theorem text_inj {i j : Ins} (hi : rightB i = true) (hj : rightB j = true) (h : textL i = textL j) : i = j := by
  have := (parse_text hi).symm.trans ((congrArg parsN h).trans (parse_text hj))
  exact congrArg Prod.fst this
theorem text_ne {i : Ins} (h : rightB i = true) : textL i ≠ [] := by
  have ho := right_op h
  rw [text_left h]
  intro e
  exact (names_low i.op.toNat (by omega)).2 (by omega) (List.append_eq_nil_iff.1 e).1
theorem join_mem (sep : List UInt8) : ∀ R : List (List UInt8), ∀ b ∈ Lib.join R sep, b ∈ sep ∨ ∃ x ∈ R, b ∈ x
  | [], b, hb => by rw [Lib.join_nil] at hb; cases hb
  | [x], b, hb => by rw [Lib.join_one] at hb; exact .inr ⟨x, by simp, hb⟩
  | x :: y :: r, b, hb => by
    rw [join_two] at hb
    rcases List.mem_append.1 hb with hb | hb
    · rcases List.mem_append.1 hb with hb | hb
      · exact .inr ⟨x, by simp, hb⟩
      · exact .inl hb
    · rcases join_mem sep (y :: r) b hb with hb | ⟨z, hz, hb⟩
      · exact .inl hb
      · exact .inr ⟨z, List.mem_cons_of_mem _ hz, hb⟩
theorem ascii_of {b : UInt8} (h : lowB b = true ∨ opdB b = true) : b.toNat < 128 := by
  have hh : ∀ n : Fin 256, lowB (UInt8.ofNat n.val) = true ∨ opdB (UInt8.ofNat n.val) = true → (UInt8.ofNat n.val).toNat < 128 := by decide +kernel
  have := hh ⟨b.toNat, b.toNat_lt⟩
  simp only [UInt8.ofNat_toNat] at this
  exact this h
theorem text_ascii {i : Ins} (h : rightB i = true) : ∀ b ∈ textL i, b.toNat < 128 := by
  have ho := right_op h
  intro b hb
  rw [text_left h] at hb
  rcases List.mem_append.1 hb with hb | hb
  · exact ascii_of (.inl (all_mem (names_low i.op.toNat (by omega)).1 b hb))
  · unfold left at hb
    split at hb
    · cases hb
    · rcases List.mem_cons.1 hb with rfl | hb
      · decide
      · rcases join_mem _ _ b hb with hb | ⟨x, hx, hb⟩
        · have : ∀ b ∈ ([44, 32] : List UInt8), b.toNat < 128 := by decide
          exact this b hb
        · exact ascii_of (.inr (all_mem (txts_ok i 4 x hx).2 b hb))
theorem text_len {i : Ins} (h : rightB i = true) : (textL i).length ≤ 200 := by
  have hm := right_imm h
  have hx := txts_short i (fun k hk => by
    by_cases e3 : k = 3
    · rw [e3]; show -9223372036854775808 ≤ i.m ∧ i.m ≤ 9223372036854775807; omega
    · have := right_reg h k (by omega); omega)
  have hl := txts_len i 4
  have hj := join_len [44, 32] 21 (txts i 4) hx
  have : (txts i 4).length * (21 + [44, 32].length) ≤ 4 * 23 := Nat.mul_le_mul_right 23 hl
  have hn := nameN_len i.op.toNat
  rw [text_left h, List.length_append]
  unfold left
  split
  · simp; omega
  · rw [List.length_cons]; omega

theorem val_back (m : Int) (h : -2147483648 ≤ m ∧ m ≤ 2147483647) : W1.valOf 4 true (W1.bytesOf m 4) = m := by
  have hl := W1.leV_bytesOf m 4
  rw [show (2 : Int) ^ (8 * 4) = 4294967296 from rfl] at hl
  unfold W1.valOf
  rw [if_pos (.inl rfl)]
  unfold W1.sgn
  rw [if_neg (by decide), if_neg (by decide), if_pos rfl]
  split <;> omega
theorem encL_len (i : Ins) : (encL i).length = 8 := by unfold encL; rw [List.length_append, W1.bytesOf_length]; rfl
theorem encS_size (i : Ins) : (encS i).size = 8 := encL_len i
/-- What Encode writes Decode reads, wherever it stands. -/
theorem dec_enc {i : Ins} (h : rightB i = true) (b c : ByteArray) : insAt (b ++ encS i ++ c) b.size = i := by
  have ho := right_op h
  have ha := right_reg h 0 (by omega)
  have hb := right_reg h 1 (by omega)
  have hc := right_reg h 2 (by omega)
  have hm := right_imm h
  have hl : (b ++ encS i ++ c).data.toList = b.data.toList ++ (encL i ++ c.data.toList) := by simp [encS]
  have hbs : b.data.toList.length = b.size := by simp
  have hg : ∀ k, (b ++ encS i ++ c).data.toList.getD (b.size + k) 0 = (encL i ++ c.data.toList).getD k 0 := fun k => by
    rw [hl, List.getD_eq_getElem?_getD, List.getD_eq_getElem?_getD, List.getElem?_append_right (by omega)]
    congr 2; omega
  have hv : W1.bytesAt (b ++ encS i ++ c) ((b.size : Int) + 4) 4 = W1.bytesOf i.m 4 := by
    unfold W1.bytesAt
    rw [hl, show ((b.size : Int) + 4).toNat = b.size + 4 by omega, show (4 : Int).toNat = 4 from rfl, List.drop_append, List.drop_of_length_le (by omega), List.nil_append, show b.size + 4 - b.data.toList.length = 4 by omega]
    have : encL i ++ c.data.toList = [UInt8.ofNat i.op.toNat, UInt8.ofNat i.a.toNat, UInt8.ofNat i.b.toNat, UInt8.ofNat i.c.toNat] ++ (W1.bytesOf i.m 4 ++ c.data.toList) := by unfold encL; rw [List.append_assoc]
    rw [this, List.drop_left' (by rfl), List.take_left' (W1.bytesOf_length _ _)]
  unfold insAt
  have g0 := hg 0
  rw [Nat.add_zero] at g0
  rw [g0, hg 1, hg 2, hg 3, hv, val_back _ hm]
  have e : ∀ n : Int, 0 ≤ n → n < 256 → (((UInt8.ofNat n.toNat).toNat : Nat) : Int) = n := fun n h1 h2 => by
    simp; omega
  have i0 : (encL i ++ c.data.toList).getD 0 0 = UInt8.ofNat i.op.toNat := rfl
  have i1 : (encL i ++ c.data.toList).getD 1 0 = UInt8.ofNat i.a.toNat := rfl
  have i2 : (encL i ++ c.data.toList).getD 2 0 = UInt8.ofNat i.b.toNat := rfl
  have i3 : (encL i ++ c.data.toList).getD 3 0 = UInt8.ofNat i.c.toNat := rfl
  rw [i0, i1, i2, i3, e _ (by omega) (by omega), e i.a ha.1 (by have := ha.2; show i.a < 256; exact Int.lt_trans this (by decide)), e i.b hb.1 (Int.lt_trans hb.2 (by decide)), e i.c hc.1 (Int.lt_trans hc.2 (by decide))]
theorem enc_inj {i j : Ins} (hi : rightB i = true) (hj : rightB j = true) (h : encS i = encS j) : i = j := by
  have h1 := dec_enc hi ⟨#[]⟩ ⟨#[]⟩
  have h2 := dec_enc hj ⟨#[]⟩ ⟨#[]⟩
  rw [h] at h1
  exact h1.symm.trans h2
theorem enc_imm (i : Ins) (h : -2147483648 ≤ i.m ∧ i.m ≤ 2147483647) : W1.valOf 4 true (W1.bytesAt (encS i) 4 4) = i.m := by
  have : W1.bytesAt (encS i) 4 4 = W1.bytesOf i.m 4 := by
    unfold W1.bytesAt encS encL
    show List.take 4 (List.drop 4 _) = _
    rw [List.drop_left' (by rfl), List.take_of_length_le (by rw [W1.bytesOf_length]; exact Nat.le_refl _)]
  rw [this, val_back _ h]
end Go.Proofs.YtmnhnighlgpjmaaDoor
