/-
  The laws' mathematics: the exchange of two registers.
-/
import Derived.Test.YtijcdhkojidgeaaDoorIR
namespace Go.Proofs.YtijcdhkojidgeaaDoor
set_option linter.unusedVariables false
set_option linter.unusedSimpArgs false

theorem mapI_reg {r x y : Int} (hr : 0 ≤ r ∧ r < 16) (hx : 0 ≤ x ∧ x ≤ 14) (hy : 0 ≤ y ∧ y ≤ 14) : 0 ≤ mapI r x y ∧ mapI r x y < 16 := by
  unfold mapI; split
  · omega
  · split <;> omega
theorem mapI_mapI (r x y : Int) : mapI (mapI r x y) x y = r := by
  unfold mapI; split
  · split <;> (try split) <;> omega
  · split
    · simp; omega
    · first | rfl | (rename_i h1 h2; rw [if_neg h1, if_neg h2])
theorem mapI_15 {r x y : Int} (hx : 0 ≤ x ∧ x ≤ 14) (hy : 0 ≤ y ∧ y ≤ 14) : mapI r x y = 15 ↔ r = 15 := by
  unfold mapI; split
  · constructor <;> intro h <;> omega
  · split
    · constructor <;> intro h <;> omega
    · exact Iff.rfl

/-- An instruction with two registers exchanged in its operands. -/
def exch (i : Ins) (x y : Int) : Ins :=
  ⟨i.op, if hasB (opsN i.op.toNat) 0 then mapI i.a x y else i.a, if hasB (opsN i.op.toNat) 1 then mapI i.b x y else i.b, if hasB (opsN i.op.toNat) 2 then mapI i.c x y else i.c, i.m⟩
theorem exch_fld (i : Ins) (x y : Int) (k : Nat) (hk : k < 3) : fldN (exch i x y) k = if hasB (opsN i.op.toNat) k then mapI (fldN i k) x y else fldN i k := by
  have : k = 0 ∨ k = 1 ∨ k = 2 := by omega
  rcases this with rfl | rfl | rfl <;> rfl
theorem exch_imm (i : Ins) (x y : Int) : fldN (exch i x y) 3 = fldN i 3 := rfl
theorem right_ok {i : Ins} (h : rightB i = true) (k : Nat) (hk : k < 4) : okF i k = true := by
  unfold rightB at h
  simp only [Bool.and_eq_true] at h
  have : k = 0 ∨ k = 1 ∨ k = 2 ∨ k = 3 := by omega
  rcases this with rfl | rfl | rfl | rfl
  · exact h.1.2.1.1.1
  · exact h.1.2.1.1.2
  · exact h.1.2.1.2
  · exact h.1.2.2
theorem right_exch {i : Ins} {x y : Int} (h : rightB i = true) (hx : 0 ≤ x ∧ x ≤ 14) (hy : 0 ≤ y ∧ y ≤ 14) : rightB (exch i x y) = true := by
  have ho := right_op h
  have hk : ∀ k, k < 4 → okF (exch i x y) k = true := by
    intro k hk
    have hok := right_ok h k hk
    by_cases e3 : k = 3
    · subst e3; exact hok
    · have hr := right_reg h k (by omega)
      show fieldB k (fldN (exch i x y) k) (hasB (opsN i.op.toNat) k) = true
      rw [exch_fld i x y k (by omega)]
      cases hh : hasB (opsN i.op.toNat) k
      · unfold okF at hok; rw [hh] at hok; exact hok
      · have := mapI_reg hr hx hy
        unfold fieldB
        rw [if_pos rfl, if_neg e3, if_pos rfl, decide_eq_true this]
  have hi : immB (exch i x y).op (exch i x y).m = true := by
    unfold rightB at h
    simp only [Bool.and_eq_true] at h
    exact h.2
  rw [rightB_in (exch i x y) ho.1 ho.2, hk 0 (by omega), hk 1 (by omega), hk 2 (by omega), hk 3 (by omega), hi]
  rfl

theorem fm_congr {f g : Nat → List Nat} : ∀ {l : List Nat}, (∀ r ∈ l, f r = g r) → l.flatMap f = l.flatMap g
  | [], _ => rfl
  | a :: t, h => by rw [List.flatMap_cons, List.flatMap_cons, h a (by simp), fm_congr (fun r hr => h r (List.mem_cons_of_mem _ hr))]
theorem flatMap_if (p : Nat → Bool) (l : List Nat) : (l.flatMap fun r => if p r then [r] else []) = l.filter p := by
  induction l with
  | nil => rfl
  | cons a t ih =>
    rw [List.flatMap_cons, ih, List.filter_cons]
    cases p a <;> simp
theorem filter_one (n k : Nat) (h : n < k) : (List.range k).filter (· == n) = [n] := by
  induction k with
  | zero => omega
  | succ k ih =>
    rw [List.range_succ, List.filter_append]
    by_cases e : k = n
    · subst e
      have : (List.range k).filter (· == k) = [] := by
        rw [List.filter_eq_nil_iff]; intro a ha; have := List.mem_range.1 ha; simp; omega
      rw [this]; simp
    · rw [ih (by omega)]; simp [e]
theorem rows_one (p : Nat → Bool) {x y : Int} (hx : 0 ≤ x ∧ x ≤ 14) (hy : 0 ≤ y ∧ y ≤ 14) (r : Nat) (hr : r < 16) :
    rowsTo ((List.range 16).filter p) x y r ((List.range 16).filter p).length = if p (mapI (r : Nat) x y).toNat then [r] else [] := by
  have hm := mapI_reg (r := (r : Nat)) ⟨by omega, by omega⟩ hx hy
  have hc : ∀ e : Nat, (mapI (e : Nat) x y == (r : Nat)) = (e == (mapI (r : Nat) x y).toNat) := by
    intro e
    rw [Bool.eq_iff_iff, beq_iff_eq, beq_iff_eq]
    constructor
    · intro h
      have := mapI_mapI (e : Nat) x y
      rw [h] at this
      omega
    · intro h
      have h2 : ((e : Nat) : Int) = mapI (r : Nat) x y := by omega
      rw [h2, mapI_mapI]
  unfold rowsTo
  rw [List.take_of_length_le (Nat.le_refl _)]
  simp only [hc]
  rw [List.filter_filter]
  have h2 : (List.range 16).filter (fun a => (a == (mapI (r : Nat) x y).toNat) && p a) = if p (mapI (r : Nat) x y).toNat then [(mapI (r : Nat) x y).toNat] else [] := by
    have h3 : (List.range 16).filter (fun a => (a == (mapI (r : Nat) x y).toNat) && p a) = ((List.range 16).filter (· == (mapI (r : Nat) x y).toNat)).filter p := by
      rw [List.filter_filter]; exact List.filter_congr (fun a _ => Bool.and_comm _ _)
    rw [h3, filter_one _ 16 (by omega)]
    cases hp : p (mapI (r : Nat) x y).toNat <;> simp [hp]
  rw [h2]
  split <;> rfl
theorem swap_filter (p : Nat → Bool) {x y : Int} (hx : 0 ≤ x ∧ x ≤ 14) (hy : 0 ≤ y ∧ y ≤ 14) :
    swapL ((List.range 16).filter p) x y = (List.range 16).filter fun r => p (mapI (r : Nat) x y).toNat := by
  unfold swapL swapK
  exact (fm_congr (fun r hr => rows_one p hx hy r (List.mem_range.1 hr))).trans (flatMap_if (fun r => p (mapI (r : Nat) x y).toNat) _)
theorem uses_exch {i : Ins} {m : Nat} {x y : Int} (hx : 0 ≤ x ∧ x ≤ 14) (hy : 0 ≤ y ∧ y ≤ 14) (h3 : hasB m 3 = false) (hsub : ∀ k, k < 3 → hasB m k = true → hasB (opsN i.op.toNat) k = true) (r : Nat) (hr : r < 16) :
    usesB (exch i x y) m r = usesB i m (mapI (r : Nat) x y).toNat := by
  have hm := mapI_reg (r := (r : Nat)) ⟨by omega, by omega⟩ hx hy
  have hf : ∀ k, k < 4 → (hasB m k && fldN (exch i x y) k == (r : Nat)) = (hasB m k && fldN i k == (((mapI (r : Nat) x y).toNat : Nat) : Int)) := by
    intro k hk
    by_cases e3 : k = 3
    · subst e3; rw [h3]; rfl
    · cases hh : hasB m k
      · rfl
      · rw [exch_fld i x y k (by omega), if_pos (hsub k (by omega) hh)]
        congr 1
        rw [Bool.eq_iff_iff, beq_iff_eq, beq_iff_eq, show (((mapI (r : Nat) x y).toNat : Nat) : Int) = mapI (r : Nat) x y by omega]
        constructor
        · intro h; rw [← h, mapI_mapI]
        · intro h; rw [h, mapI_mapI]
  have h15 : (r == 15) = ((mapI (r : Nat) x y).toNat == 15) := by
    rw [Bool.eq_iff_iff, beq_iff_eq, beq_iff_eq]
    have := mapI_15 (r := (r : Nat)) hx hy
    constructor
    · intro h; have := this.2 (by omega); omega
    · intro h; have := this.1 (by omega); omega
  unfold usesB usesK
  rw [h15]
  congr 1
  have e4 : List.range 4 = [0, 1, 2, 3] := rfl
  rw [e4]
  simp only [List.any_cons, List.any_nil, Bool.or_false]
  rw [hf 0 (by omega), hf 1 (by omega), hf 2 (by omega), hf 3 (by omega)]
theorem used_exch {i : Ins} {m : Nat} {x y : Int} (hx : 0 ≤ x ∧ x ≤ 14) (hy : 0 ≤ y ∧ y ≤ 14) (h3 : hasB m 3 = false) (hsub : ∀ k, k < 3 → hasB m k = true → hasB (opsN i.op.toNat) k = true) :
    usedL (exch i x y) m = swapL (usedL i m) x y := by
  unfold usedL
  rw [swap_filter _ hx hy]
  exact List.filter_congr (fun r hr => uses_exch hx hy h3 hsub r (List.mem_range.1 hr))
theorem masks_sub : ∀ o, o < 31 → ∀ k, k < 3 → (hasB (rdN o) k = true → hasB (opsN o) k = true) ∧ (hasB (wrN o) k = true → hasB (opsN o) k = true) := by decide +kernel
theorem rds_exch {i : Ins} {x y : Int} (h : rightB i = true) (h30 : i.op ≠ 30) (hx : 0 ≤ x ∧ x ≤ 14) (hy : 0 ≤ y ∧ y ≤ 14) :
    rdsL (exch i x y) = swapL (rdsL i) x y ∧ wrsL (exch i x y) = swapL (wrsL i) x y := by
  have ho := right_op h
  have hr := right_exch h hx hy
  have h30' : (exch i x y).op ≠ 30 := h30
  have eop : (exch i x y).op = i.op := rfl
  unfold rdsL wrsL
  rw [if_pos h, if_pos h, if_pos hr, if_pos hr, if_neg h30, if_neg h30, if_neg h30', if_neg h30', eop]
  have hs := masks_sub i.op.toNat (by omega)
  exact ⟨used_exch hx hy (rd_reg _) (fun k hk => (hs k hk).1), used_exch hx hy (wr_reg _) (fun k hk => (hs k hk).2)⟩
end Go.Proofs.YtijcdhkojidgeaaDoor
