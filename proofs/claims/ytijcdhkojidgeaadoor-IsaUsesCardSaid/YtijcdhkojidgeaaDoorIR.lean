/-
  The laws' mathematics: the registers that are read and written. Appends of rows of numbers.
-/
import Derived.Test.YtijcdhkojidgeaaDoorIQ
import Derived.Laws.CopyOwn
import Derived.Lib.AppendZerosOnto
import Derived.Lib.AppendZeros
import Derived.Lib.SliceRun
namespace Go.Proofs.YtijcdhkojidgeaaDoor
set_option linter.unusedVariables false
set_option linter.unusedSimpArgs false
open Go.RowKit

theorem nv_one (l : List Nat) : ∀ u ∈ nv l, u.oneCell' = true := fun u hu => by
  obtain ⟨n, _, rfl⟩ := List.mem_map.1 hu; rfl
set_option maxRecDepth 100000 in
theorem run_appN (w : World) (ty : TypeId) (base : Nat) (v u : Value) (L q : List Nat) (hv : OwnN w base v L) (hu : IRow w u q) (hl : L.length + q.length ≤ 900) (hb : base ≤ w.heap.size) :
    ∃ v' w', (Builtin.append_ #[34, 34] ty #[v, u]).run Tryd.prog w = .ok v' w' ∧ OwnN w' base v' (L ++ q) ∧ Below base w w' := by
  obtain ⟨i0, hi, hz0, hz1, hz2⟩ := info_parts infoI
  obtain ⟨A, cap, rfl, h1, h2, hA⟩ := hu
  rcases A with _ | ad
  · obtain rfl : q = [] := by
      rcases q with _ | ⟨x, q⟩
      · rfl
      · obtain ⟨g, hg, _⟩ := hA (by simp)
        cases hg
    have hu := run_underlying (P := Tryd.prog) Tryd.underlying34
    have hvs : ∃ A n cap, v = .slice A n cap ∧ n ≤ cap := by
      rcases hv.2 with ⟨rfl, _⟩ | ⟨g, cap, cur, rfl, _, _, h1, _⟩
      · exact ⟨none, 0, 0, rfl, Nat.le_refl _⟩
      · exact ⟨_, _, _, rfl, h1⟩
    obtain ⟨A, n, cp, rfl, hnc⟩ := hvs
    refine ⟨.slice A n cp, w, ?_, by rw [List.append_nil]; exact hv, Below.refl _ _⟩
    cases A <;> simp [Builtin.append_, hu, Builtin.lenOf, Builtin.firstCells, sizeOf, typeInfo, hi, storeCells, hnc]
  · have hnews : ∀ j u, (nv q)[j]? = some u → w.cell? (ad.add j) = some u := by
      intro j u hu
      have hj : j < q.length := by
        have := (List.getElem?_eq_some_iff.1 hu).1
        rwa [nv_length] at this
      obtain ⟨g, hg, _, hc⟩ := hA (by omega)
      injection hg with hg
      subst hg
      have ea : (⟨g, 0, none⟩ : Addr).add j = ⟨g, j, none⟩ := by unfold Addr.add; split <;> simp_all
      have e : (nv q)[j]? = some (.int .i64 (q[j] : Nat)) := by simp [nv, hj]
      rw [e] at hu
      exact (congrArg w.cell? ea).trans ((hc j hj).trans hu)
    obtain ⟨v', w', hr, h4, h3, _, h5⟩ := run_append_own_at (P := Tryd.prog) w base 34 ty 3 i0 (.int .i64 0) 1 8 Tryd.underlying34 hi hz0 hz1 hz2 rfl (by decide) v L.length (nv L) hv ad q.length cap (nv q) (by rw [nv_length]; omega) hnews (nv_one _) (by unfold maxLen; omega) (by omega) hb
    exact ⟨v', w', hr, by unfold OwnN; rw [nv_append, List.length_append]; exact h4, (Below.refl _ _).grown h3 hb (fun k hk => (hv.lt k hk).1)⟩

/-- Registers and the set of them. -/
theorem usedL_mem {i : Ins} {m r : Nat} : r ∈ usedL i m ↔ r < 16 ∧ usesB i m r = true := by
  unfold usedL; rw [List.mem_filter, List.mem_range]
theorem range_sorted (n : Nat) : (List.range n).Pairwise (· < ·) := List.pairwise_lt_range
theorem usedL_sorted (i : Ins) (m : Nat) : (usedL i m).Pairwise (· < ·) := (range_sorted 16).filter _
theorem filter_or_len {p q : Nat → Bool} (l : List Nat) : (l.filter fun r => p r || q r).length ≤ (l.filter p).length + (l.filter q).length := by
  induction l with
  | nil => simp
  | cons a t ih =>
    simp only [List.filter_cons]
    cases p a <;> cases q a <;> simp <;> omega
theorem filter_eq_len (n : Nat) (k : Nat) : ((List.range k).filter (· == n)).length ≤ 1 := by
  induction k with
  | zero => simp
  | succ k ih =>
    rw [List.range_succ, List.filter_append, List.length_append]
    by_cases e : k = n
    · subst e
      have : (List.range k).filter (· == k) = [] := by
        rw [List.filter_eq_nil_iff]; intro a ha; have := List.mem_range.1 ha; simp; omega
      rw [this]; simp
    · simp [e]; exact ih
theorem usesK_len (i : Ins) (m k : Nat) : ((List.range 16).filter (usesK i m k)).length ≤ ((List.range k).filter (hasB m)).length := by
  induction k with
  | zero => simp [usesK]
  | succ k ih =>
    cases hh : hasB m k
    · rw [usesK_no hh, filter_no hh]; exact ih
    · have hu : ∀ r, r < 16 → usesK i m (k + 1) r = (usesK i m k r || r == (fldN i k).toNat && decide (0 ≤ fldN i k)) := by
        intro r hr
        unfold usesK
        rw [List.range_succ, List.any_append]
        simp only [List.any_cons, List.any_nil, hh, Bool.true_and, Bool.or_false]
        congr 1
        rw [Bool.eq_iff_iff]; simp; omega
      have hc : (List.range 16).filter (usesK i m (k + 1)) = (List.range 16).filter (fun r => usesK i m k r || (r == (fldN i k).toNat && decide (0 ≤ fldN i k))) :=
        List.filter_congr (fun r hr => hu r (List.mem_range.1 hr))
      rw [hc, filter_yes hh, List.length_append]
      have h1 := filter_or_len (p := usesK i m k) (q := fun r => r == (fldN i k).toNat && decide (0 ≤ fldN i k)) (List.range 16)
      have h2 : ((List.range 16).filter (fun r => r == (fldN i k).toNat && decide (0 ≤ fldN i k))).length ≤ 1 := by
        by_cases h0 : 0 ≤ fldN i k
        · simp only [h0, decide_true, Bool.and_true]; exact filter_eq_len _ _
        · have : (List.range 16).filter (fun r => r == (fldN i k).toNat && decide (0 ≤ fldN i k)) = [] := by
            rw [List.filter_eq_nil_iff]; intro a _; rw [decide_eq_false h0, Bool.and_false]; decide
          rw [this]; decide
      simp only [List.length_singleton]
      omega
theorem usedL_len (i : Ins) (m : Nat) : (usedL i m).length ≤ ((List.range 5).filter (hasB m)).length := by
  have h1 := usesK_len i m 4
  have h2 := filter_or_len (p := usesK i m 4) (q := fun r => hasB m 4 && r == 15) (List.range 16)
  have h3 : usedL i m = (List.range 16).filter (fun r => usesK i m 4 r || (hasB m 4 && r == 15)) := rfl
  rw [h3]
  cases hh : hasB m 4
  · rw [hh] at h2
    rw [filter_no hh]
    have : ((List.range 16).filter (fun r => false && r == 15)).length = 0 := by simp
    omega
  · rw [hh] at h2
    rw [filter_yes hh, List.length_append]
    have : ((List.range 16).filter (fun r => true && r == 15)).length ≤ 1 := by
      simp only [Bool.true_and]; exact filter_eq_len 15 16
    simp only [List.length_singleton]
    omega
theorem masks_len : ∀ o, o < 31 → ((List.range 5).filter (hasB (rdN o))).length ≤ 3 ∧ ((List.range 5).filter (hasB (wrN o))).length ≤ 2 := by decide +kernel
theorem sys_len : ∀ k, k < 8 → sysR.getD k 0 ≤ 3 ∧ sysW.getD k 0 ≤ 2 := by decide

structure RegsOk (l : List Nat) (n : Nat) : Prop where
  len : l.length ≤ n
  small : ∀ r ∈ l, r ≤ 15
  sorted : l.Pairwise (· < ·)
theorem regs_nil (n : Nat) : RegsOk [] n := ⟨Nat.zero_le _, (fun r h => by cases h), List.Pairwise.nil⟩
theorem regs_range {k n : Nat} (h : k ≤ n) (hn : n ≤ 15) : RegsOk (List.range k) n := ⟨by rw [List.length_range]; exact h, (fun r hr => by have := List.mem_range.1 hr; omega), range_sorted k⟩
theorem regs_used {i : Ins} {m n : Nat} (h : ((List.range 5).filter (hasB m)).length ≤ n) : RegsOk (usedL i m) n := ⟨Nat.le_trans (usedL_len i m) h, (fun r hr => by have := (usedL_mem.1 hr).1; omega), usedL_sorted i m⟩
theorem uses_ok {i : Ins} (h : rightB i = true) : RegsOk (rdsL i) 3 ∧ RegsOk (wrsL i) 2 := by
  have ho := right_op h
  unfold rdsL wrsL
  rw [if_pos h, if_pos h]
  by_cases h30 : i.op = 30
  · rw [if_pos h30, if_pos h30]
    obtain ⟨o, a, b, c, m⟩ := i
    obtain rfl : o = 30 := h30
    have hm := sys_imm h
    have := sys_len m.toNat (by omega)
    exact ⟨regs_range (this.1) (by decide), regs_range (this.2) (by decide)⟩
  · rw [if_neg h30, if_neg h30]
    have := masks_len i.op.toNat (by omega)
    exact ⟨regs_used this.1, regs_used this.2⟩
theorem uses_no {i : Ins} (h : rightB i = false) : rdsL i = [] ∧ wrsL i = [] := by
  unfold rdsL wrsL; rw [h]; exact ⟨rfl, rfl⟩
end Go.Proofs.YtijcdhkojidgeaaDoor
