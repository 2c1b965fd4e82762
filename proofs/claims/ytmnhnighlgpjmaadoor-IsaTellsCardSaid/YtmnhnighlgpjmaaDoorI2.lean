/-
  Package isa: Right.
-/
import Derived.Test.YtmnhnighlgpjmaaDoorI1
namespace Go.Proofs.YtmnhnighlgpjmaaDoor
set_option linter.unusedVariables false
set_option linter.unusedSimpArgs false
open Go.RowKit

theorem FormsAt.keep {w w' : World} (h : FormsAt w) (hb : Below w.heap.size w w') : FormsAt w' := by
  refine ⟨Nat.lt_of_lt_of_le h.1 hb.size, fun o ho => ?_⟩
  obtain ⟨h0, h1, h2, h3⟩ := h.2 o ho
  exact ⟨(hb.cell (p := ⟨_, _, none⟩) h.1).trans h0, (hb.cell (p := ⟨_, _, none⟩) h.1).trans h1, (hb.cell (p := ⟨_, _, none⟩) h.1).trans h2, (hb.cell (p := ⟨_, _, none⟩) h.1).trans h3⟩

theorem alloc_cell (w : World) (cs : Array Value) (t : TypeId) (k : Nat) : (w.alloc (.cells cs t)).cell? ⟨w.heap.size, k, none⟩ = cs[k]? := by
  have h : (w.alloc (.cells cs t)).heap[w.heap.size]? = some (.cells cs t) := by rw [show (w.alloc (.cells cs t)).heap = w.heap.push (.cells cs t) from rfl]; simp
  unfold World.cell?; simp only [h]; rfl
theorem idx_agg {t e : TypeId} {n : Nat} {ik : IntKind} (ht : Tryd.prog.underlying t = some (.array n e)) (he : Tryd.prog.underlying e = some (.int ik)) (hi : (Tryd.prog.info? e).map (·.size) = some 1)
    (cs : Array Value) (k : Nat) (hk : k < n) (v : Value) (hv : cs[k]? = some v) (w : World) : (Instr.index t (.agg cs) (.int .i64 (k : Int))).run Tryd.prog w = .ok v w := by
  cases hq : Tryd.prog.info? e with
  | none => simp [hq] at hi
  | some i =>
    have hs : i.size = 1 := by simpa [hq] using hi
    have h1 : (0 : Int) ≤ (k : Int) ∧ (k : Int) < (n : Int) := by omega
    simp [Instr.index, asIntOf, run_underlying ht, isAgg, run_underlying he, part, sizeOf, typeInfo, hq, hs, hk, hv]
theorem idx4 (a b c m : Int) (k : Nat) (hk : k < 4) (w : World) :
    (Instr.index 46 (.agg #[.int .i64 a, .int .i64 b, .int .i64 c, .int .i64 m]) (.int .i64 (k : Int))).run Tryd.prog w = .ok (.int .i64 (fldN ⟨0, a, b, c, m⟩ k)) w := by
  refine idx_agg Tryd.underlying46 Tryd.underlying3 (by kernel_rfl) _ k hk _ ?_ w
  have : k = 0 ∨ k = 1 ∨ k = 2 ∨ k = 3 := by omega
  rcases this with rfl | rfl | rfl | rfl <;> rfl

theorem fld_op (o a b c m : Int) (k : Nat) : fldN ⟨o, a, b, c, m⟩ k = fldN ⟨0, a, b, c, m⟩ k := rfl

def AllOk (i : Ins) (k : Nat) : Prop := ∀ j, j < k → okF i j = true
theorem AllOk.succ {i : Ins} {k : Nat} (h : AllOk i k) (h2 : okF i k = true) : AllOk i (k + 1) := fun j hj => by
  by_cases e : j = k
  · rw [e]; exact h2
  · exact h j (by omega)
theorem rightB_all (o : Nat) (a b c m : Int) (h1 : 1 ≤ o) (h2 : o ≤ 30) (h : AllOk ⟨o, a, b, c, m⟩ 4) : rightB ⟨o, a, b, c, m⟩ = immB o m := by
  rw [rightB_in _ (by show (1 : Int) ≤ o; omega) (by show (o : Int) ≤ 30; omega), h 0 (by omega), h 1 (by omega), h 2 (by omega), h 3 (by omega)]
  rfl

theorem rightOutP (o a b c m : Int) (w : World) (h : o < 1 ∨ 30 < o) :
    Calls Tryd.prog 11 #[.agg #[.int .i64 o, .int .i64 a, .int .i64 b, .int .i64 c, .int .i64 m]] w fun e w' => e = .returned (.bool false) ∧ Below w.heap.size w w' := by
  rcases h with h | h
  · go_enter Tryd.func11, Tryd.ntmps11
    go_wp2_with fail
    go_ret
    exact ⟨rfl, ((Below.refl _ _).alloc (Nat.le_refl _) _)⟩
  · have h1 : decide (o < 1) = false := by simp; omega
    go_enter Tryd.func11, Tryd.ntmps11
    go_wp2_with fail
    go_ret
    exact ⟨rfl, ((Below.refl _ _).alloc (Nat.le_refl _) _)⟩

set_option maxRecDepth 100000 in
set_option maxHeartbeats 2000000 in
theorem rightInP (o : Nat) (a b c m : Int) (w : World) (h1 : 1 ≤ o) (h2 : o ≤ 30) (hF : FormsAt w) :
    Calls Tryd.prog 11 #[.agg #[.int .i64 o, .int .i64 a, .int .i64 b, .int .i64 c, .int .i64 m]] w fun e w' => e = .returned (.bool (rightB ⟨o, a, b, c, m⟩)) ∧ Below w.heap.size w w' := by
  obtain ⟨v, hv⟩ : ∃ v, rightB ⟨o, a, b, c, m⟩ = v := ⟨_, rfl⟩
  rw [hv]
  have HV := Lib.hid hv; clear hv
  obtain ⟨_, hc, _⟩ := hF.2 o (by omega)
  have HF := Lib.hid hF
  have hfs := hF.1
  clear hF
  have hop := opsN_lt o
  obtain ⟨q, hq⟩ : ∃ q, opsN o = q := ⟨_, rfl⟩
  rw [hq] at hc hop
  have HQ := Lib.hid hq; clear hq
  have d1 : decide ((o : Int) < 1) = false := by simp; omega
  have d2 : decide ((31 : Int) ≤ o) = false := by simp; omega
  have ix := idx4 a b c m
  go_enter Tryd.func11, Tryd.ntmps11
  go_wp2_with fail
  refine (fieldsOfP a b c m o _).mono ?_; rintro e w2 ⟨rfl, hb⟩
  have HF2 := Lib.hid ((Lib.hid (HF.out.keep ((Below.refl w.heap.size w).alloc (Nat.le_refl _) (.cells #[.int .i64 o, .int .i64 a, .int .i64 b, .int .i64 c, .int .i64 m] 23)))).out.keep hb)
  have c0 : w2.cell? ⟨w.heap.size, 0, none⟩ = some (.int .i64 o) := (hb.cell (p := ⟨_, _, none⟩) (by simp)).trans (alloc_cell _ _ _ _)
  have c4 : w2.cell? ⟨w.heap.size, 4, none⟩ = some (.int .i64 m) := (hb.cell (p := ⟨_, _, none⟩) (by simp)).trans (alloc_cell _ _ _ _)
  have HB2 := Lib.hid hb
  clear hb
  go_wp2_with fail
  go_loop [21] (fun x => ∃ k : Nat, k ≤ 4 ∧ x = .int .i64 k ∧ AllOk ⟨o, a, b, c, m⟩ k) (fun x => 4 - (intOf x).toNat)
  case atStart => exact ⟨0, by omega, rfl, fun j hj => by omega⟩
  case round =>
    obtain ⟨k, hk, rfl, hall⟩ := hrel
    have HA := Lib.hid hall; clear hall
    by_cases hlt : k < 4
    · have ixk := ix k hlt w2
      have HH := Lib.hid (hasP q k w2 hop (by omega))
      obtain ⟨n, hn⟩ : ∃ n, fldN ⟨0, a, b, c, m⟩ k = n := ⟨_, rfl⟩
      rw [hn] at ixk
      obtain ⟨is, his⟩ : ∃ is, hasB q k = is := ⟨_, rfl⟩
      rw [his] at HH
      have HR := Lib.hid (rightFieldP k n is w2 hlt)
      have HO : Hid (okF ⟨o, a, b, c, m⟩ k = fieldB k n is) := Lib.hid (by unfold okF; rw [fld_op, hn, ← his, ← HQ.out]; rfl)
      clear hn his ix
      cases hok : fieldB k n is
      all_goals
        rw [hok] at HR HO
        clear hok
        go_wp2_with fail
        refine HH.out.mono ?_; rintro e w' ⟨rfl, rfl⟩
        go_wp2_with fail
        refine HR.out.mono ?_; rintro e w' ⟨rfl, rfl⟩
        go_wp2_with fail
      · go_ret
        exact ⟨by rw [← HV.out, rightB_bad _ k hlt HO.out]; rfl, ((Below.refl _ _).alloc (Nat.le_refl _) _).trans (HB2.out.mono (by simp))⟩
      · go_round
        case rel => exact ⟨k + 1, by omega, by go_num, HA.out.succ HO.out⟩
        case measure => simp [intOf]; omega
    · obtain rfl : k = 4 := by omega
      have HI := Lib.hid (rightImmP o m w2)
      go_wp2_with fail
      refine HI.out.mono ?_; rintro e w' ⟨rfl, rfl⟩
      go_wp2_with fail
      go_ret
      exact ⟨by rw [← HV.out, rightB_all o a b c m h1 h2 HA.out]; rfl, ((Below.refl _ _).alloc (Nat.le_refl _) _).trans (HB2.out.mono (by simp))⟩

/-- Right. -/
theorem rightP (o a b c m : Int) (w : World) (hF : FormsAt w) :
    Calls Tryd.prog 11 #[.agg #[.int .i64 o, .int .i64 a, .int .i64 b, .int .i64 c, .int .i64 m]] w fun e w' => e = .returned (.bool (rightB ⟨o, a, b, c, m⟩)) ∧ Below w.heap.size w w' := by
  by_cases h : 1 ≤ o ∧ o ≤ 30
  · obtain ⟨n, rfl⟩ := Int.eq_ofNat_of_zero_le (a := o) (by omega)
    exact rightInP n a b c m w (by omega) (by omega) hF
  · rw [rightB_out ⟨o, a, b, c, m⟩ (by show o < 1 ∨ 30 < o; omega)]
    exact rightOutP o a b c m w (by omega)
end Go.Proofs.YtmnhnighlgpjmaaDoor
