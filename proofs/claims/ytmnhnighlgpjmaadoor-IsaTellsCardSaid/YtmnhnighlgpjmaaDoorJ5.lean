/-
  The reference of isa: Right.
-/
import Derived.Test.YtmnhnighlgpjmaaDoorJ4
namespace Go.Proofs.YtmnhnighlgpjmaaDoor
set_option linter.unusedVariables false
set_option linter.unusedSimpArgs false
open Go.RowKit

def RRel (w : World) (i : Ins) (n : Nat) (v : Value) (x : Value) (wl : World) : Prop :=
  ∃ k : Nat, k ≤ 4 ∧ x = .int .i64 ((k + 1 : Nat) : Int) ∧ (∀ j, j < k → ¬ refBad i n j) ∧ wl.heap[w.heap.size]? = some (.cells #[.int .i64 i.op, .int .i64 i.a, .int .i64 i.b, .int .i64 i.c, .int .i64 i.m] 23) ∧ IRow wl v (opdL n) ∧ Below w.heap.size w wl
def RGoal (v : Bool) (w : World) (e : Ending) (w' : World) : Prop := e = .returned (.bool v) ∧ Below w.heap.size w w'

set_option maxRecDepth 100000 in
set_option maxHeartbeats 16000000 in
theorem rRightInP (n : Nat) (a b c m : Int) (w : World) (h1 : 1 ≤ n) (h2 : n ≤ 30) :
    Calls Tryd.prog 12 #[.agg #[.int .i64 n, .int .i64 a, .int .i64 b, .int .i64 c, .int .i64 m]] w (RGoal (rightB ⟨(n : Nat), a, b, c, m⟩) w) := by
  obtain ⟨v, hv⟩ : ∃ v, rightB ⟨(n : Nat), a, b, c, m⟩ = v := ⟨_, rfl⟩
  rw [hv]
  have HV := Lib.hid hv; clear hv
  have HB0 := Lib.hid (below_new w (.cells #[.int .i64 n, .int .i64 a, .int .i64 b, .int .i64 c, .int .i64 m] 23))
  have P0 := Lib.hid (block_new w (.cells #[.int .i64 n, .int .i64 a, .int .i64 b, .int .i64 c, .int .i64 m] 23))
  have d1 : decide ((n : Int) < 1) = false := decide_eq_false (by omega)
  have d2 : decide ((30 : Int) < n) = false := decide_eq_false (by omega)
  have d1' : decide (n < 1) = false := decide_eq_false (by omega)
  have d2' : decide (30 < n) = false := decide_eq_false (by omega)
  have HOP := Lib.hid (fun W => operandsP n W h1 h2)
  have HI1 := Lib.hid h1
  have HI2 := Lib.hid h2
  clear h1 h2
  go_enter Tryd.func12, Tryd.ntmps12
  go_wp2_with fail
  refine (HOP.out _).mono ?_; rintro e w1 ⟨vl, rfl, hrow, hb⟩
  have B1 := Lib.hid (HB0.out.trans (hb.mono HB0.out.size))
  have P1 := Lib.hid (blkKeep P0.out hb)
  have R1 := Lib.hid hrow
  clear hb hrow d1 d2 d1' d2'
  go_wp2_with fail
  go_loopw [4] (fun x wl => RRel w ⟨(n : Nat), a, b, c, m⟩ n vl x wl) (fun x _ => 6 - (intOf x).toNat)
  case atStart => exact ⟨0, by omega, rfl, fun j hj => absurd hj (Nat.not_lt_zero _), P1.out, R1.out, B1.out⟩
  case round =>
    clear B1 P1 R1
    obtain ⟨k, hk, rfl, hall, hp, hrow, hb⟩ := hrel
    have HA := Lib.hid hall
    have P2 := Lib.hid hp
    have R2 := Lib.hid hrow
    have B2 := Lib.hid hb
    clear hall hp hrow hb
    have p0 : wr.cell? ⟨w.heap.size, 0, none⟩ = some (.int .i64 n) := blk_cell P2.out 0
    have p1 : wr.cell? ⟨w.heap.size, 1, none⟩ = some (.int .i64 a) := blk_cell P2.out 1
    have p2 : wr.cell? ⟨w.heap.size, 2, none⟩ = some (.int .i64 b) := blk_cell P2.out 2
    have p3 : wr.cell? ⟨w.heap.size, 3, none⟩ = some (.int .i64 c) := blk_cell P2.out 3
    have p4 : wr.cell? ⟨w.heap.size, 4, none⟩ = some (.int .i64 m) := blk_cell P2.out 4
    by_cases hlt : k < 4
    · have HG := Lib.hid (fun W => rGetP (n : Nat) a b c m (k + 1) W (by omega))
      rw [Nat.add_sub_cancel] at HG
      obtain ⟨f, hf⟩ : ∃ f, fldN ⟨(n : Nat), a, b, c, m⟩ k = f := ⟨_, rfl⟩
      rw [hf] at HG
      have HH := Lib.hid (fun W (h : IRow W vl (opdL n)) => hasLP vl (opdL n) (k + 1) W h)
      rw [opd_has n (by have := HI2.out; omega) k hlt] at HH
      obtain ⟨h, hh⟩ : ∃ h, hasB (opsN n) k = h := ⟨_, rfl⟩
      rw [hh] at HH
      have HBAD : Hid ((h = false ∧ f ≠ 0) ∨ (k < 3 ∧ (f < 0 ∨ 15 < f)) → v = false) := Lib.hid (fun hx => by
        rw [← HV.out]
        exact ref_bad hlt (by unfold refBad; rw [hh, hf]; exact hx))
      have HOK : Hid (¬ ((h = false ∧ f ≠ 0) ∨ (k < 3 ∧ (f < 0 ∨ 15 < f))) → ∀ j, j < k + 1 → ¬ refBad ⟨(n : Nat), a, b, c, m⟩ n j) := Lib.hid (fun hx j hj => by
        by_cases e : j = k
        · subst e; unfold refBad; rw [hh, hf]; exact hx
        · exact HA.out j (by omega))
      clear hf hh
      obtain ⟨q, hq⟩ : ∃ q, k + 1 = q := ⟨_, rfl⟩
      rw [hq] at HG HH ⊢
      have HQ := Lib.hid hq
      clear hq
      have hq4 : decide ((q : Int) ≤ 4) = true := decide_eq_true (by have := HQ.out; omega)
      have hq4' : decide (q ≤ 4) = true := decide_eq_true (by have := HQ.out; omega)
      have HQ4 := Lib.hid (show q ≤ 4 by have := HQ.out; omega)
      have r2 : IntKind.i64.wrap ((q : Int) + 1) = q + 1 := IntWalk.i64_in _ (by have := HQ.out; omega)
      go_wp2_with fail
      refine (HG.out _).mono ?_; rintro e w2 ⟨rfl, hb⟩
      have P3 := Lib.hid (blkKeep P2.out hb)
      have R3 := Lib.hid (R2.out.keep hb)
      have B3 := Lib.hid (B2.out.trans (hb.mono B2.out.size))
      clear hb p0 p1 p2 p3 p4 hlt
      have HC := Lib.hid (HH.out _ R3.out)

      cases h
      · by_cases hz : f = 0
        · have ez : (f == 0) = true := beq_iff_eq.2 hz
          have ez2 : (f != 0) = false := by rw [bne, ez]; rfl
          have HZ := Lib.hid hz
          clear hz
          by_cases h3 : q < 4
          · have e3 : decide ((q : Int) < 4) = true := decide_eq_true (by omega)
            have e3' : decide (q < 4) = true := decide_eq_true h3
            have HK : Hid (k < 3) := Lib.hid (by have := HQ.out; omega)
            by_cases h0 : f < 0
            · have e0 : decide (f < 0) = true := decide_eq_true h0
              have H0 := Lib.hid h0
              clear h0 h3
              have HX : Hid (v = false) := Lib.hid (HBAD.out (.inr ⟨HK.out, .inl H0.out⟩))
              clear HBAD HOK
              go_wp2_with fail
              refine HC.out.mono ?_; rintro e w3 ⟨rfl, rfl⟩
              go_wp2_with fail
              go_ret
              exact ⟨by rw [HX.out]; rfl, B3.out⟩
            · have e0 : decide (f < 0) = false := decide_eq_false h0
              by_cases h15 : 15 < f
              · have e15 : decide (15 < f) = true := decide_eq_true h15
                have H15 := Lib.hid h15
                clear h0 h3 h15
                have HX : Hid (v = false) := Lib.hid (HBAD.out (.inr ⟨HK.out, .inr H15.out⟩))
                clear HBAD HOK
                go_wp2_with fail
                refine HC.out.mono ?_; rintro e w3 ⟨rfl, rfl⟩
                go_wp2_with fail
                go_ret
                exact ⟨by rw [HX.out]; rfl, B3.out⟩
              · have e15 : decide (15 < f) = false := decide_eq_false h15
                have H0 := Lib.hid h0
                have H15 := Lib.hid h15
                clear h0 h3 h15
                have HX := Lib.hid (HOK.out (fun hx => hx.elim (fun hx => hx.2 HZ.out) (fun hx => hx.2.elim H0.out H15.out)))
                clear HBAD HOK
                go_wp2_with fail
                refine HC.out.mono ?_; rintro e w3 ⟨rfl, rfl⟩
                go_wp2_with fail
                go_roundw
                case rel => exact ⟨q, HQ4.out, by go_num, by rw [← HQ.out]; exact HX.out, P3.out, R3.out, B3.out⟩
                case measure => have h9 := HQ4.out; simp only [intOf]; omega
          · have e3 : decide ((q : Int) < 4) = false := decide_eq_false (by omega)
            have e3' : decide (q < 4) = false := decide_eq_false h3
            have HK : Hid (¬ k < 3) := Lib.hid (by have := HQ.out; omega)
            clear h3
            have HX := Lib.hid (HOK.out (fun hx => hx.elim (fun hx => hx.2 HZ.out) (fun hx => HK.out hx.1)))
            clear HBAD HOK
            go_wp2_with fail
            refine HC.out.mono ?_; rintro e w3 ⟨rfl, rfl⟩
            go_wp2_with fail
            go_roundw
            case rel => exact ⟨q, HQ4.out, by go_num, by rw [← HQ.out]; exact HX.out, P3.out, R3.out, B3.out⟩
            case measure => have h9 := HQ4.out; simp only [intOf]; omega
        · have ez : (f == 0) = false := beq_eq_false_iff_ne.2 hz
          have ez2 : (f != 0) = true := by rw [bne, ez]; rfl
          have HZ := Lib.hid hz
          clear hz
          have HX : Hid (v = false) := Lib.hid (HBAD.out (.inl ⟨rfl, HZ.out⟩))
          clear HBAD HOK
          go_wp2_with fail
          refine HC.out.mono ?_; rintro e w3 ⟨rfl, rfl⟩
          go_wp2_with fail
          go_ret
          exact ⟨by rw [HX.out]; rfl, B3.out⟩
      · by_cases h3 : q < 4
        · have e3 : decide ((q : Int) < 4) = true := decide_eq_true (by omega)
          have e3' : decide (q < 4) = true := decide_eq_true h3
          have HK : Hid (k < 3) := Lib.hid (by have := HQ.out; omega)
          by_cases h0 : f < 0
          · have e0 : decide (f < 0) = true := decide_eq_true h0
            have H0 := Lib.hid h0
            clear h0 h3
            have HX : Hid (v = false) := Lib.hid (HBAD.out (.inr ⟨HK.out, .inl H0.out⟩))
            clear HBAD HOK
            go_wp2_with fail
            refine HC.out.mono ?_; rintro e w3 ⟨rfl, rfl⟩
            go_wp2_with fail
            go_ret
            exact ⟨by rw [HX.out]; rfl, B3.out⟩
          · have e0 : decide (f < 0) = false := decide_eq_false h0
            by_cases h15 : 15 < f
            · have e15 : decide (15 < f) = true := decide_eq_true h15
              have H15 := Lib.hid h15
              clear h0 h3 h15
              have HX : Hid (v = false) := Lib.hid (HBAD.out (.inr ⟨HK.out, .inr H15.out⟩))
              clear HBAD HOK
              go_wp2_with fail
              refine HC.out.mono ?_; rintro e w3 ⟨rfl, rfl⟩
              go_wp2_with fail
              go_ret
              exact ⟨by rw [HX.out]; rfl, B3.out⟩
            · have e15 : decide (15 < f) = false := decide_eq_false h15
              have H0 := Lib.hid h0
              have H15 := Lib.hid h15
              clear h0 h3 h15
              have HX := Lib.hid (HOK.out (fun hx => hx.elim (fun hx => Bool.noConfusion hx.1) (fun hx => hx.2.elim H0.out H15.out)))
              clear HBAD HOK
              go_wp2_with fail
              refine HC.out.mono ?_; rintro e w3 ⟨rfl, rfl⟩
              go_wp2_with fail
              go_roundw
              case rel => exact ⟨q, HQ4.out, by go_num, by rw [← HQ.out]; exact HX.out, P3.out, R3.out, B3.out⟩
              case measure => have h9 := HQ4.out; simp only [intOf]; omega
        · have e3 : decide ((q : Int) < 4) = false := decide_eq_false (by omega)
          have e3' : decide (q < 4) = false := decide_eq_false h3
          have HK : Hid (¬ k < 3) := Lib.hid (by have := HQ.out; omega)
          clear h3
          have HX := Lib.hid (HOK.out (fun hx => hx.elim (fun hx => Bool.noConfusion hx.1) (fun hx => HK.out hx.1)))
          clear HBAD HOK
          go_wp2_with fail
          refine HC.out.mono ?_; rintro e w3 ⟨rfl, rfl⟩
          go_wp2_with fail
          go_roundw
          case rel => exact ⟨q, HQ4.out, by go_num, by rw [← HQ.out]; exact HX.out, P3.out, R3.out, B3.out⟩
          case measure => have h9 := HQ4.out; simp only [intOf]; omega

    · obtain rfl : k = 4 := by omega
      clear hlt
      have HR : Hid ((i32B m && immB (n : Nat) m) = v) := Lib.hid (by rw [← HV.out]; exact (ref_good HI1.out HI2.out HA.out).symm)
      obtain ⟨imm, him⟩ : ∃ z, immB (n : Nat) m = z := ⟨_, rfl⟩
      rw [him] at HR
      have HIM := Lib.hid him
      clear him
      have hq4 : decide ((5 : Int) ≤ 4) = false := by decide
      by_cases n19 : n = 19
      · have t19 : ((n : Int) == 19) = true := beq_iff_eq.2 (by omega)
        have HE : Hid (immB (n : Nat) m = decide (m % 8 = 0)) := Lib.hid (by unfold immB; rw [if_neg (by omega), if_neg (by omega), if_pos (by omega)])
        by_cases h8 : m % 8 = 0
        · have t8 : (m.tmod 8 == 0) = true := by simpa using (tmod8 m).2 h8
          have t8b : (m.tmod 8 != 0) = false := by rw [bne, t8]; rfl
          have HY : Hid (imm = true) := Lib.hid (by rw [← HIM.out, HE.out, decide_eq_true h8])
          clear h8
          by_cases hlo : -2147483648 ≤ m
          · have el : decide (-2147483648 ≤ m) = true := decide_eq_true hlo
            have HX : Hid (v = decide (m ≤ 2147483647)) := Lib.hid (by rw [← HR.out, HY.out, Bool.and_true]; unfold i32B; exact decide_eq_decide.2 ⟨fun h => h.2, fun h => ⟨hlo, h⟩⟩)
            clear hlo
            go_wp2_with fail
            go_ret
            exact ⟨by rw [HX.out]; rfl, B2.out⟩
          · have el : decide (-2147483648 ≤ m) = false := decide_eq_false hlo
            have HX : Hid (v = false) := Lib.hid (by rw [← HR.out]; unfold i32B; rw [decide_eq_false (by omega)]; rfl)
            clear hlo
            go_wp2_with fail
            go_ret
            exact ⟨by rw [HX.out]; rfl, B2.out⟩
        · have t8 : (m.tmod 8 == 0) = false := by simpa using fun h => h8 ((tmod8 m).1 h)
          have t8b : (m.tmod 8 != 0) = true := by rw [bne, t8]; rfl
          have H8 := Lib.hid h8
          clear h8
          have HX : Hid (v = false) := Lib.hid (by rw [← HR.out, ← HIM.out]; rw [HE.out, decide_eq_false H8.out, Bool.and_false])
          go_wp2_with fail
          go_ret
          exact ⟨by rw [HX.out]; rfl, B2.out⟩
      have t19 : ((n : Int) == 19) = false := beq_eq_false_iff_ne.2 (by omega)
      by_cases n20 : n = 20
      · have t20 : ((n : Int) == 20) = true := beq_iff_eq.2 (by omega)
        have HE : Hid (immB (n : Nat) m = decide (m % 8 = 0)) := Lib.hid (by unfold immB; rw [if_neg (by omega), if_neg (by omega), if_pos (by omega)])
        by_cases h8 : m % 8 = 0
        · have t8 : (m.tmod 8 == 0) = true := by simpa using (tmod8 m).2 h8
          have t8b : (m.tmod 8 != 0) = false := by rw [bne, t8]; rfl
          have HY : Hid (imm = true) := Lib.hid (by rw [← HIM.out, HE.out, decide_eq_true h8])
          clear h8
          by_cases hlo : -2147483648 ≤ m
          · have el : decide (-2147483648 ≤ m) = true := decide_eq_true hlo
            have HX : Hid (v = decide (m ≤ 2147483647)) := Lib.hid (by rw [← HR.out, HY.out, Bool.and_true]; unfold i32B; exact decide_eq_decide.2 ⟨fun h => h.2, fun h => ⟨hlo, h⟩⟩)
            clear hlo
            go_wp2_with fail
            go_ret
            exact ⟨by rw [HX.out]; rfl, B2.out⟩
          · have el : decide (-2147483648 ≤ m) = false := decide_eq_false hlo
            have HX : Hid (v = false) := Lib.hid (by rw [← HR.out]; unfold i32B; rw [decide_eq_false (by omega)]; rfl)
            clear hlo
            go_wp2_with fail
            go_ret
            exact ⟨by rw [HX.out]; rfl, B2.out⟩
        · have t8 : (m.tmod 8 == 0) = false := by simpa using fun h => h8 ((tmod8 m).1 h)
          have t8b : (m.tmod 8 != 0) = true := by rw [bne, t8]; rfl
          have H8 := Lib.hid h8
          clear h8
          have HX : Hid (v = false) := Lib.hid (by rw [← HR.out, ← HIM.out]; rw [HE.out, decide_eq_false H8.out, Bool.and_false])
          go_wp2_with fail
          go_ret
          exact ⟨by rw [HX.out]; rfl, B2.out⟩
      have t20 : ((n : Int) == 20) = false := beq_eq_false_iff_ne.2 (by omega)
      by_cases n21 : n = 21
      · have t21 : ((n : Int) == 21) = true := beq_iff_eq.2 (by omega)
        have HE : Hid (immB (n : Nat) m = decide (m % 8 = 0)) := Lib.hid (by unfold immB; rw [if_neg (by omega), if_neg (by omega), if_pos (by omega)])
        by_cases h8 : m % 8 = 0
        · have t8 : (m.tmod 8 == 0) = true := by simpa using (tmod8 m).2 h8
          have t8b : (m.tmod 8 != 0) = false := by rw [bne, t8]; rfl
          have HY : Hid (imm = true) := Lib.hid (by rw [← HIM.out, HE.out, decide_eq_true h8])
          clear h8
          by_cases hlo : -2147483648 ≤ m
          · have el : decide (-2147483648 ≤ m) = true := decide_eq_true hlo
            have HX : Hid (v = decide (m ≤ 2147483647)) := Lib.hid (by rw [← HR.out, HY.out, Bool.and_true]; unfold i32B; exact decide_eq_decide.2 ⟨fun h => h.2, fun h => ⟨hlo, h⟩⟩)
            clear hlo
            go_wp2_with fail
            go_ret
            exact ⟨by rw [HX.out]; rfl, B2.out⟩
          · have el : decide (-2147483648 ≤ m) = false := decide_eq_false hlo
            have HX : Hid (v = false) := Lib.hid (by rw [← HR.out]; unfold i32B; rw [decide_eq_false (by omega)]; rfl)
            clear hlo
            go_wp2_with fail
            go_ret
            exact ⟨by rw [HX.out]; rfl, B2.out⟩
        · have t8 : (m.tmod 8 == 0) = false := by simpa using fun h => h8 ((tmod8 m).1 h)
          have t8b : (m.tmod 8 != 0) = true := by rw [bne, t8]; rfl
          have H8 := Lib.hid h8
          clear h8
          have HX : Hid (v = false) := Lib.hid (by rw [← HR.out, ← HIM.out]; rw [HE.out, decide_eq_false H8.out, Bool.and_false])
          go_wp2_with fail
          go_ret
          exact ⟨by rw [HX.out]; rfl, B2.out⟩
      have t21 : ((n : Int) == 21) = false := beq_eq_false_iff_ne.2 (by omega)
      by_cases n24 : n = 24
      · have t24 : ((n : Int) == 24) = true := beq_iff_eq.2 (by omega)
        have HE : Hid (immB (n : Nat) m = decide (m % 8 = 0)) := Lib.hid (by unfold immB; rw [if_neg (by omega), if_neg (by omega), if_pos (by omega)])
        by_cases h8 : m % 8 = 0
        · have t8 : (m.tmod 8 == 0) = true := by simpa using (tmod8 m).2 h8
          have t8b : (m.tmod 8 != 0) = false := by rw [bne, t8]; rfl
          have HY : Hid (imm = true) := Lib.hid (by rw [← HIM.out, HE.out, decide_eq_true h8])
          clear h8
          by_cases hlo : -2147483648 ≤ m
          · have el : decide (-2147483648 ≤ m) = true := decide_eq_true hlo
            have HX : Hid (v = decide (m ≤ 2147483647)) := Lib.hid (by rw [← HR.out, HY.out, Bool.and_true]; unfold i32B; exact decide_eq_decide.2 ⟨fun h => h.2, fun h => ⟨hlo, h⟩⟩)
            clear hlo
            go_wp2_with fail
            go_ret
            exact ⟨by rw [HX.out]; rfl, B2.out⟩
          · have el : decide (-2147483648 ≤ m) = false := decide_eq_false hlo
            have HX : Hid (v = false) := Lib.hid (by rw [← HR.out]; unfold i32B; rw [decide_eq_false (by omega)]; rfl)
            clear hlo
            go_wp2_with fail
            go_ret
            exact ⟨by rw [HX.out]; rfl, B2.out⟩
        · have t8 : (m.tmod 8 == 0) = false := by simpa using fun h => h8 ((tmod8 m).1 h)
          have t8b : (m.tmod 8 != 0) = true := by rw [bne, t8]; rfl
          have H8 := Lib.hid h8
          clear h8
          have HX : Hid (v = false) := Lib.hid (by rw [← HR.out, ← HIM.out]; rw [HE.out, decide_eq_false H8.out, Bool.and_false])
          go_wp2_with fail
          go_ret
          exact ⟨by rw [HX.out]; rfl, B2.out⟩
      have t24 : ((n : Int) == 24) = false := beq_eq_false_iff_ne.2 (by omega)
      by_cases n25 : n = 25
      · have t25 : ((n : Int) == 25) = true := beq_iff_eq.2 (by omega)
        have HE : Hid (immB (n : Nat) m = decide (m % 8 = 0)) := Lib.hid (by unfold immB; rw [if_neg (by omega), if_neg (by omega), if_pos (by omega)])
        by_cases h8 : m % 8 = 0
        · have t8 : (m.tmod 8 == 0) = true := by simpa using (tmod8 m).2 h8
          have t8b : (m.tmod 8 != 0) = false := by rw [bne, t8]; rfl
          have HY : Hid (imm = true) := Lib.hid (by rw [← HIM.out, HE.out, decide_eq_true h8])
          clear h8
          by_cases hlo : -2147483648 ≤ m
          · have el : decide (-2147483648 ≤ m) = true := decide_eq_true hlo
            have HX : Hid (v = decide (m ≤ 2147483647)) := Lib.hid (by rw [← HR.out, HY.out, Bool.and_true]; unfold i32B; exact decide_eq_decide.2 ⟨fun h => h.2, fun h => ⟨hlo, h⟩⟩)
            clear hlo
            go_wp2_with fail
            go_ret
            exact ⟨by rw [HX.out]; rfl, B2.out⟩
          · have el : decide (-2147483648 ≤ m) = false := decide_eq_false hlo
            have HX : Hid (v = false) := Lib.hid (by rw [← HR.out]; unfold i32B; rw [decide_eq_false (by omega)]; rfl)
            clear hlo
            go_wp2_with fail
            go_ret
            exact ⟨by rw [HX.out]; rfl, B2.out⟩
        · have t8 : (m.tmod 8 == 0) = false := by simpa using fun h => h8 ((tmod8 m).1 h)
          have t8b : (m.tmod 8 != 0) = true := by rw [bne, t8]; rfl
          have H8 := Lib.hid h8
          clear h8
          have HX : Hid (v = false) := Lib.hid (by rw [← HR.out, ← HIM.out]; rw [HE.out, decide_eq_false H8.out, Bool.and_false])
          go_wp2_with fail
          go_ret
          exact ⟨by rw [HX.out]; rfl, B2.out⟩
      have t25 : ((n : Int) == 25) = false := beq_eq_false_iff_ne.2 (by omega)
      by_cases n22 : n = 22
      · have t22 : ((n : Int) == 22) = true := beq_iff_eq.2 (by omega)
        have HE : Hid (immB (n : Nat) m = decide (m % 8 = 0 ∧ -512 ≤ m ∧ m ≤ 504)) := Lib.hid (by unfold immB; rw [if_neg (by omega), if_pos (by omega)])
        by_cases h8 : m % 8 = 0
        · have t8 : (m.tmod 8 == 0) = true := by simpa using (tmod8 m).2 h8
          have t8b : (m.tmod 8 != 0) = false := by rw [bne, t8]; rfl
          by_cases hl : m < -512
          · have el : decide (m < -512) = true := decide_eq_true hl
            have HX : Hid (v = false) := Lib.hid (by rw [← HR.out, ← HIM.out]; rw [HE.out, decide_eq_false (by omega), Bool.and_false])
            go_wp2_with fail
            go_ret
            exact ⟨by rw [HX.out]; rfl, B2.out⟩
          · have el : decide (m < -512) = false := decide_eq_false hl
            by_cases hu : 504 < m
            · have eu : decide (504 < m) = true := decide_eq_true hu
              have HX : Hid (v = false) := Lib.hid (by rw [← HR.out, ← HIM.out]; rw [HE.out, decide_eq_false (by omega), Bool.and_false])
              go_wp2_with fail
              go_ret
              exact ⟨by rw [HX.out]; rfl, B2.out⟩
            · have eu : decide (504 < m) = false := decide_eq_false hu
              have HY : Hid (imm = true) := Lib.hid (by rw [← HIM.out, HE.out, decide_eq_true ⟨h8, by omega, by omega⟩])
              have elo : decide (-2147483648 ≤ m) = true := decide_eq_true (by omega)
              have HX : Hid (v = decide (m ≤ 2147483647)) := Lib.hid (by rw [← HR.out, HY.out, Bool.and_true]; unfold i32B; exact decide_eq_decide.2 ⟨fun h => h.2, fun h => ⟨by omega, h⟩⟩)
              clear h8 hl hu
              go_wp2_with fail
              go_ret
              exact ⟨by rw [HX.out]; rfl, B2.out⟩
        · have t8 : (m.tmod 8 == 0) = false := by simpa using fun h => h8 ((tmod8 m).1 h)
          have t8b : (m.tmod 8 != 0) = true := by rw [bne, t8]; rfl
          have H8 := Lib.hid h8
          clear h8
          have HX : Hid (v = false) := Lib.hid (by rw [← HR.out, ← HIM.out]; rw [HE.out, decide_eq_false (fun h => H8.out h.1), Bool.and_false])
          go_wp2_with fail
          go_ret
          exact ⟨by rw [HX.out]; rfl, B2.out⟩
      have t22 : ((n : Int) == 22) = false := beq_eq_false_iff_ne.2 (by omega)
      by_cases n30 : n = 30
      · have t30 : ((n : Int) == 30) = true := beq_iff_eq.2 (by omega)
        have HE : Hid (immB (n : Nat) m = decide (0 ≤ m ∧ m < 8)) := Lib.hid (by unfold immB; rw [if_pos (by omega)])
        by_cases hl : 0 ≤ m
        · have el : decide (0 ≤ m) = true := decide_eq_true hl
          have HX : Hid (v = decide (m ≤ 7)) := Lib.hid (by
            rw [← HR.out, ← HIM.out, HE.out]; unfold i32B; rw [← Bool.decide_and]; exact decide_eq_decide.2 (by omega))
          clear hl
          go_wp2_with fail
          go_ret
          exact ⟨by rw [HX.out]; rfl, B2.out⟩
        · have el : decide (0 ≤ m) = false := decide_eq_false hl
          have HX : Hid (v = false) := Lib.hid (by rw [← HR.out, ← HIM.out]; rw [HE.out, decide_eq_false (by omega), Bool.and_false])
          go_wp2_with fail
          go_ret
          exact ⟨by rw [HX.out]; rfl, B2.out⟩
      have t30 : ((n : Int) == 30) = false := beq_eq_false_iff_ne.2 (by omega)
      have HY : Hid (imm = true) := Lib.hid (by rw [← HIM.out]; unfold immB; rw [if_neg (by omega), if_neg (by omega), if_neg (by omega)])
      clear n19 n20 n21 n22 n24 n25 n30
      by_cases hlo : -2147483648 ≤ m
      · have el : decide (-2147483648 ≤ m) = true := decide_eq_true hlo
        have HX : Hid (v = decide (m ≤ 2147483647)) := Lib.hid (by rw [← HR.out, HY.out, Bool.and_true]; unfold i32B; exact decide_eq_decide.2 ⟨fun h => h.2, fun h => ⟨hlo, h⟩⟩)
        clear hlo
        go_wp2_with fail
        go_ret
        exact ⟨by rw [HX.out]; rfl, B2.out⟩
      · have el : decide (-2147483648 ≤ m) = false := decide_eq_false hlo
        have HX : Hid (v = false) := Lib.hid (by rw [← HR.out]; unfold i32B; rw [decide_eq_false (by omega)]; rfl)
        clear hlo
        go_wp2_with fail
        go_ret
        exact ⟨by rw [HX.out]; rfl, B2.out⟩

set_option maxRecDepth 100000 in
set_option maxHeartbeats 1000000 in
theorem rRightP (o a b c m : Int) (w : World) :
    Calls Tryd.prog 12 #[.agg #[.int .i64 o, .int .i64 a, .int .i64 b, .int .i64 c, .int .i64 m]] w (RGoal (rightB ⟨o, a, b, c, m⟩) w) := by
  by_cases h : 1 ≤ o ∧ o ≤ 30
  · obtain ⟨n, rfl⟩ := Int.eq_ofNat_of_zero_le (a := o) (by omega)
    exact rRightInP n a b c m w (by omega) (by omega)
  · rw [rightB_out _ (by show o < 1 ∨ 30 < o; omega)]
    have HB0 := Lib.hid (below_new w (.cells #[.int .i64 o, .int .i64 a, .int .i64 b, .int .i64 c, .int .i64 m] 23))
    by_cases h1 : o < 1
    · have d1 : decide (o < 1) = true := decide_eq_true h1
      clear h
      go_enter Tryd.func12, Tryd.ntmps12
      go_wp2_with fail
      go_ret
      exact ⟨rfl, HB0.out⟩
    · have d1 : decide (o < 1) = false := decide_eq_false h1
      have h2 : 30 < o := by omega
      have d2 : decide (30 < o) = true := decide_eq_true h2
      clear h
      go_enter Tryd.func12, Tryd.ntmps12
      go_wp2_with fail
      go_ret
      exact ⟨rfl, HB0.out⟩
end Go.Proofs.YtmnhnighlgpjmaaDoor
