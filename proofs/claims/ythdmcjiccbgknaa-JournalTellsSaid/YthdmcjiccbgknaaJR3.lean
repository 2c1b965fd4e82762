/-
  The reference of layer 7: Flush.
-/
import Derived.Test.YthdmcjiccbgknaaJR2
namespace Go.Proofs.Ythdmcjiccbgknaa
set_option linter.unusedVariables false
set_option linter.unusedSimpArgs false
open Go.RowKit

/-- The number of sure rows is set. -/
theorem RD.sure {B : Nat → Prop} {w : World} {lb db : Nat} {v : Value} {g : Lg} {s : Dk} (h : RD B w lb db v g s) (n : Nat) : RLOp B w (w.setCell ⟨lb, 3, none⟩ (.int .i64 n)) lb db v ⟨g.file, g.rows, n⟩ s := by
  obtain ⟨Bd, h1, h2, h3, h4, h5, h6⟩ := h
  have hs : (w.setCell ⟨lb, 3, none⟩ (.int .i64 n)).heap.size = w.heap.size := by simp [World.setCell]
  have hfr : Fr (fun k => k = lb) w (w.setCell ⟨lb, 3, none⟩ (.int .i64 n)) := fr_set (B := fun k => k = lb) rfl
  have hbx := blk_set (i := 3) h2.bx (.int .i64 n)
  refine ⟨⟨Bd, h1.fr hfr (fun k hk hb e => h3 (by rw [← e]; exact hb)), ⟨hbx, ?_, h2.ne, h2.big⟩, h3, fun k hk => ⟨(h4 k hk).1, .inl (h4 k hk).2⟩, fun k hk hb => .inl (h5 k (by rw [hs] at hk; exact hk) hb), .inl h6⟩, hfr.mono fun k hk e => by rw [e]; exact h6⟩
  exact World.ownsRow.kept h2.own (row := some lb) ⟨hfr.os, hfr.tape, hfr.output, hfr.size, fun k hk hn => hfr.block k hk (fun e => hn (by rw [e]))⟩ (.inr h2.ne)
/-- What the reference's Flush makes of its log and disk. -/
def Lg.rflush (g : Lg) (s : Dk) : Int × Lg × Dk :=
  if g.sure = g.rows.length then (if s.down = true then 10 else 0, g, s) else
  let r := runT [fun s => s.rflush g.file, fun s => s.rwrite g.file 0 (hdr (ext g.rows) g.rows.length), fun s => s.rflush g.file] s
  if r.1 = 0 then (0, ⟨g.file, g.rows, g.rows.length⟩, r.2) else (r.1, g, r.2)
def RFPost (B : Nat → Prop) (w : World) (lb db : Nat) (v : Value) (r : Int × Lg × Dk) (e : Ending) (w' : World) : Prop := e = .returned (.int .i64 r.1) ∧ RLOp B w w' lb db v r.2.1 r.2.2
set_option maxRecDepth 100000 in
set_option maxHeartbeats 16000000 in
theorem rFlushP {B : Nat → Prop} {w : World} {lb db : Nat} {v : Value} {g : Lg} {s : Dk} (h : RD B w lb db v g s) (hx : ext g.rows ≤ 1000000000) (hp : s.pend.length + 16 ≤ 1000000) (hps : ∀ s', s.rflush g.file = (0, s') → s'.pend.length + 16 ≤ 1000000) (hsu : g.sure ≤ 1000000000) :
    Calls Try.prog 15 #[.pointer (some ⟨lb, 0, none⟩)] w (RFPost B w lb db v (g.rflush s)) := by
  have hll := ext_len g.rows
  obtain ⟨A, cap, hv⟩ := h.lg.form
  have HR0 := Lib.hid (RLOp.refl h)
  have HV := Lib.hid hv
  have HCS : Hid (∀ w' s', Hid (RLOp B w w' lb db v g s') → w'.cell? ⟨lb, 0, none⟩ = some (.pointer (some ⟨db, 0, none⟩)) ∧ w'.cell? ⟨lb, 1, none⟩ = some (.int .i64 g.file) ∧ w'.cell? ⟨lb, 2, none⟩ = some (.slice A g.rows.length cap)) := Lib.hid fun w' s' h => by
    obtain ⟨d0, d1, d2, d3, _⟩ := h.out.at_.lg.cells
    rw [hv] at d2
    exact ⟨d0, d1, d2⟩
  have HF : Hid (∀ w' s', Hid (RLOp B w w' lb db v g s') → Calls Try.prog 44 #[.pointer (some ⟨db, 0, none⟩), .int .i64 g.file] w' fun e w2 => e = .returned (.int .i64 (s'.rflush g.file).1) ∧ RLOp B w w2 lb db v g (s'.rflush g.file).2) := Lib.hid fun w' s' h => hFlush h.out g.file
  have HW : Hid (∀ w' s', Hid (RLOp B w w' lb db v g s') → s'.pend.length + 16 ≤ 1000000 → Calls Try.prog 45 #[.pointer (some ⟨db, 0, none⟩), .int .i64 g.file, .int .i64 0, .string (hdr (ext g.rows) g.rows.length)] w' fun e w2 => e = .returned (.int .i64 (s'.rwrite g.file 0 (hdr (ext g.rows) g.rows.length)).1) ∧ RLOp B w w2 lb db v g (s'.rwrite g.file 0 (hdr (ext g.rows) g.rows.length)).2) := Lib.hid fun w' s' h hp' => hWrite h.out g.file 0 _ (by rw [hdr_size]; omega) (by rw [hdr_size]; exact hp')
  have HH : Hid (∀ w' s', Hid (RLOp B w w' lb db v g s') → Calls Try.prog 46 #[.slice A g.rows.length cap] w' fun e w2 => e = .returned (.string (hdr (ext g.rows) g.rows.length)) ∧ RLOp B w w2 lb db v g s') := Lib.hid fun w' s' h => (rHeaderP _ g.rows w' (by have := Row.of_own h.out.at_.lg.own; rw [hv] at this; exact this) (by omega)).mono fun e w2 ⟨a, b⟩ => ⟨a, h.out.below b⟩
  have HDW : Hid (∀ w' s', Hid (RLOp B w w' lb db v g s') → Calls Try.prog 43 #[.pointer (some ⟨db, 0, none⟩)] w' fun e w2 => e = .returned (.bool s'.down) ∧ RLOp B w w2 lb db v g s') := Lib.hid fun w' s' h => hDown h.out
  obtain ⟨c0, c1, c2, c3, _⟩ := h.lg.cells
  rw [hv] at c2
  have HDN : Hid (∀ n, RLOp B w (w.drewN n) lb db v g s) := Lib.hid fun n => HR0.out.below (below_drewN w n)
  have HPS := Lib.hid hps
  by_cases hs : g.sure = g.rows.length
  · have HR : Hid (g.rflush s = (if s.down = true then 10 else 0, g, s)) := Lib.hid (by unfold Lg.rflush; rw [if_pos hs])
    have k1 : ((g.sure : Int) == (g.rows.length : Int)) = true := by rw [beq_iff_eq, hs]
    generalize g.rflush s = R at *
    obtain ⟨N, hN⟩ : ∃ N, g.rows.length = N := ⟨_, rfl⟩
    obtain ⟨M, hM⟩ : ∃ M, g.sure = M := ⟨_, rfl⟩
    rw [hN] at c2 k1 HCS
    rw [hM] at c3 k1
    clear hs h hv hll hx hp hps hsu hN hM HF HW HH
    rcases hd : s.down
    all_goals
      rw [hd] at HR
      have HDX := Lib.hid (fun w' => HDW.out w' s)
      rw [hd] at HDX
      clear hd HDW
      go_enter Try.func15, Try.ntmps15
      go_wp2_with fail
      go_quiet (fail)
      have H := Lib.hid (HDN.out nq)
      clear c0 c1 c2 c3 HDN
      generalize w.drewN nq = W2 at H ⊢
      obtain ⟨c0, c1, c2⟩ := HCS.out _ _ H
      go_wp2_with fail
      refine (HDX.out _ H).mono ?_; rintro e w3 ⟨rfl, ho⟩
      have H3 := Lib.hid ho
      clear ho H c0 c1 c2
      go_wp2_with fail
      go_ret
      exact ⟨by rw [HR.out]; rfl, by rw [HR.out]; exact H3.out⟩
  · have HR : Hid (g.rflush s = if (runT [fun s => s.rflush g.file, fun s => s.rwrite g.file 0 (hdr (ext g.rows) g.rows.length), fun s => s.rflush g.file] s).1 = 0 then (0, ⟨g.file, g.rows, g.rows.length⟩, (runT [fun s => s.rflush g.file, fun s => s.rwrite g.file 0 (hdr (ext g.rows) g.rows.length), fun s => s.rflush g.file] s).2) else ((runT [fun s => s.rflush g.file, fun s => s.rwrite g.file 0 (hdr (ext g.rows) g.rows.length), fun s => s.rflush g.file] s).1, g, (runT [fun s => s.rflush g.file, fun s => s.rwrite g.file 0 (hdr (ext g.rows) g.rows.length), fun s => s.rflush g.file] s).2)) := Lib.hid (by unfold Lg.rflush; rw [if_neg hs])
    have k1 : ((g.sure : Int) == (g.rows.length : Int)) = false := by rw [beq_eq_false_iff_ne]; omega
    obtain ⟨Q, hQ⟩ : ∃ Q, runT [fun s => s.rflush g.file, fun s => s.rwrite g.file 0 (hdr (ext g.rows) g.rows.length), fun s => s.rflush g.file] s = Q := ⟨_, rfl⟩
    rw [hQ] at HR
    have HQ := Lib.hid hQ
    generalize g.rflush s = R at *
    obtain ⟨HD, hHD⟩ : ∃ HD, (hdr (ext g.rows) g.rows.length) = HD := ⟨_, rfl⟩
    rw [hHD] at HW HH
    have HHD := Lib.hid hHD
    obtain ⟨N, hN⟩ : ∃ N, g.rows.length = N := ⟨_, rfl⟩
    obtain ⟨M, hM⟩ : ∃ M, g.sure = M := ⟨_, rfl⟩
    obtain ⟨gf, hgf⟩ : ∃ gf, g.file = gf := ⟨_, rfl⟩
    rw [hN] at c2 k1 HCS HH HV
    rw [hM] at c3 k1
    rw [hgf] at c1 HCS HF HW
    have HN := Lib.hid hN
    have HGF := Lib.hid hgf
    clear hs h hv hll hx hp hps hsu hN hM hgf hHD hQ HDW
    go_enter Try.func15, Try.ntmps15
    go_wp2_with fail
    go_quiet (fail)
    have H := Lib.hid (HDN.out nq)
    clear c0 c1 c2 c3 HDN HR0
    generalize w.drewN nq = W2 at H ⊢
    -- step 0
    obtain ⟨⟨E0, S0⟩, hE⟩ : ∃ q, (s.rflush g.file) = q := ⟨_, rfl⟩
    have HE0 := Lib.hid hE
    have HDr := Lib.hid H.out.drew
    have HC : Hid (∀ w', Hid (RLOp B w w' lb db v g s) → Calls Try.prog 44 #[.pointer (some ⟨db, 0, none⟩), .int .i64 gf] w' fun e w2 => e = .returned (.int .i64 E0) ∧ RLOp B w w2 lb db v g S0) := Lib.hid fun w' h => by
      have := HF.out w' s h
      rw [HGF.out] at hE
      rw [hE] at this; exact this
    have CS0 := HCS.out _ _ HDr
    clear hE
    go_wp2_with fail
    go_region_held3 (fun w' => w'.cell? ⟨lb, 0, none⟩ = some (.pointer (some ⟨db, 0, none⟩)) ∧ w'.cell? ⟨lb, 1, none⟩ = some (.int .i64 gf) ∧ w'.cell? ⟨lb, 2, none⟩ = some (.slice A N cap)) (first | exact CS0 | exact HCS.out _ _ (by assumption) | fail) ((go_at_call 44; (with_reducible refine (HC.out _ (by assumption)).mono ?_); rintro e wk0 ⟨rfl, ho⟩; have HN0 := Lib.hid ho; clear ho))
    have H := HN0
    clear HDr CS0 HC HN0
    by_cases hE0 : E0 = 0
    · subst hE0
      have k2 : ((0 : Int) == 0) = true := rfl
      have HQ0 := Lib.hid ((runT_ok (t := fun s => s.rflush g.file) (T := [fun s => s.rwrite g.file 0 (hdr (ext g.rows) g.rows.length), fun s => s.rflush g.file]) HE0.out rfl).symm.trans HQ.out)
      clear k2
      have k2 : ((0 : Int) == 0) = true := rfl
      -- step 1
      obtain ⟨⟨E1, S1⟩, hE⟩ : ∃ q, (S0.rwrite g.file 0 (hdr (ext g.rows) g.rows.length)) = q := ⟨_, rfl⟩
      have HE1 := Lib.hid hE
      have HDr := Lib.hid H.out.drew
      have HC : Hid (∀ w', Hid (RLOp B w w' lb db v g S0) → Calls Try.prog 45 #[.pointer (some ⟨db, 0, none⟩), .int .i64 gf, .int .i64 0, .string HD] w' fun e w2 => e = .returned (.int .i64 E1) ∧ RLOp B w w2 lb db v g S1) := Lib.hid fun w' h => by
        have := HW.out w' S0 h (HPS.out _ (by rw [HE0.out]))
        rw [HHD.out, HGF.out] at hE
        rw [hE] at this; exact this
      have HHk : Hid (∀ w', Hid (RLOp B w w' lb db v g S0) → Calls Try.prog 46 #[.slice A N cap] w' fun e w2 => e = .returned (.string HD) ∧ RLOp B w w2 lb db v g S0) := Lib.hid fun w' h => HH.out w' S0 h
      have CS0 := HCS.out _ _ HDr
      clear hE
      go_wp2_with fail
      go_region_held3 (fun w' => w'.cell? ⟨lb, 0, none⟩ = some (.pointer (some ⟨db, 0, none⟩)) ∧ w'.cell? ⟨lb, 1, none⟩ = some (.int .i64 gf) ∧ w'.cell? ⟨lb, 2, none⟩ = some (.slice A N cap)) (first | exact CS0 | exact HCS.out _ _ (by assumption) | fail) (first | (go_at_call 46; (with_reducible refine (HHk.out _ (by assumption)).mono ?_); rintro e wh ⟨rfl, ho⟩; have HNh := Lib.hid ho; clear ho) | (go_at_call 45; (with_reducible refine (HC.out _ (by assumption)).mono ?_); rintro e wk1 ⟨rfl, ho⟩; have HN1 := Lib.hid ho; clear ho))
      have H := HN1
      clear HDr CS0 HC HN1 HHk HNh
      by_cases hE0 : E1 = 0
      · subst hE0
        have k2 : ((0 : Int) == 0) = true := rfl
        have HQ1 := Lib.hid ((runT_ok (t := fun s => s.rwrite g.file 0 (hdr (ext g.rows) g.rows.length)) (T := [fun s => s.rflush g.file]) HE1.out rfl).symm.trans HQ0.out)
        clear k2
        have k2 : ((0 : Int) == 0) = true := rfl
        -- step 2
        obtain ⟨⟨E2, S2⟩, hE⟩ : ∃ q, (S1.rflush g.file) = q := ⟨_, rfl⟩
        have HE2 := Lib.hid hE
        have HDr := Lib.hid H.out.drew
        have HC : Hid (∀ w', Hid (RLOp B w w' lb db v g S1) → Calls Try.prog 44 #[.pointer (some ⟨db, 0, none⟩), .int .i64 gf] w' fun e w2 => e = .returned (.int .i64 E2) ∧ RLOp B w w2 lb db v g S2) := Lib.hid fun w' h => by
          have := HF.out w' S1 h
          rw [HGF.out] at hE
          rw [hE] at this; exact this
        have CS0 := HCS.out _ _ HDr
        clear hE
        go_wp2_with fail
        go_region_held3 (fun w' => w'.cell? ⟨lb, 0, none⟩ = some (.pointer (some ⟨db, 0, none⟩)) ∧ w'.cell? ⟨lb, 1, none⟩ = some (.int .i64 gf) ∧ w'.cell? ⟨lb, 2, none⟩ = some (.slice A N cap)) (first | exact CS0 | exact HCS.out _ _ (by assumption) | fail) ((go_at_call 44; (with_reducible refine (HC.out _ (by assumption)).mono ?_); rintro e wk2 ⟨rfl, ho⟩; have HN2 := Lib.hid ho; clear ho))
        have H := HN2
        clear HDr CS0 HC HN2
        by_cases hE0 : E2 = 0
        · subst hE0
          have k2 : ((0 : Int) == 0) = true := rfl
          have HQ2 : Hid ((0, S2) = Q) := Lib.hid ((runT_ok (t := fun s => s.rflush g.file) (T := []) HE2.out rfl).symm.trans HQ1.out)
          have HR2 : Hid (R = (0, ⟨g.file, g.rows, N⟩, S2)) := Lib.hid (by rw [HR.out, ← HQ2.out, if_pos rfl, HN.out])
          obtain ⟨c0, c1, c2, c3, fz⟩ := H.out.at_.lg.cells
          have f3 := fz 3
          rw [HV.out] at c2
          have HS := Lib.hid (H.out.trans (H.out.at_.sure N))
          clear fz c0 c1
          go_wp2_with fail
          go_ret
          exact ⟨by rw [HR2.out]; rfl, by rw [HR2.out]; exact HS.out⟩
        · have k2 : (E2 == 0) = false := by rw [beq_eq_false_iff_ne]; exact hE0
          have HQ2 := Lib.hid ((runT_no (t := fun s => s.rflush g.file) (T := []) HE2.out hE0).symm.trans HQ1.out)
          have HR2 : Hid (R = (E2, g, S2)) := Lib.hid (by rw [HR.out, ← HQ2.out, if_neg hE0])
          clear hE0
          go_wp2_with fail
          go_ret
          exact ⟨by rw [HR2.out]; rfl, by rw [HR2.out]; exact H.out⟩
      · have k2 : (E1 == 0) = false := by rw [beq_eq_false_iff_ne]; exact hE0
        have HQ1 := Lib.hid ((runT_no (t := fun s => s.rwrite g.file 0 (hdr (ext g.rows) g.rows.length)) (T := [fun s => s.rflush g.file]) HE1.out hE0).symm.trans HQ0.out)
        have HR2 : Hid (R = (E1, g, S1)) := Lib.hid (by rw [HR.out, ← HQ1.out, if_neg hE0])
        clear hE0
        go_wp2_with fail
        go_ret
        exact ⟨by rw [HR2.out]; rfl, by rw [HR2.out]; exact H.out⟩
    · have k2 : (E0 == 0) = false := by rw [beq_eq_false_iff_ne]; exact hE0
      have HQ0 := Lib.hid ((runT_no (t := fun s => s.rflush g.file) (T := [fun s => s.rwrite g.file 0 (hdr (ext g.rows) g.rows.length), fun s => s.rflush g.file]) HE0.out hE0).symm.trans HQ.out)
      have HR2 : Hid (R = (E0, g, S0)) := Lib.hid (by rw [HR.out, ← HQ0.out, if_neg hE0])
      clear hE0
      go_wp2_with fail
      go_ret
      exact ⟨by rw [HR2.out]; rfl, by rw [HR2.out]; exact H.out⟩
end Go.Proofs.Ythdmcjiccbgknaa
