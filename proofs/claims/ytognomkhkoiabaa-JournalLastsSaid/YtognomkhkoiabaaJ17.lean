/-
  Package journal: Flush.
-/
import Derived.Test.YtognomkhkoiabaaJ16
import Derived.Deep.QuietTactic
import Derived.BigQuiet
import Derived.BigRegion
namespace Go.Proofs.Ytognomkhkoiabaa
set_option linter.unusedVariables false
set_option linter.unusedSimpArgs false
open Go.RowKit

theorem LD.tight {B : Nat → Prop} {w : World} {lb db : Nat} {v : Value} {g : Lg} {s : Dk} (h : LD B w lb db v g s) : LD (fun k => B k ∧ k < w.heap.size) w lb db v g s := h.mono fun k hk hb => ⟨hb, hk⟩
theorem LOp.mono {B C : Nat → Prop} {w w' : World} {lb db : Nat} {v : Value} {g : Lg} {s : Dk} (h : LOp B w w' lb db v g s) (hB : ∀ k, k < w.heap.size → B k → C k) : LOp C w w' lb db v g s :=
  ⟨h.at_.mono fun k hk hx => by
    rcases hx with hx | hx
    · by_cases hl : k < w.heap.size
      · exact .inl (hB k hl hx)
      · exact .inr ⟨by omega, hk⟩
    · exact .inr hx, h.fr.mono hB⟩
theorem LOp.loose {B : Nat → Prop} {w w' : World} {lb db n : Nat} {v : Value} {g : Lg} {s : Dk} (h : LOp (fun k => B k ∧ k < n) w w' lb db v g s) : LOp B w w' lb db v g s := h.mono fun k _ h => h.1
/-- The number of sure rows is set. -/
theorem LD.sure {B : Nat → Prop} {w : World} {lb db : Nat} {v : Value} {g : Lg} {s : Dk} (h : LD B w lb db v g s) (n : Nat) : LOp B w (w.setCell ⟨lb, 3, none⟩ (.int .i64 n)) lb db v ⟨g.file, g.rows, n⟩ s := by
  obtain ⟨Bd, h1, h2, h3, h4, h5, h6⟩ := h
  have ho : ∀ k, k ≠ lb → (w.setCell ⟨lb, 3, none⟩ (.int .i64 n)).heap[k]? = w.heap[k]? := fun k hk => Below.heap_setCell w ⟨lb, 3, none⟩ _ k hk
  have hs : (w.setCell ⟨lb, 3, none⟩ (.int .i64 n)).heap.size = w.heap.size := by simp [World.setCell]
  have hfr : Fr (fun k => k = lb) w (w.setCell ⟨lb, 3, none⟩ (.int .i64 n)) := fr_set (B := fun k => k = lb) rfl
  have hbx := blk_set (i := 3) h2.bx (.int .i64 n)
  refine ⟨⟨Bd, h1.fr hfr (fun k hk hb e => h3 (by rw [← e]; exact hb)), ⟨hbx, ?_, h2.ne, h2.big⟩, h3, fun k hk => ⟨(h4 k hk).1, .inl (h4 k hk).2⟩, fun k hk hb => .inl (h5 k (by rw [hs] at hk; exact hk) hb), .inl h6⟩, hfr.mono fun k hk e => by rw [e]; exact h6⟩
  exact World.ownsRow.kept h2.own (row := some lb) ⟨hfr.os, hfr.tape, hfr.output, hfr.size, fun k hk hn => hfr.block k hk (fun e => hn (by rw [e]))⟩ (.inr h2.ne)
/-- What Flush makes of a log and its disk. -/
def Lg.flush (g : Lg) (s : Dk) : Int × Lg × Dk :=
  if g.sure = g.rows.length then (if s.down = true then 10 else 0, g, s) else
  let r := runT [fun s => s.flush g.file, fun s => s.write g.file 0 (hdr (ext g.rows) g.rows.length), fun s => s.flush g.file] s
  if r.1 = 0 then (0, ⟨g.file, g.rows, g.rows.length⟩, r.2) else (r.1, g, r.2)
def FPost (B : Nat → Prop) (w : World) (lb db : Nat) (v : Value) (r : Int × Lg × Dk) (e : Ending) (w' : World) : Prop := e = .returned (.int .i64 r.1) ∧ LOp B w w' lb db v r.2.1 r.2.2
set_option maxRecDepth 100000 in
set_option maxHeartbeats 8000000 in
theorem flushP' {B : Nat → Prop} {w : World} {lb db : Nat} {v : Value} {g : Lg} {s : Dk} (h : LD B w lb db v g s) (hx : ext g.rows ≤ 1000000000) (hp : s.pend.length + 16 ≤ 1000000) (hsu : g.sure ≤ 1000000000) :
    Calls Try.prog 10 #[.pointer (some ⟨lb, 0, none⟩)] w (FPost B w lb db v (g.flush s)) := by
  have hll := ext_len g.rows
  have ht := h.tight
  have hbx := Blk.new w tL #[.pointer (some ⟨lb, 0, none⟩)]
  have hb1 := below_new w (.cells #[.pointer (some ⟨lb, 0, none⟩)] tL)
  have HT := Lib.hid ht
  obtain ⟨A, cap, hv⟩ := h.lg.form
  have HV := Lib.hid hv
  have hlt := h.lg.bx.lt
  obtain ⟨W1, hW1⟩ : ∃ W1, w.alloc (.cells #[.pointer (some ⟨lb, 0, none⟩)] tL) = W1 := ⟨_, rfl⟩
  rw [hW1] at hbx hb1
  have HBX := Lib.hid hbx
  have HB1 := Lib.hid hb1
  have hT1 := ht.below hb1
  obtain ⟨c0, c1, c2, c3, c4, _⟩ := hT1.lg.cells
  have HT1 := Lib.hid hT1
  rw [hv] at c2
  have b0 := hbx.cell 0
  simp at b0
  have HX := Lib.hid hx
  have HP := Lib.hid hp
  by_cases hs : g.sure = g.rows.length
  · have HR : Hid (g.flush s = (if s.down = true then 10 else 0, g, s)) := Lib.hid (by unfold Lg.flush; rw [if_pos hs])
    have k1 : ((g.sure : Int) == (g.rows.length : Int)) = true := by rw [beq_iff_eq, hs]
    generalize g.flush s = R at *
    have HI : Hid (∀ n, Calls Try.prog 25 #[.pointer (some ⟨lb, 0, none⟩)] (W1.drewN n) fun e w' => e = .returned (.int .i64 (if s.down = true then 10 else 0)) ∧ W1.drewN n = w') := Lib.hid fun n => gIdle (HT1.out.below (below_drewN W1 n))
    have HE : Hid (∀ n, LOp B w (W1.drewN n) lb db v g s) := Lib.hid fun n => ((LOp.refl h).below HB1.out).below (below_drewN W1 n)
    obtain ⟨I, hI⟩ : ∃ I : Int, (if s.down = true then (10 : Int) else 0) = I := ⟨_, rfl⟩
    rw [hI] at HR HI
    obtain ⟨N, hN⟩ : ∃ N, g.rows.length = N := ⟨_, rfl⟩
    rw [hN] at c2 k1
    obtain ⟨M, hM⟩ : ∃ M, g.sure = M := ⟨_, rfl⟩
    rw [hM] at c3 k1
    clear h ht hbx hb1 hT1 hx hp hs hll hN hM hI hv hsu
    go_enter Try.func10, Try.ntmps10
    go_wp2_with fail
    clear hW1
    go_quiet (fail)
    go_wp2_with fail
    refine (HI.out _).mono ?_; rintro e w2 ⟨rfl, rfl⟩
    go_wp2_with fail
    go_ret
    exact ⟨by rw [HR.out]; rfl, by rw [HR.out]; exact HE.out _⟩
  · have HR : Hid (g.flush s = if (runT [fun s => s.flush g.file, fun s => s.write g.file 0 (hdr (ext g.rows) g.rows.length), fun s => s.flush g.file] s).1 = 0 then (0, ⟨g.file, g.rows, g.rows.length⟩, (runT [fun s => s.flush g.file, fun s => s.write g.file 0 (hdr (ext g.rows) g.rows.length), fun s => s.flush g.file] s).2) else ((runT [fun s => s.flush g.file, fun s => s.write g.file 0 (hdr (ext g.rows) g.rows.length), fun s => s.flush g.file] s).1, g, (runT [fun s => s.flush g.file, fun s => s.write g.file 0 (hdr (ext g.rows) g.rows.length), fun s => s.flush g.file] s).2)) := Lib.hid (by unfold Lg.flush; rw [if_neg hs])
    have k1 : ((g.sure : Int) == (g.rows.length : Int)) = false := by rw [beq_eq_false_iff_ne]; omega
    generalize g.flush s = R at *
    have HA : Hid (∀ n, LD (fun k => B k ∧ k < w.heap.size) (W1.drewN n) lb db v g s ∧ Blk (W1.drewN n) w.heap.size tL #[.pointer (some ⟨lb, 0, none⟩)] ∧ Below w.heap.size w (W1.drewN n)) := Lib.hid fun n => ⟨HT1.out.below (below_drewN W1 n), HBX.out.below (below_drewN W1 n) HBX.out.lt, HB1.out.trans ((below_drewN W1 n).mono HB1.out.size)⟩
    obtain ⟨N, hN⟩ : ∃ N, g.rows.length = N := ⟨_, rfl⟩
    rw [hN] at c2 k1
    obtain ⟨M, hM⟩ : ∃ M, g.sure = M := ⟨_, rfl⟩
    rw [hM] at c3 k1
    have HN := Lib.hid hN
    clear h ht hbx hb1 hT1 hx hp hs hll hN hM hv hsu
    go_enter Try.func10, Try.ntmps10
    go_wp2_with fail
    clear hW1
    go_quiet (fail)
    obtain ⟨h2, hk2, hb2⟩ := HA.out nq
    clear c0 c1 c2 c3 c4 b0 HA HT1 HBX HB1
    generalize W1.drewN nq = W2 at h2 hk2 hb2 ⊢
    have b0 := hk2.cell 0
    simp at b0
    have hb3 := below_new W2 (.cells #[fF lb, fF1 w.heap.size, fF lb] tF)
    have hw2 := hb2.size
    have HC := Lib.hid (orderF (h2.below hb3) W2.heap.size w.heap.size (Blk.new W2 tF _) (fun h => by have := h.2; omega) (hk2.below hb3 hk2.lt) (fun h => by have := h.2; omega) HX.out HP.out)
    have HB3 : Hid (Below w.heap.size w (W2.alloc (.cells #[fF lb, fF1 w.heap.size, fF lb] tF))) := Lib.hid (hb2.trans (hb3.mono hb2.size))
    have HK3 := Lib.hid (hk2.below hb3 hk2.lt)
    unfold fF fF1 at HC HB3 HK3
    obtain ⟨⟨E, S'⟩, hE⟩ : ∃ q, runT [fun s => s.flush g.file, fun s => s.write g.file 0 (hdr (ext g.rows) g.rows.length), fun s => s.flush g.file] s = q := ⟨_, rfl⟩
    rw [hE] at HC HR
    clear hE h2 hk2 hb2 hb3 hw2
    go_wp2_with fail
    refine HC.out.mono ?_; rintro e w4 ⟨rfl, ho⟩
    have HO := Lib.hid (LOp.pre HB3.out ho.loose)
    have HK4 := Lib.hid (ho.keep HK3.out (fun h => by have := h.2; omega))
    clear ho HC HK3 HB3 b0
    by_cases hE0 : E = 0
    · subst hE0
      have HR2 : Hid (R = (0, ⟨g.file, g.rows, g.rows.length⟩, S')) := Lib.hid (by rw [HR.out, if_pos rfl])
      have k2 : ((0 : Int) != 0) = false := rfl
      obtain ⟨c0, c1, c2, c3, c4, fz⟩ := HO.out.at_.lg.cells
      have f3 := fz 3
      have b0 := HK4.out.cell 0
      simp at b0
      rw [HV.out, HN.out] at c2
      rw [HN.out] at HR2
      have HS : Hid (LOp B w (w4.setCell ⟨lb, 3, none⟩ (.int .i64 N)).drew lb db v ⟨g.file, g.rows, N⟩ S') := Lib.hid (HO.out.trans (HO.out.at_.sure N)).drew
      clear fz HR c0 c1 c4 HK4
      go_wp2_with fail
      go_region
      all_goals
        go_wp2_with fail
        go_ret
        exact ⟨by rw [HR2.out]; rfl, by rw [HR2.out]; exact HS.out⟩
    · have HR2 : Hid (R = (E, g, S')) := Lib.hid (by rw [HR.out, if_neg hE0])
      have k2 : (E != 0) = true := by rw [bne_iff_ne]; exact hE0
      clear HR hE0
      go_wp2_with fail
      go_ret
      exact ⟨by rw [HR2.out]; rfl, by rw [HR2.out]; exact HO.out⟩
end Go.Proofs.Ytognomkhkoiabaa
