/-
  The walk of the law JournalTells.
-/
import Derived.Test.YthdmcjiccbgknaaZJe
import Derived.Test.YthdmcjiccbgknaaJ7
import Derived.Deep.RegionHeld3
namespace Go.Proofs.Ythdmcjiccbgknaa.journalTells
set_option linter.unusedVariables false
set_option linter.unusedSimpArgs false
open Go.RowKit

section
variable {W w : World} {lb db lr dr : Nat} {vl vr : Value} {g : Lg} {s r : Dk}
theorem qAll (h : TL W w lb db vl g s lr dr vr g r) : Calls Try.prog 30 #[.pointer (some ⟨lb, 0, none⟩)] w fun e w2 => ∃ u, e = .returned u ∧ Row w2 w2.heap.size u (sv g.rows) ∧ TL W w2 lb db vl g s lr dr vr g r := by
  have h0 := h
  obtain ⟨B, C, h1, h2, h3, h4, h5, h6⟩ := h
  have hj : LJ w w lb db vl g s → True := fun _ => trivial
  refine (jAll (W := W) ⟨h1.mono fun k _ hk => (h4 k hk).1, h6⟩).mono ?_
  rintro e w2 ⟨u, he, hu, hb⟩
  exact ⟨u, he, hu, h0.below hb⟩
theorem qSame (h : TL W w lb db vl g s lr dr vr g r) {u : Value} (hu : Row w w.heap.size u (sv g.rows)) (hl : g.rows.length ≤ 1000000000) : Calls Try.prog 29 #[u, vr] w fun e w2 => e = .returned (.bool true) ∧ TL W w2 lb db vl g s lr dr vr g r := by
  have h0 := h
  obtain ⟨B, C, h1, h2, h3, h4, h5, h6⟩ := h
  have := sameP g.rows g.rows u vr w hu (Row.of_own h2.lg.own) (by omega) (by omega)
  rw [decide_eq_true rfl] at this
  exact this.mono fun e w2 ⟨a, b⟩ => ⟨a, h0.below b⟩
theorem qSure (h : TL W w lb db vl g s lr dr vr g r) : Calls Try.prog 31 #[.pointer (some ⟨lb, 0, none⟩)] w fun e w2 => e = .returned (.int .i64 (g.sure : Int)) ∧ TL W w2 lb db vl g s lr dr vr g r := by
  have h0 := h
  obtain ⟨B, C, h1, h2, h3, h4, h5, h6⟩ := h
  exact (sureP h1.lg).mono fun e w2 ⟨a, b⟩ => ⟨a, by subst b; exact h0⟩
theorem _root_.Go.Proofs.Ythdmcjiccbgknaa.TL.rcells (h : TL W w lb db vl g s lr dr vr g r) : w.cell? ⟨lr, 2, none⟩ = some vr ∧ w.cell? ⟨lr, 3, none⟩ = some (.int .i64 (g.sure : Int)) := by
  obtain ⟨B, C, h1, h2, h3, h4, h5, h6⟩ := h
  exact ⟨h2.lg.cells.2.2.1, h2.lg.cells.2.2.2.1⟩
end
theorem crash_kk (s : Dk) (ks K : List Int) (h : s.calls ≠ 0 → K = s.keep) : (s.crash ks).start.calls ≠ 0 → K = (s.crash ks).start.keep := by
  show (s.crash ks).calls ≠ 0 → K = (s.crash ks).keep
  unfold Dk.crash
  split
  · exact h
  · intro h; exact absurd rfl h
theorem _root_.Go.Proofs.Ythdmcjiccbgknaa.TR.ok1 {W w : World} {d x : Nat} {s r : Dk} (h : TR W w d x s r) : s.ok := by
  obtain ⟨B, C, h1, _⟩ := h
  exact h1.ok
theorem irow_old {w : World} {B : Nat} {A : Option Addr} {n cap : Nat} {l : List Int} (h : IRow w B (.slice A n cap) l) (hl : l ≠ []) : ∀ k, (Value.slice A n cap).ownBlock = some k → k < B := by
  obtain ⟨A', cap', hv, _, _, _, hA⟩ := h
  injection hv with e1 e2 e3
  subst e1
  obtain ⟨b, off, ha, hb, _⟩ := hA (List.length_pos_iff.2 hl)
  intro k hk
  rw [ha] at hk
  simp [Value.ownBlock] at hk
  omega
def JT (W : World) (f : Int) (l : List De) (db dr : Nat) (lv ev mv xv i : Value) (wl : World) : Prop := ∃ (k lb lr : Nat) (vl vr : Value) (g : Lg) (s : Dk) (K : List Int) (E X : Int), lv = .pointer (some ⟨lb, 0, none⟩) ∧ ev = .int .i64 E ∧ mv = .pointer (some ⟨lr, 0, none⟩) ∧ xv = .int .i64 X ∧ i = .int .i64 k ∧ k ≤ l.length ∧ TL W wl lb db vl g s lr dr vr g (s.wk K) ∧ GI f k g s ∧ (s.calls ≠ 0 → K = s.keep)
theorem opn0 (f : Int) (hf : 0 ≤ f ∧ f ≤ 6) : opn dk0 f = (0, some ⟨f, [], 0⟩) := by
  have this : f = 0 ∨ f = 1 ∨ f = 2 ∨ f = 3 ∨ f = 4 ∨ f = 5 ∨ f = 6 := by omega
  have h2 : parseS (bs []) = some [] := by decide +kernel
  have h1 : dk0.read f = (bs [], 0) := by
    rcases this with rfl | rfl | rfl | rfl | rfl | rfl | rfl
    · exact read_of dk0 0 (by decide) rfl
    · exact read_of dk0 1 (by decide) rfl
    · exact read_of dk0 2 (by decide) rfl
    · exact read_of dk0 3 (by decide) rfl
    · exact read_of dk0 4 (by decide) rfl
    · exact read_of dk0 5 (by decide) rfl
    · exact read_of dk0 6 (by decide) rfl
  unfold opn
  rw [h1, if_neg (by simp)]
  simp only [h2]
  rfl
theorem ext_few (l : List ByteArray) (h1 : l.length ≤ 6) (h2 : ∀ r ∈ l, r.size ≤ 200) : ext l ≤ 1264 := by
  have : ∀ l : List ByteArray, (∀ r ∈ l, r.size ≤ 200) → ext l ≤ 16 + 208 * l.length := fun l => by
    induction l with
    | nil => intro _; simp [ext]
    | cons a l ih =>
      intro h
      have h1 := ih fun r hr => h r (by simp [hr])
      have h2 := h a (by simp)
      unfold ext at *
      simp only [List.map_cons, List.sum_cons, List.length_cons]
      omega
  have := this l h2
  omega
set_option maxRecDepth 100000 in
set_option maxHeartbeats 0 in
theorem walk (W : World) (f : Int) (v1 : Value) (l : List De) (w0 : (Lit.int .i64 f).wf = true) (w1 : OpenDeeds W v1 l) :
    Calls Try.prog 3 #[.int .i64 f, v1] W fun e w' => e = .returned (.bool true) ∧ Below W.heap.size W w' := by
  have hf64 := int_wf w0
  obtain ⟨her, hwf, hlen⟩ := w1
  obtain ⟨A, cap, rfl, hA⟩ := her
  have her : ERow W W.heap.size (.slice A l.length cap) l := ⟨A, cap, rfl, hA⟩
  have HER := Lib.hid her
  have HS := Lib.hid (small7 W)
  have HWF := Lib.hid hwf
  clear hA her hwf w0
  go_enter Try.func3, Try.ntmps3
  go_wp2_with fail
  refine HS.out.mono ?_; rintro e w2 ⟨rfl, hb2⟩
  have HB2 := Lib.hid hb2
  have HF := Lib.hid (few7P _ l w2 (HER.out.keep hb2) hlen)
  clear hb2 HS
  rcases hfew : fewB7 l
  · rw [hfew] at HF
    clear hfew
    go_wp2_with fail
    refine HF.out.mono ?_; rintro e w3 ⟨rfl, rfl⟩
    go_wp2_with fail
    go_ret
    exact ⟨rfl, HB2.out⟩
  · rw [hfew] at HF
    obtain ⟨h30, hok⟩ := fewB7_parts hfew
    have HOK := Lib.hid hok
    clear hok hfew
    go_wp2_with fail
    refine HF.out.mono ?_; rintro e w3 ⟨rfl, rfl⟩
    clear HF
    have HC := Lib.hid (dNew w2)
    go_wp2_with fail
    refine HC.out.mono ?_; rintro e w3 ⟨db, rfl, h3⟩
    have HD := Lib.hid (h3.base HB2.out); clear h3 HC HB2
    have HC := Lib.hid (newX HD.out)
    go_wp2_with fail
    refine HC.out.mono ?_; rintro e w4 ⟨dr, rfl, h4⟩
    have HT := Lib.hid h4; clear h4 HC HD
    by_cases hf6 : 0 ≤ f ∧ f ≤ 6
    · have HF6 := Lib.hid hf6
      have HO := Lib.hid (opn0 f hf6)
      have HC := Lib.hid (oOpen HT.out f hf6 HO.out)
      clear hf6
      go_wp2_with fail
      refine HC.out.mono ?_; rintro e w5 ⟨lb0, v5, rfl, h5⟩
      have HH := Lib.hid h5; clear h5 HC HT
      have HC := Lib.hid (oOpenS HH.out f HF6.out HO.out)
      go_wp2_with fail
      refine HC.out.mono ?_; rintro e w6 ⟨lr0, v6, rfl, h6⟩
      have H0 := Lib.hid h6; clear h6 HC HH HO
      go_wp2_with fail
      go_loopw [9, 10, 11, 12, 13] (fun lv ev mv xv i wl => JT W f l db dr lv ev mv xv i wl) (fun _ _ _ _ i _ => l.length - (intOf i).toNat)
      case atStart => exact ⟨0, lb0, lr0, _, _, _, dk0, [], 0, 0, rfl, rfl, rfl, rfl, rfl, by omega, H0.out, ⟨rfl, by show ext ([] : List ByteArray) ≤ 16777300 + 208 * 0; decide, by show 0 ≤ 1000000000; decide, by decide⟩, fun h => absurd rfl h⟩
      case round =>
        clear H0
        obtain ⟨k, lb, lr, vl, vr, g, s, K, E0, X0, rfl, rfl, rfl, rfl, rfl, hk, hL, hG, hK⟩ := hrel
        have HL := Lib.hid hL
        have HG0 := Lib.hid hG
        have HK0 := Lib.hid hK
        clear hL hG hK
        by_cases hlt : k < l.length
        · have hk30 : k < 30 := by omega
          have hbel := HL.out.bel
          obtain ⟨A', cap', he, hA⟩ := HER.out
          injection he with he1 _ he2
          subst he1; subst he2
          obtain ⟨b, off, rfl, hb, hc⟩ := hA (by omega)
          obtain ⟨ur, uk, hur, huk, c0, c1, c2, c3, c4⟩ := hc k hlt
          replace c0 := keep_below hbel c0
          replace c1 := keep_below hbel c1
          replace c2 := keep_below hbel c2
          replace c3 := keep_below hbel c3
          replace c4 := keep_below hbel c4
          obtain ⟨Ar, capr, hur1, -⟩ := id hur
          obtain ⟨Ak, capk, huk1, -⟩ := id huk
          rw [sv_length] at hur1
          subst hur1; subst huk1
          have hokk := HOK.out k hlt
          have hwk := HWF.out k hlt
          have q1 : (k : Int) < l.length := by omega
          obtain ⟨⟨o, row, rs, ks, nn⟩, ha⟩ : ∃ a, gd l k = a := ⟨_, rfl⟩
          rw [ha] at c0 c1 c2 c3 c4 hur huk hokk hwk
          simp only at c0 c1 c2 c3 c4 hur huk
          have HUR := Lib.hid hur
          have HUK := Lib.hid huk
          have HRW : Hid (row.size ≤ 200) := Lib.hid hokk.row
          have HXR : Hid (ext rs ≤ 1264) := Lib.hid (ext_few rs hokk.rows hokk.each)
          have HKL : Hid (ks.length ≤ 60) := Lib.hid hokk.keep
          have HNN : Hid (-9223372036854775808 ≤ nn ∧ nn ≤ 9223372036854775807) := Lib.hid hwk.n
          have HX0 := Lib.hid (TX.new HL.out #[.int .i64 o, .string row, .slice Ar rs.length capr, .slice Ak ks.length capk, .int .i64 nn])
          have x5 := Blk.new wr 39 #[.int .i64 o, .string row, .slice Ar rs.length capr, .slice Ak ks.length capk, .int .i64 nn]
          have x0 := x5.cell 0
          have x1 := x5.cell 1
          have x2 := x5.cell 2
          have x3 := x5.cell 3
          have x4 := x5.cell 4
          simp at x0 x1 x2 x3 x4
          have ha7 := and7 o
          obtain ⟨R, hR⟩ : ∃ R, o % 8 = R := ⟨_, rfl⟩
          rw [hR] at ha7
          have hR8 : (R = 0 ∨ R = 1 ∨ R = 2) ∨ R = 3 ∨ R = 4 ∨ R = 5 ∨ R = 6 ∨ R = 7 := by omega
          clear hA hc hur huk hokk hwk ha x5 hR hb hbel HL
          rcases hR8 with hR8 | rfl | rfl | rfl | rfl | rfl
          · as_aux_lemma =>
              have hq3 : (R == 3) = false := by simp; omega
              have hq4 : (R == 4) = false := by simp; omega
              have hq5 : (R == 5) = false := by simp; omega
              have hq6 : (R == 6) = false := by simp; omega
              have hq7 : (R == 7) = false := by simp; omega
              clear hR8
              obtain ⟨E, g2, s2, K2, hd⟩ := dAppend2 HX0.out HG0.out hk30 HK0.out row HRW.out
              have HG2 := Lib.hid hd.gi
              have HK2 := Lib.hid hd.kk
              have HC := Lib.hid hd.c1
              have HCR := Lib.hid hd.c2
              clear hd HX0
              go_wp2_with fail
              refine HC.out.mono ?_; rintro e w2 ⟨rfl, v2, hx⟩
              have HX := Lib.hid hx; clear hx HC x0 x1 x2 x3 x4
              have hbx := HX.out.1
              have x0 := hbx.cell 0
              have x1 := hbx.cell 1
              have x2 := hbx.cell 2
              have x3 := hbx.cell 3
              have x4 := hbx.cell 4
              simp at x0 x1 x2 x3 x4
              clear hbx
              have HC := Lib.hid (HCR.out _ _ HX.out.tl)
              go_wp2_with fail
              refine HC.out.mono ?_; rintro e w3 ⟨rfl, vr2, ht⟩
              have H := Lib.hid ht; clear ht HC HCR HX x0 x1 x2 x3 x4
              simp only at H
              obtain ⟨⟨A1, c1⟩, hr1⟩ : ∃ q, s2.read f = q := ⟨_, rfl⟩
              obtain ⟨⟨A2, c2⟩, hr2⟩ : ∃ q, s2.read (f + 1) = q := ⟨_, rfl⟩
              obtain ⟨R2, hR2⟩ : ∃ R2, s2.wk K2 = R2 := ⟨_, rfl⟩
              have HRR : Hid (s2.wk K2 = R2) := Lib.hid hR2
              have HR1 : Hid (s2.read f = (A1, c1)) := Lib.hid hr1
              have HR2 : Hid (s2.read (f + 1) = (A2, c2)) := Lib.hid hr2
              have HX1 : Hid (R2.read f = (A1, c1)) := Lib.hid (by rw [← hR2]; exact hr1)
              have HX2 : Hid (R2.read (f + 1) = (A2, c2)) := Lib.hid (by rw [← hR2]; exact hr2)
              rw [hR2] at H
              clear hr1 hr2 hR2
              have e1 : IntKind.i64.wrap (f + 1) = f + 1 := IntWalk.i64_in _ (by have := HF6.out; omega)
              have hq : (E != E) = false := by simp
              have HC := Lib.hid (qRead H.out f)
              rw [HR1.out] at HC
              go_wp2_with fail
              refine HC.out.mono ?_; rintro e w4 ⟨rfl, ht⟩
              replace H := Lib.hid ht; clear ht HC
              have HC := Lib.hid (qReadR H.out f)
              rw [HX1.out] at HC
              go_wp2_with fail
              refine HC.out.mono ?_; rintro e w5 ⟨rfl, ht⟩
              replace H := Lib.hid ht; clear ht HC
              have HC := Lib.hid (qRead H.out (f + 1))
              rw [HR2.out] at HC
              go_wp2_with fail
              refine HC.out.mono ?_; rintro e w6 ⟨rfl, ht⟩
              replace H := Lib.hid ht; clear ht HC
              have HC := Lib.hid (qReadR H.out (f + 1))
              rw [HX2.out] at HC
              go_wp2_with fail
              refine HC.out.mono ?_; rintro e w7 ⟨rfl, ht⟩
              replace H := Lib.hid ht; clear ht HC
              obtain ⟨gf, rows, sure⟩ := g2
              have HALL : Hid (∀ w', Hid (TL W w' lb db v2 ⟨gf, rows, sure⟩ s2 lr dr vr2 ⟨gf, rows, sure⟩ R2) → Calls Try.prog 30 #[.pointer (some ⟨lb, 0, none⟩)] w' fun e w2 => ∃ u, e = .returned u ∧ Row w2 w2.heap.size u (sv rows) ∧ TL W w2 lb db v2 ⟨gf, rows, sure⟩ s2 lr dr vr2 ⟨gf, rows, sure⟩ R2) := Lib.hid fun w' h => qAll h.out
              have HSAME : Hid (∀ w' u, Hid (TL W w' lb db v2 ⟨gf, rows, sure⟩ s2 lr dr vr2 ⟨gf, rows, sure⟩ R2) → Hid (Row w' w'.heap.size u (sv rows)) → Calls Try.prog 29 #[u, vr2] w' fun e w2 => e = .returned (.bool true) ∧ TL W w2 lb db v2 ⟨gf, rows, sure⟩ s2 lr dr vr2 ⟨gf, rows, sure⟩ R2) := Lib.hid fun w' u h hu => qSame h.out hu.out (by have := HG2.out.ex; have := ext_len rows; simp only at *; omega)
              have HSURE : Hid (∀ w', Hid (TL W w' lb db v2 ⟨gf, rows, sure⟩ s2 lr dr vr2 ⟨gf, rows, sure⟩ R2) → Calls Try.prog 31 #[.pointer (some ⟨lb, 0, none⟩)] w' fun e w2 => e = .returned (.int .i64 (sure : Int)) ∧ TL W w2 lb db v2 ⟨gf, rows, sure⟩ s2 lr dr vr2 ⟨gf, rows, sure⟩ R2) := Lib.hid fun w' h => qSure h.out
              have HC2 : Hid (∀ w', Hid (TL W w' lb db v2 ⟨gf, rows, sure⟩ s2 lr dr vr2 ⟨gf, rows, sure⟩ R2) → w'.cell? ⟨lr, 2, none⟩ = some vr2) := Lib.hid fun w' h => h.out.rcells.1
              have HC3 : Hid (∀ w', Hid (TL W w' lb db v2 ⟨gf, rows, sure⟩ s2 lr dr vr2 ⟨gf, rows, sure⟩ R2) → w'.cell? ⟨lr, 3, none⟩ = some (.int .i64 (sure : Int))) := Lib.hid fun w' h => h.out.rcells.2
              have HEND : Hid (∀ (w' : World) (E' : Int), Hid (TL W w' lb db v2 ⟨gf, rows, sure⟩ s2 lr dr vr2 ⟨gf, rows, sure⟩ R2) → JT W f l db dr (.pointer (some ⟨lb, 0, none⟩)) (.int .i64 E') (.pointer (some ⟨lr, 0, none⟩)) (.int .i64 E') (.int .i64 ((k : Int) + 1)) w') := Lib.hid fun w' E' h => ⟨k + 1, lb, lr, v2, vr2, ⟨gf, rows, sure⟩, s2, K2, E', E', rfl, rfl, rfl, rfl, by go_num, hlt, by rw [HRR.out]; exact h.out, HG2.out, HK2.out⟩
              have H0 : Hid (TL W w7.drew lb db v2 ⟨gf, rows, sure⟩ s2 lr dr vr2 ⟨gf, rows, sure⟩ R2) := Lib.hid H.out.drew
              clear H HR1 HR2 HX1 HX2 HRR
              have cx := HC2.out _ H0
              have hs1 : (A1.toList != A1.toList) = false := by simp
              have hs2 : (A2.toList != A2.toList) = false := by simp
              have hs3 : ((sure : Int) != (sure : Int)) = false := by simp
              go_wp2_with fail
              go_region_held3 (fun w' => w'.cell? ⟨lr, 2, none⟩ = some vr2) (first | exact cx | exact HC2.out _ (by assumption) | fail) (first | ((with_reducible refine (HALL.out _ (by assumption)).mono ?_); rintro e wN ⟨u, rfl, hU, hT⟩; have T := Lib.hid hT; have U := Lib.hid hU; clear hT hU) | ((with_reducible refine (HSAME.out _ _ (by assumption) (by assumption)).mono ?_); rintro e wN ⟨rfl, hT⟩; have T := Lib.hid hT; clear hT))
              all_goals
                have H1 := Lib.hid T.out.drew
                have cy := HC3.out _ H1
                clear cx
                go_wp2_with fail
                go_region_held3 (fun w' => w'.cell? ⟨lr, 3, none⟩ = some (.int .i64 (sure : Int))) (first | exact cy | exact HC3.out _ (by assumption) | fail) (((with_reducible refine (HSURE.out _ (by assumption)).mono ?_); rintro e wN ⟨rfl, hT⟩; have T3 := Lib.hid hT; clear hT))
                all_goals
                  go_wp2_with fail
                  go_roundw
                  case rel => exact HEND.out _ _ (by assumption)
                  case measure => simp [intOf]; omega
          · as_aux_lemma =>
              obtain ⟨E, g2, s2, K2, hd⟩ := dFlush2 HX0.out HG0.out hk30 HK0.out
              have HG2 := Lib.hid hd.gi
              have HK2 := Lib.hid hd.kk
              have HC := Lib.hid hd.c1
              have HCR := Lib.hid hd.c2
              clear hd HX0
              go_wp2_with fail
              refine HC.out.mono ?_; rintro e w2 ⟨rfl, v2, hx⟩
              have HX := Lib.hid hx; clear hx HC x0 x1 x2 x3 x4
              have hbx := HX.out.1
              have x0 := hbx.cell 0
              have x1 := hbx.cell 1
              have x2 := hbx.cell 2
              have x3 := hbx.cell 3
              have x4 := hbx.cell 4
              simp at x0 x1 x2 x3 x4
              clear hbx
              have HC := Lib.hid (HCR.out _ _ HX.out.tl)
              go_wp2_with fail
              refine HC.out.mono ?_; rintro e w3 ⟨rfl, vr2, ht⟩
              have H := Lib.hid ht; clear ht HC HCR HX x0 x1 x2 x3 x4
              simp only at H
              obtain ⟨⟨A1, c1⟩, hr1⟩ : ∃ q, s2.read f = q := ⟨_, rfl⟩
              obtain ⟨⟨A2, c2⟩, hr2⟩ : ∃ q, s2.read (f + 1) = q := ⟨_, rfl⟩
              obtain ⟨R2, hR2⟩ : ∃ R2, s2.wk K2 = R2 := ⟨_, rfl⟩
              have HRR : Hid (s2.wk K2 = R2) := Lib.hid hR2
              have HR1 : Hid (s2.read f = (A1, c1)) := Lib.hid hr1
              have HR2 : Hid (s2.read (f + 1) = (A2, c2)) := Lib.hid hr2
              have HX1 : Hid (R2.read f = (A1, c1)) := Lib.hid (by rw [← hR2]; exact hr1)
              have HX2 : Hid (R2.read (f + 1) = (A2, c2)) := Lib.hid (by rw [← hR2]; exact hr2)
              rw [hR2] at H
              clear hr1 hr2 hR2
              have e1 : IntKind.i64.wrap (f + 1) = f + 1 := IntWalk.i64_in _ (by have := HF6.out; omega)
              have hq : (E != E) = false := by simp
              have HC := Lib.hid (qRead H.out f)
              rw [HR1.out] at HC
              go_wp2_with fail
              refine HC.out.mono ?_; rintro e w4 ⟨rfl, ht⟩
              replace H := Lib.hid ht; clear ht HC
              have HC := Lib.hid (qReadR H.out f)
              rw [HX1.out] at HC
              go_wp2_with fail
              refine HC.out.mono ?_; rintro e w5 ⟨rfl, ht⟩
              replace H := Lib.hid ht; clear ht HC
              have HC := Lib.hid (qRead H.out (f + 1))
              rw [HR2.out] at HC
              go_wp2_with fail
              refine HC.out.mono ?_; rintro e w6 ⟨rfl, ht⟩
              replace H := Lib.hid ht; clear ht HC
              have HC := Lib.hid (qReadR H.out (f + 1))
              rw [HX2.out] at HC
              go_wp2_with fail
              refine HC.out.mono ?_; rintro e w7 ⟨rfl, ht⟩
              replace H := Lib.hid ht; clear ht HC
              obtain ⟨gf, rows, sure⟩ := g2
              have HALL : Hid (∀ w', Hid (TL W w' lb db v2 ⟨gf, rows, sure⟩ s2 lr dr vr2 ⟨gf, rows, sure⟩ R2) → Calls Try.prog 30 #[.pointer (some ⟨lb, 0, none⟩)] w' fun e w2 => ∃ u, e = .returned u ∧ Row w2 w2.heap.size u (sv rows) ∧ TL W w2 lb db v2 ⟨gf, rows, sure⟩ s2 lr dr vr2 ⟨gf, rows, sure⟩ R2) := Lib.hid fun w' h => qAll h.out
              have HSAME : Hid (∀ w' u, Hid (TL W w' lb db v2 ⟨gf, rows, sure⟩ s2 lr dr vr2 ⟨gf, rows, sure⟩ R2) → Hid (Row w' w'.heap.size u (sv rows)) → Calls Try.prog 29 #[u, vr2] w' fun e w2 => e = .returned (.bool true) ∧ TL W w2 lb db v2 ⟨gf, rows, sure⟩ s2 lr dr vr2 ⟨gf, rows, sure⟩ R2) := Lib.hid fun w' u h hu => qSame h.out hu.out (by have := HG2.out.ex; have := ext_len rows; simp only at *; omega)
              have HSURE : Hid (∀ w', Hid (TL W w' lb db v2 ⟨gf, rows, sure⟩ s2 lr dr vr2 ⟨gf, rows, sure⟩ R2) → Calls Try.prog 31 #[.pointer (some ⟨lb, 0, none⟩)] w' fun e w2 => e = .returned (.int .i64 (sure : Int)) ∧ TL W w2 lb db v2 ⟨gf, rows, sure⟩ s2 lr dr vr2 ⟨gf, rows, sure⟩ R2) := Lib.hid fun w' h => qSure h.out
              have HC2 : Hid (∀ w', Hid (TL W w' lb db v2 ⟨gf, rows, sure⟩ s2 lr dr vr2 ⟨gf, rows, sure⟩ R2) → w'.cell? ⟨lr, 2, none⟩ = some vr2) := Lib.hid fun w' h => h.out.rcells.1
              have HC3 : Hid (∀ w', Hid (TL W w' lb db v2 ⟨gf, rows, sure⟩ s2 lr dr vr2 ⟨gf, rows, sure⟩ R2) → w'.cell? ⟨lr, 3, none⟩ = some (.int .i64 (sure : Int))) := Lib.hid fun w' h => h.out.rcells.2
              have HEND : Hid (∀ (w' : World) (E' : Int), Hid (TL W w' lb db v2 ⟨gf, rows, sure⟩ s2 lr dr vr2 ⟨gf, rows, sure⟩ R2) → JT W f l db dr (.pointer (some ⟨lb, 0, none⟩)) (.int .i64 E') (.pointer (some ⟨lr, 0, none⟩)) (.int .i64 E') (.int .i64 ((k : Int) + 1)) w') := Lib.hid fun w' E' h => ⟨k + 1, lb, lr, v2, vr2, ⟨gf, rows, sure⟩, s2, K2, E', E', rfl, rfl, rfl, rfl, by go_num, hlt, by rw [HRR.out]; exact h.out, HG2.out, HK2.out⟩
              have H0 : Hid (TL W w7.drew lb db v2 ⟨gf, rows, sure⟩ s2 lr dr vr2 ⟨gf, rows, sure⟩ R2) := Lib.hid H.out.drew
              clear H HR1 HR2 HX1 HX2 HRR
              have cx := HC2.out _ H0
              have hs1 : (A1.toList != A1.toList) = false := by simp
              have hs2 : (A2.toList != A2.toList) = false := by simp
              have hs3 : ((sure : Int) != (sure : Int)) = false := by simp
              go_wp2_with fail
              go_region_held3 (fun w' => w'.cell? ⟨lr, 2, none⟩ = some vr2) (first | exact cx | exact HC2.out _ (by assumption) | fail) (first | ((with_reducible refine (HALL.out _ (by assumption)).mono ?_); rintro e wN ⟨u, rfl, hU, hT⟩; have T := Lib.hid hT; have U := Lib.hid hU; clear hT hU) | ((with_reducible refine (HSAME.out _ _ (by assumption) (by assumption)).mono ?_); rintro e wN ⟨rfl, hT⟩; have T := Lib.hid hT; clear hT))
              all_goals
                have H1 := Lib.hid T.out.drew
                have cy := HC3.out _ H1
                clear cx
                go_wp2_with fail
                go_region_held3 (fun w' => w'.cell? ⟨lr, 3, none⟩ = some (.int .i64 (sure : Int))) (first | exact cy | exact HC3.out _ (by assumption) | fail) (((with_reducible refine (HSURE.out _ (by assumption)).mono ?_); rintro e wN ⟨rfl, hT⟩; have T3 := Lib.hid hT; clear hT))
                all_goals
                  go_wp2_with fail
                  go_roundw
                  case rel => exact HEND.out _ _ (by assumption)
                  case measure => simp [intOf]; omega
          · as_aux_lemma =>
              obtain ⟨E, g2, s2, K2, hd⟩ := dFlush2 HX0.out HG0.out hk30 HK0.out
              have HG2 := Lib.hid hd.gi
              have HK2 := Lib.hid hd.kk
              have HC := Lib.hid hd.c1
              have HCR := Lib.hid hd.c2
              clear hd HX0
              go_wp2_with fail
              refine HC.out.mono ?_; rintro e w2 ⟨rfl, v2, hx⟩
              have HX := Lib.hid hx; clear hx HC x0 x1 x2 x3 x4
              have hbx := HX.out.1
              have x0 := hbx.cell 0
              have x1 := hbx.cell 1
              have x2 := hbx.cell 2
              have x3 := hbx.cell 3
              have x4 := hbx.cell 4
              simp at x0 x1 x2 x3 x4
              clear hbx
              have HC := Lib.hid (HCR.out _ _ HX.out.tl)
              go_wp2_with fail
              refine HC.out.mono ?_; rintro e w3 ⟨rfl, vr2, ht⟩
              have H := Lib.hid ht; clear ht HC HCR HX x0 x1 x2 x3 x4
              simp only at H
              obtain ⟨⟨A1, c1⟩, hr1⟩ : ∃ q, s2.read f = q := ⟨_, rfl⟩
              obtain ⟨⟨A2, c2⟩, hr2⟩ : ∃ q, s2.read (f + 1) = q := ⟨_, rfl⟩
              obtain ⟨R2, hR2⟩ : ∃ R2, s2.wk K2 = R2 := ⟨_, rfl⟩
              have HRR : Hid (s2.wk K2 = R2) := Lib.hid hR2
              have HR1 : Hid (s2.read f = (A1, c1)) := Lib.hid hr1
              have HR2 : Hid (s2.read (f + 1) = (A2, c2)) := Lib.hid hr2
              have HX1 : Hid (R2.read f = (A1, c1)) := Lib.hid (by rw [← hR2]; exact hr1)
              have HX2 : Hid (R2.read (f + 1) = (A2, c2)) := Lib.hid (by rw [← hR2]; exact hr2)
              rw [hR2] at H
              clear hr1 hr2 hR2
              have e1 : IntKind.i64.wrap (f + 1) = f + 1 := IntWalk.i64_in _ (by have := HF6.out; omega)
              have hq : (E != E) = false := by simp
              have HC := Lib.hid (qRead H.out f)
              rw [HR1.out] at HC
              go_wp2_with fail
              refine HC.out.mono ?_; rintro e w4 ⟨rfl, ht⟩
              replace H := Lib.hid ht; clear ht HC
              have HC := Lib.hid (qReadR H.out f)
              rw [HX1.out] at HC
              go_wp2_with fail
              refine HC.out.mono ?_; rintro e w5 ⟨rfl, ht⟩
              replace H := Lib.hid ht; clear ht HC
              have HC := Lib.hid (qRead H.out (f + 1))
              rw [HR2.out] at HC
              go_wp2_with fail
              refine HC.out.mono ?_; rintro e w6 ⟨rfl, ht⟩
              replace H := Lib.hid ht; clear ht HC
              have HC := Lib.hid (qReadR H.out (f + 1))
              rw [HX2.out] at HC
              go_wp2_with fail
              refine HC.out.mono ?_; rintro e w7 ⟨rfl, ht⟩
              replace H := Lib.hid ht; clear ht HC
              obtain ⟨gf, rows, sure⟩ := g2
              have HALL : Hid (∀ w', Hid (TL W w' lb db v2 ⟨gf, rows, sure⟩ s2 lr dr vr2 ⟨gf, rows, sure⟩ R2) → Calls Try.prog 30 #[.pointer (some ⟨lb, 0, none⟩)] w' fun e w2 => ∃ u, e = .returned u ∧ Row w2 w2.heap.size u (sv rows) ∧ TL W w2 lb db v2 ⟨gf, rows, sure⟩ s2 lr dr vr2 ⟨gf, rows, sure⟩ R2) := Lib.hid fun w' h => qAll h.out
              have HSAME : Hid (∀ w' u, Hid (TL W w' lb db v2 ⟨gf, rows, sure⟩ s2 lr dr vr2 ⟨gf, rows, sure⟩ R2) → Hid (Row w' w'.heap.size u (sv rows)) → Calls Try.prog 29 #[u, vr2] w' fun e w2 => e = .returned (.bool true) ∧ TL W w2 lb db v2 ⟨gf, rows, sure⟩ s2 lr dr vr2 ⟨gf, rows, sure⟩ R2) := Lib.hid fun w' u h hu => qSame h.out hu.out (by have := HG2.out.ex; have := ext_len rows; simp only at *; omega)
              have HSURE : Hid (∀ w', Hid (TL W w' lb db v2 ⟨gf, rows, sure⟩ s2 lr dr vr2 ⟨gf, rows, sure⟩ R2) → Calls Try.prog 31 #[.pointer (some ⟨lb, 0, none⟩)] w' fun e w2 => e = .returned (.int .i64 (sure : Int)) ∧ TL W w2 lb db v2 ⟨gf, rows, sure⟩ s2 lr dr vr2 ⟨gf, rows, sure⟩ R2) := Lib.hid fun w' h => qSure h.out
              have HC2 : Hid (∀ w', Hid (TL W w' lb db v2 ⟨gf, rows, sure⟩ s2 lr dr vr2 ⟨gf, rows, sure⟩ R2) → w'.cell? ⟨lr, 2, none⟩ = some vr2) := Lib.hid fun w' h => h.out.rcells.1
              have HC3 : Hid (∀ w', Hid (TL W w' lb db v2 ⟨gf, rows, sure⟩ s2 lr dr vr2 ⟨gf, rows, sure⟩ R2) → w'.cell? ⟨lr, 3, none⟩ = some (.int .i64 (sure : Int))) := Lib.hid fun w' h => h.out.rcells.2
              have HEND : Hid (∀ (w' : World) (E' : Int), Hid (TL W w' lb db v2 ⟨gf, rows, sure⟩ s2 lr dr vr2 ⟨gf, rows, sure⟩ R2) → JT W f l db dr (.pointer (some ⟨lb, 0, none⟩)) (.int .i64 E') (.pointer (some ⟨lr, 0, none⟩)) (.int .i64 E') (.int .i64 ((k : Int) + 1)) w') := Lib.hid fun w' E' h => ⟨k + 1, lb, lr, v2, vr2, ⟨gf, rows, sure⟩, s2, K2, E', E', rfl, rfl, rfl, rfl, by go_num, hlt, by rw [HRR.out]; exact h.out, HG2.out, HK2.out⟩
              have H0 : Hid (TL W w7.drew lb db v2 ⟨gf, rows, sure⟩ s2 lr dr vr2 ⟨gf, rows, sure⟩ R2) := Lib.hid H.out.drew
              clear H HR1 HR2 HX1 HX2 HRR
              have cx := HC2.out _ H0
              have hs1 : (A1.toList != A1.toList) = false := by simp
              have hs2 : (A2.toList != A2.toList) = false := by simp
              have hs3 : ((sure : Int) != (sure : Int)) = false := by simp
              go_wp2_with fail
              go_region_held3 (fun w' => w'.cell? ⟨lr, 2, none⟩ = some vr2) (first | exact cx | exact HC2.out _ (by assumption) | fail) (first | ((with_reducible refine (HALL.out _ (by assumption)).mono ?_); rintro e wN ⟨u, rfl, hU, hT⟩; have T := Lib.hid hT; have U := Lib.hid hU; clear hT hU) | ((with_reducible refine (HSAME.out _ _ (by assumption) (by assumption)).mono ?_); rintro e wN ⟨rfl, hT⟩; have T := Lib.hid hT; clear hT))
              all_goals
                have H1 := Lib.hid T.out.drew
                have cy := HC3.out _ H1
                clear cx
                go_wp2_with fail
                go_region_held3 (fun w' => w'.cell? ⟨lr, 3, none⟩ = some (.int .i64 (sure : Int))) (first | exact cy | exact HC3.out _ (by assumption) | fail) (((with_reducible refine (HSURE.out _ (by assumption)).mono ?_); rintro e wN ⟨rfl, hT⟩; have T3 := Lib.hid hT; clear hT))
                all_goals
                  go_wp2_with fail
                  go_roundw
                  case rel => exact HEND.out _ _ (by assumption)
                  case measure => simp [intOf]; omega
          · as_aux_lemma =>
              obtain ⟨E, g2, s2, K2, hd⟩ := dRewrite2 HX0.out HF6.out HG0.out hk30 HK0.out (.slice Ar rs.length capr) rs HUR.out HXR.out
              have HG2 := Lib.hid hd.gi
              have HK2 := Lib.hid hd.kk
              have HC := Lib.hid hd.c1
              have HCR := Lib.hid hd.c2
              clear hd HX0
              go_wp2_with fail
              refine HC.out.mono ?_; rintro e w2 ⟨rfl, v2, hx⟩
              have HX := Lib.hid hx; clear hx HC x0 x1 x2 x3 x4
              have hbx := HX.out.1
              have x0 := hbx.cell 0
              have x1 := hbx.cell 1
              have x2 := hbx.cell 2
              have x3 := hbx.cell 3
              have x4 := hbx.cell 4
              simp at x0 x1 x2 x3 x4
              clear hbx
              have HC := Lib.hid (HCR.out _ _ HX.out.tl)
              go_wp2_with fail
              refine HC.out.mono ?_; rintro e w3 ⟨rfl, vr2, ht⟩
              have H := Lib.hid ht; clear ht HC HCR HX x0 x1 x2 x3 x4
              simp only at H
              obtain ⟨⟨A1, c1⟩, hr1⟩ : ∃ q, s2.read f = q := ⟨_, rfl⟩
              obtain ⟨⟨A2, c2⟩, hr2⟩ : ∃ q, s2.read (f + 1) = q := ⟨_, rfl⟩
              obtain ⟨R2, hR2⟩ : ∃ R2, s2.wk K2 = R2 := ⟨_, rfl⟩
              have HRR : Hid (s2.wk K2 = R2) := Lib.hid hR2
              have HR1 : Hid (s2.read f = (A1, c1)) := Lib.hid hr1
              have HR2 : Hid (s2.read (f + 1) = (A2, c2)) := Lib.hid hr2
              have HX1 : Hid (R2.read f = (A1, c1)) := Lib.hid (by rw [← hR2]; exact hr1)
              have HX2 : Hid (R2.read (f + 1) = (A2, c2)) := Lib.hid (by rw [← hR2]; exact hr2)
              rw [hR2] at H
              clear hr1 hr2 hR2
              have e1 : IntKind.i64.wrap (f + 1) = f + 1 := IntWalk.i64_in _ (by have := HF6.out; omega)
              have hq : (E != E) = false := by simp
              have HC := Lib.hid (qRead H.out f)
              rw [HR1.out] at HC
              go_wp2_with fail
              refine HC.out.mono ?_; rintro e w4 ⟨rfl, ht⟩
              replace H := Lib.hid ht; clear ht HC
              have HC := Lib.hid (qReadR H.out f)
              rw [HX1.out] at HC
              go_wp2_with fail
              refine HC.out.mono ?_; rintro e w5 ⟨rfl, ht⟩
              replace H := Lib.hid ht; clear ht HC
              have HC := Lib.hid (qRead H.out (f + 1))
              rw [HR2.out] at HC
              go_wp2_with fail
              refine HC.out.mono ?_; rintro e w6 ⟨rfl, ht⟩
              replace H := Lib.hid ht; clear ht HC
              have HC := Lib.hid (qReadR H.out (f + 1))
              rw [HX2.out] at HC
              go_wp2_with fail
              refine HC.out.mono ?_; rintro e w7 ⟨rfl, ht⟩
              replace H := Lib.hid ht; clear ht HC
              obtain ⟨gf, rows, sure⟩ := g2
              have HALL : Hid (∀ w', Hid (TL W w' lb db v2 ⟨gf, rows, sure⟩ s2 lr dr vr2 ⟨gf, rows, sure⟩ R2) → Calls Try.prog 30 #[.pointer (some ⟨lb, 0, none⟩)] w' fun e w2 => ∃ u, e = .returned u ∧ Row w2 w2.heap.size u (sv rows) ∧ TL W w2 lb db v2 ⟨gf, rows, sure⟩ s2 lr dr vr2 ⟨gf, rows, sure⟩ R2) := Lib.hid fun w' h => qAll h.out
              have HSAME : Hid (∀ w' u, Hid (TL W w' lb db v2 ⟨gf, rows, sure⟩ s2 lr dr vr2 ⟨gf, rows, sure⟩ R2) → Hid (Row w' w'.heap.size u (sv rows)) → Calls Try.prog 29 #[u, vr2] w' fun e w2 => e = .returned (.bool true) ∧ TL W w2 lb db v2 ⟨gf, rows, sure⟩ s2 lr dr vr2 ⟨gf, rows, sure⟩ R2) := Lib.hid fun w' u h hu => qSame h.out hu.out (by have := HG2.out.ex; have := ext_len rows; simp only at *; omega)
              have HSURE : Hid (∀ w', Hid (TL W w' lb db v2 ⟨gf, rows, sure⟩ s2 lr dr vr2 ⟨gf, rows, sure⟩ R2) → Calls Try.prog 31 #[.pointer (some ⟨lb, 0, none⟩)] w' fun e w2 => e = .returned (.int .i64 (sure : Int)) ∧ TL W w2 lb db v2 ⟨gf, rows, sure⟩ s2 lr dr vr2 ⟨gf, rows, sure⟩ R2) := Lib.hid fun w' h => qSure h.out
              have HC2 : Hid (∀ w', Hid (TL W w' lb db v2 ⟨gf, rows, sure⟩ s2 lr dr vr2 ⟨gf, rows, sure⟩ R2) → w'.cell? ⟨lr, 2, none⟩ = some vr2) := Lib.hid fun w' h => h.out.rcells.1
              have HC3 : Hid (∀ w', Hid (TL W w' lb db v2 ⟨gf, rows, sure⟩ s2 lr dr vr2 ⟨gf, rows, sure⟩ R2) → w'.cell? ⟨lr, 3, none⟩ = some (.int .i64 (sure : Int))) := Lib.hid fun w' h => h.out.rcells.2
              have HEND : Hid (∀ (w' : World) (E' : Int), Hid (TL W w' lb db v2 ⟨gf, rows, sure⟩ s2 lr dr vr2 ⟨gf, rows, sure⟩ R2) → JT W f l db dr (.pointer (some ⟨lb, 0, none⟩)) (.int .i64 E') (.pointer (some ⟨lr, 0, none⟩)) (.int .i64 E') (.int .i64 ((k : Int) + 1)) w') := Lib.hid fun w' E' h => ⟨k + 1, lb, lr, v2, vr2, ⟨gf, rows, sure⟩, s2, K2, E', E', rfl, rfl, rfl, rfl, by go_num, hlt, by rw [HRR.out]; exact h.out, HG2.out, HK2.out⟩
              have H0 : Hid (TL W w7.drew lb db v2 ⟨gf, rows, sure⟩ s2 lr dr vr2 ⟨gf, rows, sure⟩ R2) := Lib.hid H.out.drew
              clear H HR1 HR2 HX1 HX2 HRR
              have cx := HC2.out _ H0
              have hs1 : (A1.toList != A1.toList) = false := by simp
              have hs2 : (A2.toList != A2.toList) = false := by simp
              have hs3 : ((sure : Int) != (sure : Int)) = false := by simp
              go_wp2_with fail
              go_region_held3 (fun w' => w'.cell? ⟨lr, 2, none⟩ = some vr2) (first | exact cx | exact HC2.out _ (by assumption) | fail) (first | ((with_reducible refine (HALL.out _ (by assumption)).mono ?_); rintro e wN ⟨u, rfl, hU, hT⟩; have T := Lib.hid hT; have U := Lib.hid hU; clear hT hU) | ((with_reducible refine (HSAME.out _ _ (by assumption) (by assumption)).mono ?_); rintro e wN ⟨rfl, hT⟩; have T := Lib.hid hT; clear hT))
              all_goals
                have H1 := Lib.hid T.out.drew
                have cy := HC3.out _ H1
                clear cx
                go_wp2_with fail
                go_region_held3 (fun w' => w'.cell? ⟨lr, 3, none⟩ = some (.int .i64 (sure : Int))) (first | exact cy | exact HC3.out _ (by assumption) | fail) (((with_reducible refine (HSURE.out _ (by assumption)).mono ?_); rintro e wN ⟨rfl, hT⟩; have T3 := Lib.hid hT; clear hT))
                all_goals
                  go_wp2_with fail
                  go_roundw
                  case rel => exact HEND.out _ _ (by assumption)
                  case measure => simp [intOf]; omega
          · as_aux_lemma =>
              have HUKK : Hid (∀ w', Below W.heap.size W w' → IRow w' w'.heap.size (.slice Ak ks.length capk) ks) := Lib.hid fun w' h => HUK.out.keep h
              have HC := Lib.hid (xCrash HX0.out _ ks (HUKK.out _ HX0.out.tl.bel) (by have := HKL.out; unfold maxLen; omega))
              clear HX0
              go_wp2_with fail
              refine HC.out.mono ?_; rintro e w2 ⟨rfl, hx⟩
              have HX := Lib.hid hx; clear hx HC x0 x1 x2 x3 x4
              have hbx := HX.out.1
              have x0 := hbx.cell 0
              have x1 := hbx.cell 1
              have x2 := hbx.cell 2
              have x3 := hbx.cell 3
              have x4 := hbx.cell 4
              simp at x0 x1 x2 x3 x4
              clear hbx
              have HC := Lib.hid (qCrashR HX.out.tl (.slice Ak ks.length capk) ks (HUKK.out _ HX.out.tl.bel) (irow_old HUK.out))
              rw [wk_rcrash] at HC
              go_wp2_with fail
              refine HC.out.mono ?_; rintro e w3 ⟨rfl, ht⟩
              have H := Lib.hid ht; clear ht HC HX x0 x1 x2 x3 x4 HUKK
              have HC := Lib.hid (qStart H.out)
              go_wp2_with fail
              refine HC.out.mono ?_; rintro e w4 ⟨rfl, ht⟩
              replace H := Lib.hid ht; clear ht HC
              have HC := Lib.hid (qStartR H.out)
              go_wp2_with fail
              refine HC.out.mono ?_; rintro e w5 ⟨rfl, ht⟩
              have HT : Hid (TR W w5 db dr (s.crash ks).start ((s.crash ks).start.wk K)) := Lib.hid (TL.dsks ht)
              have HGP : Hid ((s.crash ks).start.pend.length ≤ 2000 * (k + 1)) := Lib.hid (by have h1 := Dk.crash_pend s ks; have := HG0.out.pe; show (s.crash ks).pend.length ≤ _; omega)
              obtain ⟨K2, hK2⟩ : ∃ K2, K = K2 := ⟨_, rfl⟩
              have HK2 : Hid ((s.crash ks).start.calls ≠ 0 → K2 = (s.crash ks).start.keep) := Lib.hid (hK2 ▸ (crash_kk s ks K HK0.out))
              rw [hK2] at HT
              clear ht HC H hK2
              obtain ⟨s2, hs2⟩ : ∃ s2, (s.crash ks).start = s2 := ⟨_, rfl⟩
              rw [hs2] at HT HGP HK2
              clear hs2 HG0 HK0
              have HOK2 := Lib.hid HT.out.ok1
              obtain ⟨⟨E, og⟩, ho⟩ : ∃ q, opn s2 f = q := ⟨_, rfl⟩
              have HO := Lib.hid ho
              have HC := Lib.hid (oOpen HT.out f HF6.out ho)
              rcases og with _ | g2
              · clear ho
                go_wp2_with fail
                refine HC.out.mono ?_; rintro e w6 ⟨rfl, h6⟩
                have HT2 := Lib.hid h6; clear h6 HC HT
                have HC := Lib.hid (oOpenN HT2.out f HF6.out HO.out)
                have hq : (E != E) = false := by simp
                go_wp2_with fail
                refine HC.out.mono ?_; rintro e w7 ⟨rfl, h7⟩
                have HE := Lib.hid h7.bel; clear h7 HC HT2
                go_wp2_with fail
                go_ret
                exact ⟨rfl, HE.out⟩
              · have hos := opn_some HOK2.out ho
                have HG2 : Hid (GI f (k + 1) g2 s2) := Lib.hid ⟨hos.2.1, by have := hos.2.2.1; omega, hos.2.2.2, HGP.out⟩
                clear ho hos HGP HOK2
                go_wp2_with fail
                refine HC.out.mono ?_; rintro e w6 ⟨lb2, v2, rfl, h6⟩
                have HH := Lib.hid h6; clear h6 HC HT
                have HC := Lib.hid (oOpenS HH.out f HF6.out (by rw [opn_wk]; exact HO.out))
                go_wp2_with fail
                refine HC.out.mono ?_; rintro e w7 ⟨lr2, vr2, rfl, ht⟩
                have H := Lib.hid ht; clear ht HC HH HO
                clear vl vr
                obtain ⟨⟨A1, c1⟩, hr1⟩ : ∃ q, s2.read f = q := ⟨_, rfl⟩
                obtain ⟨⟨A2, c2⟩, hr2⟩ : ∃ q, s2.read (f + 1) = q := ⟨_, rfl⟩
                obtain ⟨R2, hR2⟩ : ∃ R2, s2.wk K2 = R2 := ⟨_, rfl⟩
                have HRR : Hid (s2.wk K2 = R2) := Lib.hid hR2
                have HR1 : Hid (s2.read f = (A1, c1)) := Lib.hid hr1
                have HR2 : Hid (s2.read (f + 1) = (A2, c2)) := Lib.hid hr2
                have HX1 : Hid (R2.read f = (A1, c1)) := Lib.hid (by rw [← hR2]; exact hr1)
                have HX2 : Hid (R2.read (f + 1) = (A2, c2)) := Lib.hid (by rw [← hR2]; exact hr2)
                rw [hR2] at H
                clear hr1 hr2 hR2
                have e1 : IntKind.i64.wrap (f + 1) = f + 1 := IntWalk.i64_in _ (by have := HF6.out; omega)
                have hq : (E != E) = false := by simp
                have HC := Lib.hid (qRead H.out f)
                rw [HR1.out] at HC
                go_wp2_with fail
                refine HC.out.mono ?_; rintro e w4 ⟨rfl, ht⟩
                replace H := Lib.hid ht; clear ht HC
                have HC := Lib.hid (qReadR H.out f)
                rw [HX1.out] at HC
                go_wp2_with fail
                refine HC.out.mono ?_; rintro e w5 ⟨rfl, ht⟩
                replace H := Lib.hid ht; clear ht HC
                have HC := Lib.hid (qRead H.out (f + 1))
                rw [HR2.out] at HC
                go_wp2_with fail
                refine HC.out.mono ?_; rintro e w6 ⟨rfl, ht⟩
                replace H := Lib.hid ht; clear ht HC
                have HC := Lib.hid (qReadR H.out (f + 1))
                rw [HX2.out] at HC
                go_wp2_with fail
                refine HC.out.mono ?_; rintro e w7 ⟨rfl, ht⟩
                replace H := Lib.hid ht; clear ht HC
                obtain ⟨gf, rows, sure⟩ := g2
                have HALL : Hid (∀ w', Hid (TL W w' lb2 db v2 ⟨gf, rows, sure⟩ s2 lr2 dr vr2 ⟨gf, rows, sure⟩ R2) → Calls Try.prog 30 #[.pointer (some ⟨lb2, 0, none⟩)] w' fun e w2 => ∃ u, e = .returned u ∧ Row w2 w2.heap.size u (sv rows) ∧ TL W w2 lb2 db v2 ⟨gf, rows, sure⟩ s2 lr2 dr vr2 ⟨gf, rows, sure⟩ R2) := Lib.hid fun w' h => qAll h.out
                have HSAME : Hid (∀ w' u, Hid (TL W w' lb2 db v2 ⟨gf, rows, sure⟩ s2 lr2 dr vr2 ⟨gf, rows, sure⟩ R2) → Hid (Row w' w'.heap.size u (sv rows)) → Calls Try.prog 29 #[u, vr2] w' fun e w2 => e = .returned (.bool true) ∧ TL W w2 lb2 db v2 ⟨gf, rows, sure⟩ s2 lr2 dr vr2 ⟨gf, rows, sure⟩ R2) := Lib.hid fun w' u h hu => qSame h.out hu.out (by have := HG2.out.ex; have := ext_len rows; simp only at *; omega)
                have HSURE : Hid (∀ w', Hid (TL W w' lb2 db v2 ⟨gf, rows, sure⟩ s2 lr2 dr vr2 ⟨gf, rows, sure⟩ R2) → Calls Try.prog 31 #[.pointer (some ⟨lb2, 0, none⟩)] w' fun e w2 => e = .returned (.int .i64 (sure : Int)) ∧ TL W w2 lb2 db v2 ⟨gf, rows, sure⟩ s2 lr2 dr vr2 ⟨gf, rows, sure⟩ R2) := Lib.hid fun w' h => qSure h.out
                have HC2 : Hid (∀ w', Hid (TL W w' lb2 db v2 ⟨gf, rows, sure⟩ s2 lr2 dr vr2 ⟨gf, rows, sure⟩ R2) → w'.cell? ⟨lr2, 2, none⟩ = some vr2) := Lib.hid fun w' h => h.out.rcells.1
                have HC3 : Hid (∀ w', Hid (TL W w' lb2 db v2 ⟨gf, rows, sure⟩ s2 lr2 dr vr2 ⟨gf, rows, sure⟩ R2) → w'.cell? ⟨lr2, 3, none⟩ = some (.int .i64 (sure : Int))) := Lib.hid fun w' h => h.out.rcells.2
                have HEND : Hid (∀ (w' : World) (E' : Int), Hid (TL W w' lb2 db v2 ⟨gf, rows, sure⟩ s2 lr2 dr vr2 ⟨gf, rows, sure⟩ R2) → JT W f l db dr (.pointer (some ⟨lb2, 0, none⟩)) (.int .i64 E') (.pointer (some ⟨lr2, 0, none⟩)) (.int .i64 E') (.int .i64 ((k : Int) + 1)) w') := Lib.hid fun w' E' h => ⟨k + 1, lb2, lr2, v2, vr2, ⟨gf, rows, sure⟩, s2, K2, E', E', rfl, rfl, rfl, rfl, by go_num, hlt, by rw [HRR.out]; exact h.out, HG2.out, HK2.out⟩
                have H0 : Hid (TL W w7.drew lb2 db v2 ⟨gf, rows, sure⟩ s2 lr2 dr vr2 ⟨gf, rows, sure⟩ R2) := Lib.hid H.out.drew
                clear H HR1 HR2 HX1 HX2 HRR
                have cx := HC2.out _ H0
                have hs1 : (A1.toList != A1.toList) = false := by simp
                have hs2 : (A2.toList != A2.toList) = false := by simp
                have hs3 : ((sure : Int) != (sure : Int)) = false := by simp
                go_wp2_with fail
                go_region_held3 (fun w' => w'.cell? ⟨lr2, 2, none⟩ = some vr2) (first | exact cx | exact HC2.out _ (by assumption) | fail) (first | ((with_reducible refine (HALL.out _ (by assumption)).mono ?_); rintro e wN ⟨u, rfl, hU, hT⟩; have T := Lib.hid hT; have U := Lib.hid hU; clear hT hU) | ((with_reducible refine (HSAME.out _ _ (by assumption) (by assumption)).mono ?_); rintro e wN ⟨rfl, hT⟩; have T := Lib.hid hT; clear hT))
                all_goals
                  have H1 := Lib.hid T.out.drew
                  have cy := HC3.out _ H1
                  clear cx
                  go_wp2_with fail
                  go_region_held3 (fun w' => w'.cell? ⟨lr2, 3, none⟩ = some (.int .i64 (sure : Int))) (first | exact cy | exact HC3.out _ (by assumption) | fail) (((with_reducible refine (HSURE.out _ (by assumption)).mono ?_); rintro e wN ⟨rfl, hT⟩; have T3 := Lib.hid hT; clear hT))
                  all_goals
                    go_wp2_with fail
                    go_roundw
                    case rel => exact HEND.out _ _ (by assumption)
                    case measure => simp [intOf]; omega
          · as_aux_lemma =>
              have HG2 : Hid (GI f (k + 1) g (s.lose (nn % 3))) := Lib.hid ⟨HG0.out.fi, Nat.le_trans HG0.out.ex (by omega), HG0.out.su, Nat.le_trans HG0.out.pe (by omega)⟩
              obtain ⟨K2, hK2⟩ : ∃ K2, K = K2 := ⟨_, rfl⟩
              have HK2 : Hid ((s.lose (nn % 3)).calls ≠ 0 → K2 = (s.lose (nn % 3)).keep) := Lib.hid (hK2 ▸ HK0.out)
              have HP := Lib.hid (fun w => pick3P nn HNN.out.1 HNN.out.2 w)
              have HN3 : Hid (nn % 3 ≤ 9223372036854775807) := Lib.hid (by omega)
              obtain ⟨N3, hN3⟩ : ∃ N, nn % 3 = N := ⟨_, rfl⟩
              rw [hN3] at HP HN3 HG2 HK2
              have HC := Lib.hid (xLose HX0.out N3 HN3.out)
              have HCR := Lib.hid (fun w' v' s' (h : TL W w' lb db v' g s' lr dr vr g (s.wk K)) => qLoseR h N3 HN3.out)
              clear hN3 HX0
              go_wp2_with fail
              refine (HP.out _).mono ?_; rintro e w1 ⟨rfl, rfl⟩
              go_wp2_with fail
              refine HC.out.mono ?_; rintro e w2 ⟨rfl, hx⟩
              have HX := Lib.hid hx; clear hx HC x0 x1 x2 x3 x4
              have hbx := HX.out.1
              have x0 := hbx.cell 0
              have x1 := hbx.cell 1
              have x2 := hbx.cell 2
              have x3 := hbx.cell 3
              have x4 := hbx.cell 4
              simp at x0 x1 x2 x3 x4
              clear hbx
              have HC := Lib.hid (HCR.out _ _ _ HX.out.tl)
              go_wp2_with fail
              refine (HP.out _).mono ?_; rintro e w1 ⟨rfl, rfl⟩
              go_wp2_with fail
              refine HC.out.mono ?_; rintro e w3 ⟨rfl, ht⟩
              have H : Hid (TL W w3 lb db vl g (s.lose N3) lr dr vr g ((s.lose N3).wk K2)) := Lib.hid (hK2 ▸ ht)
              clear ht HC HCR HX HP hK2 x0 x1 x2 x3 x4
              obtain ⟨s2, hs2⟩ : ∃ s2, s.lose N3 = s2 := ⟨_, rfl⟩
              rw [hs2] at H HG2 HK2
              clear hs2
              obtain ⟨g2, rfl⟩ : ∃ g2, g2 = g := ⟨_, rfl⟩
              obtain ⟨v2, rfl⟩ : ∃ v2, v2 = vl := ⟨_, rfl⟩
              obtain ⟨vr2, rfl⟩ : ∃ v2, v2 = vr := ⟨_, rfl⟩
              obtain ⟨E, hE⟩ : ∃ E : Int, E = 0 := ⟨_, rfl⟩
              obtain ⟨⟨A1, c1⟩, hr1⟩ : ∃ q, s2.read f = q := ⟨_, rfl⟩
              obtain ⟨⟨A2, c2⟩, hr2⟩ : ∃ q, s2.read (f + 1) = q := ⟨_, rfl⟩
              obtain ⟨R2, hR2⟩ : ∃ R2, s2.wk K2 = R2 := ⟨_, rfl⟩
              have HRR : Hid (s2.wk K2 = R2) := Lib.hid hR2
              have HR1 : Hid (s2.read f = (A1, c1)) := Lib.hid hr1
              have HR2 : Hid (s2.read (f + 1) = (A2, c2)) := Lib.hid hr2
              have HX1 : Hid (R2.read f = (A1, c1)) := Lib.hid (by rw [← hR2]; exact hr1)
              have HX2 : Hid (R2.read (f + 1) = (A2, c2)) := Lib.hid (by rw [← hR2]; exact hr2)
              rw [hR2] at H
              clear hr1 hr2 hR2
              have e1 : IntKind.i64.wrap (f + 1) = f + 1 := IntWalk.i64_in _ (by have := HF6.out; omega)
              have HC := Lib.hid (qRead H.out f)
              rw [HR1.out] at HC
              go_wp2_with fail
              refine HC.out.mono ?_; rintro e w4 ⟨rfl, ht⟩
              replace H := Lib.hid ht; clear ht HC
              have HC := Lib.hid (qReadR H.out f)
              rw [HX1.out] at HC
              go_wp2_with fail
              refine HC.out.mono ?_; rintro e w5 ⟨rfl, ht⟩
              replace H := Lib.hid ht; clear ht HC
              have HC := Lib.hid (qRead H.out (f + 1))
              rw [HR2.out] at HC
              go_wp2_with fail
              refine HC.out.mono ?_; rintro e w6 ⟨rfl, ht⟩
              replace H := Lib.hid ht; clear ht HC
              have HC := Lib.hid (qReadR H.out (f + 1))
              rw [HX2.out] at HC
              go_wp2_with fail
              refine HC.out.mono ?_; rintro e w7 ⟨rfl, ht⟩
              replace H := Lib.hid ht; clear ht HC
              obtain ⟨gf, rows, sure⟩ := g2
              have HALL : Hid (∀ w', Hid (TL W w' lb db v2 ⟨gf, rows, sure⟩ s2 lr dr vr2 ⟨gf, rows, sure⟩ R2) → Calls Try.prog 30 #[.pointer (some ⟨lb, 0, none⟩)] w' fun e w2 => ∃ u, e = .returned u ∧ Row w2 w2.heap.size u (sv rows) ∧ TL W w2 lb db v2 ⟨gf, rows, sure⟩ s2 lr dr vr2 ⟨gf, rows, sure⟩ R2) := Lib.hid fun w' h => qAll h.out
              have HSAME : Hid (∀ w' u, Hid (TL W w' lb db v2 ⟨gf, rows, sure⟩ s2 lr dr vr2 ⟨gf, rows, sure⟩ R2) → Hid (Row w' w'.heap.size u (sv rows)) → Calls Try.prog 29 #[u, vr2] w' fun e w2 => e = .returned (.bool true) ∧ TL W w2 lb db v2 ⟨gf, rows, sure⟩ s2 lr dr vr2 ⟨gf, rows, sure⟩ R2) := Lib.hid fun w' u h hu => qSame h.out hu.out (by have := HG2.out.ex; have := ext_len rows; simp only at *; omega)
              have HSURE : Hid (∀ w', Hid (TL W w' lb db v2 ⟨gf, rows, sure⟩ s2 lr dr vr2 ⟨gf, rows, sure⟩ R2) → Calls Try.prog 31 #[.pointer (some ⟨lb, 0, none⟩)] w' fun e w2 => e = .returned (.int .i64 (sure : Int)) ∧ TL W w2 lb db v2 ⟨gf, rows, sure⟩ s2 lr dr vr2 ⟨gf, rows, sure⟩ R2) := Lib.hid fun w' h => qSure h.out
              have HC2 : Hid (∀ w', Hid (TL W w' lb db v2 ⟨gf, rows, sure⟩ s2 lr dr vr2 ⟨gf, rows, sure⟩ R2) → w'.cell? ⟨lr, 2, none⟩ = some vr2) := Lib.hid fun w' h => h.out.rcells.1
              have HC3 : Hid (∀ w', Hid (TL W w' lb db v2 ⟨gf, rows, sure⟩ s2 lr dr vr2 ⟨gf, rows, sure⟩ R2) → w'.cell? ⟨lr, 3, none⟩ = some (.int .i64 (sure : Int))) := Lib.hid fun w' h => h.out.rcells.2
              have HEND : Hid (∀ (w' : World) (E' : Int), Hid (TL W w' lb db v2 ⟨gf, rows, sure⟩ s2 lr dr vr2 ⟨gf, rows, sure⟩ R2) → JT W f l db dr (.pointer (some ⟨lb, 0, none⟩)) (.int .i64 E') (.pointer (some ⟨lr, 0, none⟩)) (.int .i64 E') (.int .i64 ((k : Int) + 1)) w') := Lib.hid fun w' E' h => ⟨k + 1, lb, lr, v2, vr2, ⟨gf, rows, sure⟩, s2, K2, E', E', rfl, rfl, rfl, rfl, by go_num, hlt, by rw [HRR.out]; exact h.out, HG2.out, HK2.out⟩
              have H0 : Hid (TL W w7.drew lb db v2 ⟨gf, rows, sure⟩ s2 lr dr vr2 ⟨gf, rows, sure⟩ R2) := Lib.hid H.out.drew
              clear H HR1 HR2 HX1 HX2 HRR
              have cx := HC2.out _ H0
              have hs1 : (A1.toList != A1.toList) = false := by simp
              have hs2 : (A2.toList != A2.toList) = false := by simp
              have hs3 : ((sure : Int) != (sure : Int)) = false := by simp
              go_wp2_with fail
              go_region_held3 (fun w' => w'.cell? ⟨lr, 2, none⟩ = some vr2) (first | exact cx | exact HC2.out _ (by assumption) | fail) (first | ((with_reducible refine (HALL.out _ (by assumption)).mono ?_); rintro e wN ⟨u, rfl, hU, hT⟩; have T := Lib.hid hT; have U := Lib.hid hU; clear hT hU) | ((with_reducible refine (HSAME.out _ _ (by assumption) (by assumption)).mono ?_); rintro e wN ⟨rfl, hT⟩; have T := Lib.hid hT; clear hT))
              all_goals
                have H1 := Lib.hid T.out.drew
                have cy := HC3.out _ H1
                clear cx
                go_wp2_with fail
                go_region_held3 (fun w' => w'.cell? ⟨lr, 3, none⟩ = some (.int .i64 (sure : Int))) (first | exact cy | exact HC3.out _ (by assumption) | fail) (((with_reducible refine (HSURE.out _ (by assumption)).mono ?_); rintro e wN ⟨rfl, hT⟩; have T3 := Lib.hid hT; clear hT))
                all_goals
                  go_wp2_with fail
                  go_roundw
                  case rel => exact HEND.out _ _ (by assumption)
                  case measure => simp [intOf]; omega
        · obtain rfl : k = l.length := by omega
          have HE := Lib.hid HL.out.bel
          clear HL hlt
          go_wp2_with fail
          go_ret
          exact ⟨rfl, HE.out⟩
    · have hbad : f < 0 ∨ 6 < f := by omega
      have HC := Lib.hid (oBad HT.out f hbad)
      have HCR := Lib.hid (fun w' (h : TR W w' db dr dk0 dk0) => oBadR h f hbad)
      clear hbad hf6
      go_wp2_with fail
      refine HC.out.mono ?_; rintro e w5 ⟨rfl, h5⟩
      have HT2 := Lib.hid h5; clear h5 HC HT
      have HC := Lib.hid (HCR.out _ HT2.out)
      go_wp2_with fail
      refine HC.out.mono ?_; rintro e w6 ⟨rfl, h6⟩
      have HE := Lib.hid h6.bel; clear h6 HC HCR HT2
      go_wp2_with fail
      go_loopw [9, 10, 11, 12, 13] (fun lv ev mv xv i wl => lv = .pointer none ∧ ev = .int .i64 1 ∧ mv = .pointer none ∧ xv = .int .i64 1 ∧ i = .int .i64 0 ∧ Below W.heap.size W wl) (fun _ _ _ _ i _ => 0)
      case atStart => exact ⟨rfl, rfl, rfl, rfl, rfl, HE.out⟩
      case round =>
        clear HE
        obtain ⟨rfl, rfl, rfl, rfl, rfl, hE⟩ := hrel
        have HE := Lib.hid hE; clear hE
        by_cases hlt : (0 : Int) < l.length
        · go_wp2_with fail
          go_ret
          exact ⟨rfl, HE.out⟩
        · go_wp2_with fail
          go_ret
          exact ⟨rfl, HE.out⟩
end Go.Proofs.Ythdmcjiccbgknaa.journalTells
