/-
  Package journal: inOrder, Flush, Rewrite.
-/
import Derived.Test.YtognomkhkoiabaaJ15
import Derived.Laws.EntriesVeiled
namespace Go.Proofs.Ytognomkhkoiabaa
set_option linter.unusedVariables false
set_option linter.unusedSimpArgs false
open Go.RowKit

abbrev tF : TypeId := 38
def fF (lb : Nat) : Value := .func (.func 26) #[.pointer (some ⟨lb, 0, none⟩)] #[]
def fF1 (bx : Nat) : Value := .func (.func 27) #[] #[.pointer (some ⟨bx, 0, none⟩)]
def fR1 (bl bn : Nat) : Value := .func (.func 31) #[] #[.pointer (some ⟨bl, 0, none⟩), .pointer (some ⟨bn, 0, none⟩)]
def fR2 (bl bn br : Nat) : Value := .func (.func 33) #[] #[.pointer (some ⟨bl, 0, none⟩), .pointer (some ⟨bn, 0, none⟩), .pointer (some ⟨br, 0, none⟩)]
def fR3 (bl bn : Nat) : Value := .func (.func 35) #[] #[.pointer (some ⟨bl, 0, none⟩), .pointer (some ⟨bn, 0, none⟩)]
def fR4 (bl bn : Nat) : Value := .func (.func 37) #[] #[.pointer (some ⟨bl, 0, none⟩), .pointer (some ⟨bn, 0, none⟩)]
theorem runT_ok {t : Dk → Int × Dk} {T : List (Dk → Int × Dk)} {s : Dk} {E : Int} {S : Dk} (h : t s = (E, S)) (h0 : E = 0) : runT (t :: T) s = runT T S := by
  show (if (t s).1 = 0 then runT T (t s).2 else t s) = _
  rw [h, if_pos h0]
theorem runT_no {t : Dk → Int × Dk} {T : List (Dk → Int × Dk)} {s : Dk} {E : Int} {S : Dk} (h : t s = (E, S)) (h0 : E ≠ 0) : runT (t :: T) s = (E, S) := by
  show (if (t s).1 = 0 then runT T (t s).2 else t s) = _
  rw [h, if_neg h0]

theorem le_of_step {a b c : Nat} (h : a ≤ b) (k : c ≤ a) : c ≤ b := Nat.le_trans k h
def orderFRel (B : Nat → Prop) (w : World) (lb : Nat) (db : Nat) (v : Value) (g : Lg) (s : Dk) (R : Int × Dk) (i : Value) (wl : World) : Prop := ∃ s', LOp B w wl lb db v g s' ∧ ((i = .int .i64 0 ∧ R = runT [fun s => s.flush g.file, fun s => s.write g.file 0 (hdr (ext g.rows) g.rows.length), fun s => s.flush g.file] s' ∧ s'.pend.length ≤ s.pend.length) ∨ (i = .int .i64 1 ∧ R = runT [fun s => s.write g.file 0 (hdr (ext g.rows) g.rows.length), fun s => s.flush g.file] s' ∧ s'.pend.length ≤ s.pend.length) ∨ (i = .int .i64 2 ∧ R = runT [fun s => s.flush g.file] s') ∨ (i = .int .i64 3 ∧ R = runT [] s'))
set_option maxRecDepth 100000 in
set_option maxHeartbeats 8000000 in
theorem orderF {B : Nat → Prop} {w : World} {lb : Nat} {db : Nat} {v : Value} {g : Lg} {s : Dk} (h : LD B w lb db v g s) (gS : Nat) (bx : Nat) (hS : Blk w gS tF #[fF lb, fF1 bx, fF lb]) (nS : ¬ B gS) (hb : Blk w bx tL #[.pointer (some ⟨lb, 0, none⟩)]) (hn : ¬ B bx) (hx : ext g.rows ≤ 1000000000) (hp : s.pend.length + 16 ≤ 1000000) :
    Calls Try.prog 30 #[.slice (some ⟨gS, 0, none⟩) 3 3] w fun e w' => e = .returned (.int .i64 (runT [fun s => s.flush g.file, fun s => s.write g.file 0 (hdr (ext g.rows) g.rows.length), fun s => s.flush g.file] s).1) ∧ LOp B w w' lb db v g (runT [fun s => s.flush g.file, fun s => s.write g.file 0 (hdr (ext g.rows) g.rows.length), fun s => s.flush g.file] s).2 := by
  obtain ⟨R, hR⟩ : ∃ R, runT [fun s => s.flush g.file, fun s => s.write g.file 0 (hdr (ext g.rows) g.rows.length), fun s => s.flush g.file] s = R := ⟨_, rfl⟩
  rw [hR]
  have HSS : Hid (∀ w' s', Hid (LOp B w w' lb db v g s') → w'.cell? ⟨gS, 0, none⟩ = some (fF lb) ∧ w'.cell? ⟨gS, 1, none⟩ = some (fF1 bx) ∧ w'.cell? ⟨gS, 2, none⟩ = some (fF lb)) := Lib.hid fun w' s' h => by
    have hk := h.out.keep hS nS
    exact ⟨hk.cell 0, hk.cell 1, hk.cell 2⟩
  have H0 := Lib.hid (LOp.refl h)
  have HR := Lib.hid hR.symm
  unfold fF fF1 at HSS
  have HPN := Lib.hid hp
  have HB1 : Hid (∀ w' s', Hid (LOp B w w' lb db v g s') → s'.pend.length + 16 ≤ 1000000 → Calls Try.prog 27 #[.pointer (some ⟨bx, 0, none⟩)] w' fun e w2 => e = .returned (.int .i64 (s'.write g.file 0 (hdr (ext g.rows) g.rows.length)).1) ∧ LOp B w w2 lb db v g (s'.write g.file 0 (hdr (ext g.rows) g.rows.length)).2) := Lib.hid fun w' s' h hp' => flush1P h.out hb hn hx hp'
  clear hb hn hx hp
  clear hR hS nS
  go_enter Try.func30, Try.ntmps30
  go_wp2_with fail
  go_loopw [8] (fun i wl => orderFRel B  w  lb  db  v  g s R i wl) (fun i _ => 3 - (intOf i).toNat)
  case atStart => exact ⟨s, H0.out, .inl ⟨rfl, HR.out, by first | rfl | exact Nat.le_refl _⟩⟩
  case round =>
    obtain ⟨s', hL, hc⟩ := hrel
    have HL := Lib.hid hL
    obtain ⟨y0, y1, y2⟩ := HSS.out _ _ HL
    clear hL HR H0
    rcases hc with ⟨rfl, hr, hp⟩ | ⟨rfl, hr, hp⟩ | ⟨rfl, hr⟩ | ⟨rfl, hr⟩
    · have HR := Lib.hid hr
      have HP := Lib.hid hp
      have HC := Lib.hid (oFlushFile HL.out)
      obtain ⟨⟨E, S'⟩, hE⟩ : ∃ q, (fun s => s.flush g.file) s' = q := ⟨_, rfl⟩
      have hE2 := hE
      simp only at hE2
      rw [hE2] at HC
      have HE := Lib.hid hE
      clear hr hE hE2 hp
      by_cases hE0 : E = 0
      · have HR2 := Lib.hid (HR.out.trans (runT_ok HE.out hE0))
        subst hE0
        have HP2 : Hid (S'.pend.length ≤ s.pend.length) := Lib.hid (by have := congrArg Prod.snd HE.out; simp only at this; rw [← this]; exact le_of_step HP.out (Dk.flush_pend _ _))
        clear HR
        go_wp2_with fail
        refine HC.out.mono ?_; rintro e w2 ⟨rfl, ho⟩
        have H2 := Lib.hid ho; clear ho HC y0 y1 y2
        have k1 : ((0 : Int) != 0) = false := rfl
        go_wp2_with fail
        go_roundw
        case rel => exact ⟨S', H2.out, .inr (.inl ⟨rfl, HR2.out, HP2.out⟩)⟩
        case measure => simp [intOf]
      · have HR2 := Lib.hid (HR.out.trans (runT_no HE.out hE0))
        have k1 : (E != 0) = true := by rw [bne_iff_ne]; exact hE0
        clear HR hE0
        go_wp2_with fail
        refine HC.out.mono ?_; rintro e w2 ⟨rfl, ho⟩
        have H2 := Lib.hid ho; clear ho HC y0 y1 y2
        go_wp2_with fail
        go_ret
        exact ⟨by rw [HR2.out]; rfl, by rw [HR2.out]; exact H2.out⟩
    · have HR := Lib.hid hr
      have HP := Lib.hid hp
      have HC := Lib.hid (HB1.out _ _ HL (Nat.le_trans (Nat.add_le_add_right HP.out 16) HPN.out))
      obtain ⟨⟨E, S'⟩, hE⟩ : ∃ q, (fun s => s.write g.file 0 (hdr (ext g.rows) g.rows.length)) s' = q := ⟨_, rfl⟩
      have hE2 := hE
      simp only at hE2
      rw [hE2] at HC
      have HE := Lib.hid hE
      clear hr hE hE2 hp
      by_cases hE0 : E = 0
      · have HR2 := Lib.hid (HR.out.trans (runT_ok HE.out hE0))
        subst hE0
        clear HR
        go_wp2_with fail
        refine HC.out.mono ?_; rintro e w2 ⟨rfl, ho⟩
        have H2 := Lib.hid ho; clear ho HC y0 y1 y2
        have k1 : ((0 : Int) != 0) = false := rfl
        go_wp2_with fail
        go_roundw
        case rel => exact ⟨S', H2.out, .inr (.inr (.inl ⟨rfl, HR2.out⟩))⟩
        case measure => simp [intOf]
      · have HR2 := Lib.hid (HR.out.trans (runT_no HE.out hE0))
        have k1 : (E != 0) = true := by rw [bne_iff_ne]; exact hE0
        clear HR hE0
        go_wp2_with fail
        refine HC.out.mono ?_; rintro e w2 ⟨rfl, ho⟩
        have H2 := Lib.hid ho; clear ho HC y0 y1 y2
        go_wp2_with fail
        go_ret
        exact ⟨by rw [HR2.out]; rfl, by rw [HR2.out]; exact H2.out⟩
    · have HR := Lib.hid hr
      have HC := Lib.hid (oFlushFile HL.out)
      obtain ⟨⟨E, S'⟩, hE⟩ : ∃ q, (fun s => s.flush g.file) s' = q := ⟨_, rfl⟩
      have hE2 := hE
      simp only at hE2
      rw [hE2] at HC
      have HE := Lib.hid hE
      clear hr hE hE2
      by_cases hE0 : E = 0
      · have HR2 := Lib.hid (HR.out.trans (runT_ok HE.out hE0))
        subst hE0
        clear HR
        go_wp2_with fail
        refine HC.out.mono ?_; rintro e w2 ⟨rfl, ho⟩
        have H2 := Lib.hid ho; clear ho HC y0 y1 y2
        have k1 : ((0 : Int) != 0) = false := rfl
        go_wp2_with fail
        go_roundw
        case rel => exact ⟨S', H2.out, .inr (.inr (.inr (⟨rfl, HR2.out⟩)))⟩
        case measure => simp [intOf]
      · have HR2 := Lib.hid (HR.out.trans (runT_no HE.out hE0))
        have k1 : (E != 0) = true := by rw [bne_iff_ne]; exact hE0
        clear HR hE0
        go_wp2_with fail
        refine HC.out.mono ?_; rintro e w2 ⟨rfl, ho⟩
        have H2 := Lib.hid ho; clear ho HC y0 y1 y2
        go_wp2_with fail
        go_ret
        exact ⟨by rw [HR2.out]; rfl, by rw [HR2.out]; exact H2.out⟩
    · have HR := Lib.hid hr
      clear hr y0 y1 y2
      go_wp2_with fail
      go_ret
      exact ⟨by rw [HR.out]; rfl, by rw [HR.out]; exact HL.out⟩
def orderRRel (B : Nat → Prop) (w : World) (lb : Nat) (db : Nat) (v : Value) (g : Lg) (nx : Int) (l : List ByteArray) (s : Dk) (R : Int × Dk) (i : Value) (wl : World) : Prop := ∃ s', LOp B w wl lb db v g s' ∧ ((i = .int .i64 0 ∧ R = runT [fun s => s.cut nx 0, fun s => s.write nx 0 (whl l), fun s => s.flush nx, fun s => s.turn g.file nx] s' ∧ s'.pend.length ≤ s.pend.length) ∨ (i = .int .i64 1 ∧ R = runT [fun s => s.write nx 0 (whl l), fun s => s.flush nx, fun s => s.turn g.file nx] s' ∧ s'.pend.length ≤ s.pend.length) ∨ (i = .int .i64 2 ∧ R = runT [fun s => s.flush nx, fun s => s.turn g.file nx] s') ∨ (i = .int .i64 3 ∧ R = runT [fun s => s.turn g.file nx] s') ∨ (i = .int .i64 4 ∧ R = runT [] s'))
set_option maxRecDepth 100000 in
set_option maxHeartbeats 8000000 in
theorem orderR {B : Nat → Prop} {w : World} {lb : Nat} {db : Nat} {v : Value} {g : Lg} {nx : Int} {l : List ByteArray} {s : Dk} (h : LD B w lb db v g s) (gS : Nat) (bl bn br : Nat) (A : Option Addr) (cap : Nat) (hS : Blk w gS tF #[fR1 bl bn, fR2 bl bn br, fR3 bl bn, fR4 bl bn]) (nS : ¬ B gS) (hl : Blk w bl tL #[.pointer (some ⟨lb, 0, none⟩)]) (nl : ¬ B bl) (hn : Blk w bn 3 #[.int .i64 nx]) (nn : ¬ B bn) (hr : Blk w br 33 #[.slice A l.length cap]) (nr : ¬ B br) (hrow : ∀ w' s', Hid (LOp B w w' lb db v g s') → Row w' w'.heap.size (.slice A l.length cap) (sv l)) (hxl : ext l ≤ 900000) (hp : s.pend.length + ext l ≤ 1000000) :
    Calls Try.prog 30 #[.slice (some ⟨gS, 0, none⟩) 4 4] w fun e w' => e = .returned (.int .i64 (runT [fun s => s.cut nx 0, fun s => s.write nx 0 (whl l), fun s => s.flush nx, fun s => s.turn g.file nx] s).1) ∧ LOp B w w' lb db v g (runT [fun s => s.cut nx 0, fun s => s.write nx 0 (whl l), fun s => s.flush nx, fun s => s.turn g.file nx] s).2 := by
  obtain ⟨R, hR⟩ : ∃ R, runT [fun s => s.cut nx 0, fun s => s.write nx 0 (whl l), fun s => s.flush nx, fun s => s.turn g.file nx] s = R := ⟨_, rfl⟩
  rw [hR]
  have HSS : Hid (∀ w' s', Hid (LOp B w w' lb db v g s') → w'.cell? ⟨gS, 0, none⟩ = some (fR1 bl bn) ∧ w'.cell? ⟨gS, 1, none⟩ = some (fR2 bl bn br) ∧ w'.cell? ⟨gS, 2, none⟩ = some (fR3 bl bn) ∧ w'.cell? ⟨gS, 3, none⟩ = some (fR4 bl bn)) := Lib.hid fun w' s' h => by
    have hk := h.out.keep hS nS
    exact ⟨hk.cell 0, hk.cell 1, hk.cell 2, hk.cell 3⟩
  have H0 := Lib.hid (LOp.refl h)
  have HR := Lib.hid hR.symm
  unfold fR1 fR2 fR3 fR4 at HSS
  have HPN := Lib.hid hp
  have HB1 : Hid (∀ w' s', Hid (LOp B w w' lb db v g s') → Calls Try.prog 31 #[.pointer (some ⟨bl, 0, none⟩), .pointer (some ⟨bn, 0, none⟩)] w' fun e w2 => e = .returned (.int .i64 (s'.cut nx 0).1) ∧ LOp B w w2 lb db v g (s'.cut nx 0).2) := Lib.hid fun w' s' h => rewrite1P h.out hl nl hn nn
  have HB2 : Hid (∀ w' s', Hid (LOp B w w' lb db v g s') → s'.pend.length + ext l ≤ 1000000 → Calls Try.prog 33 #[.pointer (some ⟨bl, 0, none⟩), .pointer (some ⟨bn, 0, none⟩), .pointer (some ⟨br, 0, none⟩)] w' fun e w2 => e = .returned (.int .i64 (s'.write nx 0 (whl l)).1) ∧ LOp B w w2 lb db v g (s'.write nx 0 (whl l)).2) := Lib.hid fun w' s' h hp' => rewrite2P h.out hl nl hn nn hr nr (fun w'' h'' => hrow w'' s' h'') hxl hp'
  have HB3 : Hid (∀ w' s', Hid (LOp B w w' lb db v g s') → Calls Try.prog 35 #[.pointer (some ⟨bl, 0, none⟩), .pointer (some ⟨bn, 0, none⟩)] w' fun e w2 => e = .returned (.int .i64 (s'.flush nx).1) ∧ LOp B w w2 lb db v g (s'.flush nx).2) := Lib.hid fun w' s' h => rewrite3P h.out hl nl hn nn
  have HB4 : Hid (∀ w' s', Hid (LOp B w w' lb db v g s') → Calls Try.prog 37 #[.pointer (some ⟨bl, 0, none⟩), .pointer (some ⟨bn, 0, none⟩)] w' fun e w2 => e = .returned (.int .i64 (s'.turn g.file nx).1) ∧ LOp B w w2 lb db v g (s'.turn g.file nx).2) := Lib.hid fun w' s' h => rewrite4P h.out hl nl hn nn
  clear hl nl hn nn hr nr hrow hxl hp
  clear hR hS nS
  go_enter Try.func30, Try.ntmps30
  go_wp2_with fail
  go_loopw [8] (fun i wl => orderRRel B  w  lb  db  v  g  nx  l s R i wl) (fun i _ => 4 - (intOf i).toNat)
  case atStart => exact ⟨s, H0.out, .inl ⟨rfl, HR.out, by first | rfl | exact Nat.le_refl _⟩⟩
  case round =>
    obtain ⟨s', hL, hc⟩ := hrel
    have HL := Lib.hid hL
    obtain ⟨y0, y1, y2, y3⟩ := HSS.out _ _ HL
    clear hL HR H0
    rcases hc with ⟨rfl, hr, hp⟩ | ⟨rfl, hr, hp⟩ | ⟨rfl, hr⟩ | ⟨rfl, hr⟩ | ⟨rfl, hr⟩
    · have HR := Lib.hid hr
      have HP := Lib.hid hp
      have HC := Lib.hid (HB1.out _ _ HL)
      obtain ⟨⟨E, S'⟩, hE⟩ : ∃ q, (fun s => s.cut nx 0) s' = q := ⟨_, rfl⟩
      have hE2 := hE
      simp only at hE2
      rw [hE2] at HC
      have HE := Lib.hid hE
      clear hr hE hE2 hp
      by_cases hE0 : E = 0
      · have HR2 := Lib.hid (HR.out.trans (runT_ok HE.out hE0))
        subst hE0
        have HP2 : Hid (S'.pend.length ≤ s.pend.length) := Lib.hid (by have := congrArg Prod.snd HE.out; simp only at this; rw [← this]; exact le_of_step HP.out (Dk.cut_pend _ _ _))
        clear HR
        go_wp2_with fail
        refine HC.out.mono ?_; rintro e w2 ⟨rfl, ho⟩
        have H2 := Lib.hid ho; clear ho HC y0 y1 y2 y3
        have k1 : ((0 : Int) != 0) = false := rfl
        go_wp2_with fail
        go_roundw
        case rel => exact ⟨S', H2.out, .inr (.inl ⟨rfl, HR2.out, HP2.out⟩)⟩
        case measure => simp [intOf]
      · have HR2 := Lib.hid (HR.out.trans (runT_no HE.out hE0))
        have k1 : (E != 0) = true := by rw [bne_iff_ne]; exact hE0
        clear HR hE0
        go_wp2_with fail
        refine HC.out.mono ?_; rintro e w2 ⟨rfl, ho⟩
        have H2 := Lib.hid ho; clear ho HC y0 y1 y2 y3
        go_wp2_with fail
        go_ret
        exact ⟨by rw [HR2.out]; rfl, by rw [HR2.out]; exact H2.out⟩
    · have HR := Lib.hid hr
      have HP := Lib.hid hp
      have HC := Lib.hid (HB2.out _ _ HL (Nat.le_trans (Nat.add_le_add_right HP.out _) HPN.out))
      obtain ⟨⟨E, S'⟩, hE⟩ : ∃ q, (fun s => s.write nx 0 (whl l)) s' = q := ⟨_, rfl⟩
      have hE2 := hE
      simp only at hE2
      rw [hE2] at HC
      have HE := Lib.hid hE
      clear hr hE hE2 hp
      by_cases hE0 : E = 0
      · have HR2 := Lib.hid (HR.out.trans (runT_ok HE.out hE0))
        subst hE0
        clear HR
        go_wp2_with fail
        refine HC.out.mono ?_; rintro e w2 ⟨rfl, ho⟩
        have H2 := Lib.hid ho; clear ho HC y0 y1 y2 y3
        have k1 : ((0 : Int) != 0) = false := rfl
        go_wp2_with fail
        go_roundw
        case rel => exact ⟨S', H2.out, .inr (.inr (.inl ⟨rfl, HR2.out⟩))⟩
        case measure => simp [intOf]
      · have HR2 := Lib.hid (HR.out.trans (runT_no HE.out hE0))
        have k1 : (E != 0) = true := by rw [bne_iff_ne]; exact hE0
        clear HR hE0
        go_wp2_with fail
        refine HC.out.mono ?_; rintro e w2 ⟨rfl, ho⟩
        have H2 := Lib.hid ho; clear ho HC y0 y1 y2 y3
        go_wp2_with fail
        go_ret
        exact ⟨by rw [HR2.out]; rfl, by rw [HR2.out]; exact H2.out⟩
    · have HR := Lib.hid hr
      have HC := Lib.hid (HB3.out _ _ HL)
      obtain ⟨⟨E, S'⟩, hE⟩ : ∃ q, (fun s => s.flush nx) s' = q := ⟨_, rfl⟩
      have hE2 := hE
      simp only at hE2
      rw [hE2] at HC
      have HE := Lib.hid hE
      clear hr hE hE2
      by_cases hE0 : E = 0
      · have HR2 := Lib.hid (HR.out.trans (runT_ok HE.out hE0))
        subst hE0
        clear HR
        go_wp2_with fail
        refine HC.out.mono ?_; rintro e w2 ⟨rfl, ho⟩
        have H2 := Lib.hid ho; clear ho HC y0 y1 y2 y3
        have k1 : ((0 : Int) != 0) = false := rfl
        go_wp2_with fail
        go_roundw
        case rel => exact ⟨S', H2.out, .inr (.inr (.inr (.inl ⟨rfl, HR2.out⟩)))⟩
        case measure => simp [intOf]
      · have HR2 := Lib.hid (HR.out.trans (runT_no HE.out hE0))
        have k1 : (E != 0) = true := by rw [bne_iff_ne]; exact hE0
        clear HR hE0
        go_wp2_with fail
        refine HC.out.mono ?_; rintro e w2 ⟨rfl, ho⟩
        have H2 := Lib.hid ho; clear ho HC y0 y1 y2 y3
        go_wp2_with fail
        go_ret
        exact ⟨by rw [HR2.out]; rfl, by rw [HR2.out]; exact H2.out⟩
    · have HR := Lib.hid hr
      have HC := Lib.hid (HB4.out _ _ HL)
      obtain ⟨⟨E, S'⟩, hE⟩ : ∃ q, (fun s => s.turn g.file nx) s' = q := ⟨_, rfl⟩
      have hE2 := hE
      simp only at hE2
      rw [hE2] at HC
      have HE := Lib.hid hE
      clear hr hE hE2
      by_cases hE0 : E = 0
      · have HR2 := Lib.hid (HR.out.trans (runT_ok HE.out hE0))
        subst hE0
        clear HR
        go_wp2_with fail
        refine HC.out.mono ?_; rintro e w2 ⟨rfl, ho⟩
        have H2 := Lib.hid ho; clear ho HC y0 y1 y2 y3
        have k1 : ((0 : Int) != 0) = false := rfl
        go_wp2_with fail
        go_roundw
        case rel => exact ⟨S', H2.out, .inr (.inr (.inr (.inr (⟨rfl, HR2.out⟩))))⟩
        case measure => simp [intOf]
      · have HR2 := Lib.hid (HR.out.trans (runT_no HE.out hE0))
        have k1 : (E != 0) = true := by rw [bne_iff_ne]; exact hE0
        clear HR hE0
        go_wp2_with fail
        refine HC.out.mono ?_; rintro e w2 ⟨rfl, ho⟩
        have H2 := Lib.hid ho; clear ho HC y0 y1 y2 y3
        go_wp2_with fail
        go_ret
        exact ⟨by rw [HR2.out]; rfl, by rw [HR2.out]; exact H2.out⟩
    · have HR := Lib.hid hr
      clear hr y0 y1 y2 y3
      go_wp2_with fail
      go_ret
      exact ⟨by rw [HR.out]; rfl, by rw [HR.out]; exact HL.out⟩
end Go.Proofs.Ytognomkhkoiabaa
