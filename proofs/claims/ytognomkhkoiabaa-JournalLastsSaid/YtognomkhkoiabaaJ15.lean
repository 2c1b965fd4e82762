/-
  Package journal: the steps of Flush and Rewrite, in order.
-/
import Derived.Test.YtognomkhkoiabaaJ14
namespace Go.Proofs.Ytognomkhkoiabaa
set_option linter.unusedVariables false
set_option linter.unusedSimpArgs false
open Go.RowKit

/-- Steps up to the first one that fails. -/
def runT : List (Dk → Int × Dk) → Dk → Int × Dk
  | [], s => (0, s)
  | t :: T, s => if (t s).1 = 0 then runT T (t s).2 else t s
theorem oWrite {B : Nat → Prop} {w w1 : World} {lb db : Nat} {v : Value} {g : Lg} {s : Dk} (h : LOp B w w1 lb db v g s) (f a : Int) (t : ByteArray) (hn : s.pend.length + t.size ≤ 1000000) : Calls Try.prog 28 #[.pointer (some ⟨db, 0, none⟩), .int .i64 f, .int .i64 a, .string t] w1 fun e w' => e = .returned (.int .i64 (s.write f a t).1) ∧ LOp B w w' lb db v g (s.write f a t).2 := (gWrite h.at_ f a t hn).mono fun e w' ⟨a, b⟩ => ⟨a, h.trans b⟩
theorem oFlush {B : Nat → Prop} {w w1 : World} {lb db : Nat} {v : Value} {g : Lg} {s : Dk} (h : LOp B w w1 lb db v g s) (f : Int) : Calls Try.prog 36 #[.pointer (some ⟨db, 0, none⟩), .int .i64 f] w1 fun e w' => e = .returned (.int .i64 (s.flush f).1) ∧ LOp B w w' lb db v g (s.flush f).2 := (gFlush h.at_ f).mono fun e w' ⟨a, b⟩ => ⟨a, h.trans b⟩
theorem oCut {B : Nat → Prop} {w w1 : World} {lb db : Nat} {v : Value} {g : Lg} {s : Dk} (h : LOp B w w1 lb db v g s) (f n : Int) : Calls Try.prog 32 #[.pointer (some ⟨db, 0, none⟩), .int .i64 f, .int .i64 n] w1 fun e w' => e = .returned (.int .i64 (s.cut f n).1) ∧ LOp B w w' lb db v g (s.cut f n).2 := (gCut h.at_ f n).mono fun e w' ⟨a, b⟩ => ⟨a, h.trans b⟩
theorem oTurn {B : Nat → Prop} {w w1 : World} {lb db : Nat} {v : Value} {g : Lg} {s : Dk} (h : LOp B w w1 lb db v g s) (f k : Int) : Calls Try.prog 38 #[.pointer (some ⟨db, 0, none⟩), .int .i64 f, .int .i64 k] w1 fun e w' => e = .returned (.int .i64 (s.turn f k).1) ∧ LOp B w w' lb db v g (s.turn f k).2 := (gTurn h.at_ f k).mono fun e w' ⟨a, b⟩ => ⟨a, h.trans b⟩
theorem oFlushFile {B : Nat → Prop} {w w1 : World} {lb db : Nat} {v : Value} {g : Lg} {s : Dk} (h : LOp B w w1 lb db v g s) : Calls Try.prog 26 #[.pointer (some ⟨lb, 0, none⟩)] w1 fun e w' => e = .returned (.int .i64 (s.flush g.file).1) ∧ LOp B w w' lb db v g (s.flush g.file).2 := (gFlushFile h.at_).mono fun e w' ⟨a, b⟩ => ⟨a, h.trans b⟩
/-- A block that no call touches. -/
theorem LOp.keep {B : Nat → Prop} {w w1 : World} {lb db : Nat} {v : Value} {g : Lg} {s : Dk} (h : LOp B w w1 lb db v g s) {b : Nat} {t : TypeId} {cs : Array Value} (hb : Blk w b t cs) (hn : ¬ B b) : Blk w1 b t cs := (h.fr.block b hb.lt hn).trans hb
theorem drew_lop {B : Nat → Prop} {w : World} {lb db : Nat} {v : Value} {g : Lg} {s : Dk} (h : LD B w lb db v g s) : LOp B w w.drew lb db v g s := (LOp.refl h).drew
abbrev tL : TypeId := 28

set_option maxRecDepth 100000 in
set_option maxHeartbeats 8000000 in
theorem flush1P {B : Nat → Prop} {w w1 : World} {lb db bx : Nat} {v : Value} {g : Lg} {s : Dk} (h : LOp B w w1 lb db v g s) (hb : Blk w bx tL #[.pointer (some ⟨lb, 0, none⟩)]) (hn : ¬ B bx) (hx : ext g.rows ≤ 1000000000) (hp : s.pend.length + 16 ≤ 1000000) :
    Calls Try.prog 27 #[.pointer (some ⟨bx, 0, none⟩)] w1 fun e w' => e = .returned (.int .i64 (s.write g.file 0 (hdr (ext g.rows) g.rows.length)).1) ∧ LOp B w w' lb db v g (s.write g.file 0 (hdr (ext g.rows) g.rows.length)).2 := by
  have hll := ext_len g.rows
  have HH := Lib.hid (fun w => headerP (ext g.rows) g.rows.length w (by omega) (by omega) (by omega) (by omega))
  have HW : Hid (∀ w', Hid (LOp B w w' lb db v g s) → Calls Try.prog 28 #[.pointer (some ⟨db, 0, none⟩), .int .i64 g.file, .int .i64 0, .string (hdr (ext g.rows) g.rows.length)] w' fun e w' => e = .returned (.int .i64 (s.write g.file 0 (hdr (ext g.rows) g.rows.length)).1) ∧ LOp B w w' lb db v g (s.write g.file 0 (hdr (ext g.rows) g.rows.length)).2) := Lib.hid fun w' h => oWrite h.out g.file 0 _ (by rw [hdr_size]; exact hp)
  obtain ⟨A, cap, hv⟩ := h.at_.lg.form
  have HCS : Hid (∀ w' s', Hid (LOp B w w' lb db v g s') → w'.cell? ⟨bx, 0, none⟩ = some (.pointer (some ⟨lb, 0, none⟩)) ∧ w'.cell? ⟨lb, 0, none⟩ = some (.pointer (some ⟨db, 0, none⟩)) ∧ w'.cell? ⟨lb, 1, none⟩ = some (.int .i64 g.file) ∧ w'.cell? ⟨lb, 2, none⟩ = some (.slice A g.rows.length cap) ∧ w'.cell? ⟨lb, 4, none⟩ = some (.int .i64 (ext g.rows))) := Lib.hid fun w' s' h => by
    obtain ⟨d0, d1, d2, d3, d4, _⟩ := h.out.at_.lg.cells
    rw [hv] at d2
    exact ⟨(h.out.keep hb hn).cell 0, d0, d1, d2, d4⟩
  have H0 := Lib.hid h.drew
  clear hv
  obtain ⟨X, hX⟩ : ∃ X, ext g.rows = X := ⟨_, rfl⟩
  obtain ⟨N, hN⟩ : ∃ N, g.rows.length = N := ⟨_, rfl⟩
  obtain ⟨gf, hgf⟩ : ∃ gf, g.file = gf := ⟨_, rfl⟩
  rw [hX, hN] at HH
  rw [hX, hN, hgf] at HW HCS ⊢
  obtain ⟨HD, hHD⟩ : ∃ HD, hdr (X : Int) (N : Int) = HD := ⟨_, rfl⟩
  rw [hHD] at HH HW ⊢
  obtain ⟨⟨E, S'⟩, hE⟩ : ∃ q, s.write gf 0 HD = q := ⟨_, rfl⟩
  rw [hE] at HW ⊢
  have CS0 := HCS.out _ _ H0
  clear hX hN hgf hHD hE hx hp hll hn hb h
  go_enter Try.func27, Try.ntmps27
  go_wp2_with fail
  go_region_held3 (fun w' => w'.cell? ⟨bx, 0, none⟩ = some (.pointer (some ⟨lb, 0, none⟩)) ∧ w'.cell? ⟨lb, 0, none⟩ = some (.pointer (some ⟨db, 0, none⟩)) ∧ w'.cell? ⟨lb, 1, none⟩ = some (.int .i64 gf) ∧ w'.cell? ⟨lb, 2, none⟩ = some (.slice A N cap) ∧ w'.cell? ⟨lb, 4, none⟩ = some (.int .i64 X)) (first | exact CS0 | exact HCS.out _ _ (by assumption) | fail) (first
    | (go_at_call 29; (with_reducible refine (HH.out _).mono ?_); rintro e w2 ⟨rfl, hb2⟩; have H2 := Lib.hid (H0.out.below hb2); clear hb2)
    | (go_at_call 28; (with_reducible refine (HW.out _ (by assumption)).mono ?_); rintro e w3 ⟨rfl, ho⟩; have H3 := Lib.hid ho; clear ho))
  go_wp2_with fail
  go_ret
  exact ⟨rfl, H3.out⟩

set_option maxRecDepth 100000 in
set_option maxHeartbeats 8000000 in
theorem rewrite1P {B : Nat → Prop} {w w1 : World} {lb db bl bn : Nat} {nx : Int} {v : Value} {g : Lg} {s : Dk} (h : LOp B w w1 lb db v g s) (hl : Blk w bl tL #[.pointer (some ⟨lb, 0, none⟩)]) (nl : ¬ B bl) (hn : Blk w bn 3 #[.int .i64 nx]) (nn : ¬ B bn) :
    Calls Try.prog 31 #[.pointer (some ⟨bl, 0, none⟩), .pointer (some ⟨bn, 0, none⟩)] w1 fun e w' => e = .returned (.int .i64 (s.cut nx 0).1) ∧ LOp B w w' lb db v g (s.cut nx 0).2 := by
  have HW : Hid (∀ w', Hid (LOp B w w' lb db v g s) → Calls Try.prog 32 #[.pointer (some ⟨db, 0, none⟩), .int .i64 nx, .int .i64 0] w' fun e w' => e = .returned (.int .i64 (s.cut nx 0).1) ∧ LOp B w w' lb db v g (s.cut nx 0).2) := Lib.hid fun w' h => oCut h.out nx 0
  have HCS : Hid (∀ w' s', Hid (LOp B w w' lb db v g s') → w'.cell? ⟨bl, 0, none⟩ = some (.pointer (some ⟨lb, 0, none⟩)) ∧ w'.cell? ⟨bn, 0, none⟩ = some (.int .i64 nx) ∧ w'.cell? ⟨lb, 0, none⟩ = some (.pointer (some ⟨db, 0, none⟩))) := Lib.hid fun w' s' h => by
    obtain ⟨d0, d1, d2, d3, d4, _⟩ := h.out.at_.lg.cells
    exact ⟨(h.out.keep hl nl).cell 0, (h.out.keep hn nn).cell 0, d0⟩
  have H0 := Lib.hid h.drew
  obtain ⟨⟨E, S'⟩, hE⟩ : ∃ q, s.cut nx 0 = q := ⟨_, rfl⟩
  rw [hE] at HW ⊢
  have CS0 := HCS.out _ _ H0
  clear hE hl nl hn nn h
  go_enter Try.func31, Try.ntmps31
  go_wp2_with fail
  go_region_held3 (fun w' => w'.cell? ⟨bl, 0, none⟩ = some (.pointer (some ⟨lb, 0, none⟩)) ∧ w'.cell? ⟨bn, 0, none⟩ = some (.int .i64 nx) ∧ w'.cell? ⟨lb, 0, none⟩ = some (.pointer (some ⟨db, 0, none⟩))) (first | exact CS0 | exact HCS.out _ _ (by assumption) | fail) ((go_at_call 32; (with_reducible refine (HW.out _ (by assumption)).mono ?_); rintro e w3 ⟨rfl, ho⟩; have H3 := Lib.hid ho; clear ho))
  go_wp2_with fail
  go_ret
  exact ⟨rfl, H3.out⟩
set_option maxRecDepth 100000 in
set_option maxHeartbeats 8000000 in
theorem rewrite2P {B : Nat → Prop} {w w1 : World} {lb db bl bn br : Nat} {nx : Int} {A : Option Addr} {cap : Nat} {l : List ByteArray} {v : Value} {g : Lg} {s : Dk} (h : LOp B w w1 lb db v g s) (hl : Blk w bl tL #[.pointer (some ⟨lb, 0, none⟩)]) (nl : ¬ B bl) (hn : Blk w bn 3 #[.int .i64 nx]) (nn : ¬ B bn) (hr : Blk w br 33 #[.slice A l.length cap]) (nr : ¬ B br) (hrow : ∀ w', Hid (LOp B w w' lb db v g s) → Row w' w'.heap.size (.slice A l.length cap) (sv l)) (hxl : ext l ≤ 900000) (hp : s.pend.length + ext l ≤ 1000000) :
    Calls Try.prog 33 #[.pointer (some ⟨bl, 0, none⟩), .pointer (some ⟨bn, 0, none⟩), .pointer (some ⟨br, 0, none⟩)] w1 fun e w' => e = .returned (.int .i64 (s.write nx 0 (whl l)).1) ∧ LOp B w w' lb db v g (s.write nx 0 (whl l)).2 := by
  have HH : Hid (∀ w', Hid (LOp B w w' lb db v g s) → Calls Try.prog 34 #[.slice A l.length cap] w' fun e w2 => e = .returned (.string (whl l)) ∧ LOp B w w2 lb db v g s) := Lib.hid fun w' h => (wholeP _ l w' (hrow w' h) (by omega)).mono fun e w2 ⟨a, b⟩ => ⟨a, h.out.below b⟩
  have HW : Hid (∀ w', Hid (LOp B w w' lb db v g s) → Calls Try.prog 28 #[.pointer (some ⟨db, 0, none⟩), .int .i64 nx, .int .i64 0, .string (whl l)] w' fun e w' => e = .returned (.int .i64 (s.write nx 0 (whl l)).1) ∧ LOp B w w' lb db v g (s.write nx 0 (whl l)).2) := Lib.hid fun w' h => oWrite h.out nx 0 _ (by rw [whl_size]; exact hp)
  have HCS : Hid (∀ w' s', Hid (LOp B w w' lb db v g s') → w'.cell? ⟨bl, 0, none⟩ = some (.pointer (some ⟨lb, 0, none⟩)) ∧ w'.cell? ⟨bn, 0, none⟩ = some (.int .i64 nx) ∧ w'.cell? ⟨lb, 0, none⟩ = some (.pointer (some ⟨db, 0, none⟩)) ∧ w'.cell? ⟨br, 0, none⟩ = some (.slice A l.length cap)) := Lib.hid fun w' s' h => by
    obtain ⟨d0, d1, d2, d3, d4, _⟩ := h.out.at_.lg.cells
    exact ⟨(h.out.keep hl nl).cell 0, (h.out.keep hn nn).cell 0, d0, (h.out.keep hr nr).cell 0⟩
  have H0 := Lib.hid h.drew
  obtain ⟨N, hN⟩ : ∃ N, l.length = N := ⟨_, rfl⟩
  rw [hN] at HH HCS
  obtain ⟨WL, hWL⟩ : ∃ WL, whl l = WL := ⟨_, rfl⟩
  rw [hWL] at HH HW ⊢
  obtain ⟨⟨E, S'⟩, hE⟩ : ∃ q, s.write nx 0 WL = q := ⟨_, rfl⟩
  rw [hE] at HW ⊢
  have CS0 := HCS.out _ _ H0
  clear hE hl nl hn nn h hr nr hrow hxl hp hN hWL
  go_enter Try.func33, Try.ntmps33
  go_wp2_with fail
  go_region_held3 (fun w' => w'.cell? ⟨bl, 0, none⟩ = some (.pointer (some ⟨lb, 0, none⟩)) ∧ w'.cell? ⟨bn, 0, none⟩ = some (.int .i64 nx) ∧ w'.cell? ⟨lb, 0, none⟩ = some (.pointer (some ⟨db, 0, none⟩)) ∧ w'.cell? ⟨br, 0, none⟩ = some (.slice A N cap)) (first | exact CS0 | exact HCS.out _ _ (by assumption) | fail) (first
    | (go_at_call 34; (with_reducible refine (HH.out _ (by assumption)).mono ?_); rintro e w2 ⟨rfl, ho⟩; have H2 := Lib.hid ho; clear ho)
    | (go_at_call 28; (with_reducible refine (HW.out _ (by assumption)).mono ?_); rintro e w3 ⟨rfl, ho⟩; have H3 := Lib.hid ho; clear ho))
  go_wp2_with fail
  go_ret
  exact ⟨rfl, H3.out⟩
set_option maxRecDepth 100000 in
set_option maxHeartbeats 8000000 in
theorem rewrite3P {B : Nat → Prop} {w w1 : World} {lb db bl bn : Nat} {nx : Int} {v : Value} {g : Lg} {s : Dk} (h : LOp B w w1 lb db v g s) (hl : Blk w bl tL #[.pointer (some ⟨lb, 0, none⟩)]) (nl : ¬ B bl) (hn : Blk w bn 3 #[.int .i64 nx]) (nn : ¬ B bn) :
    Calls Try.prog 35 #[.pointer (some ⟨bl, 0, none⟩), .pointer (some ⟨bn, 0, none⟩)] w1 fun e w' => e = .returned (.int .i64 (s.flush nx).1) ∧ LOp B w w' lb db v g (s.flush nx).2 := by
  have HW : Hid (∀ w', Hid (LOp B w w' lb db v g s) → Calls Try.prog 36 #[.pointer (some ⟨db, 0, none⟩), .int .i64 nx] w' fun e w' => e = .returned (.int .i64 (s.flush nx).1) ∧ LOp B w w' lb db v g (s.flush nx).2) := Lib.hid fun w' h => oFlush h.out nx
  have HCS : Hid (∀ w' s', Hid (LOp B w w' lb db v g s') → w'.cell? ⟨bl, 0, none⟩ = some (.pointer (some ⟨lb, 0, none⟩)) ∧ w'.cell? ⟨bn, 0, none⟩ = some (.int .i64 nx) ∧ w'.cell? ⟨lb, 0, none⟩ = some (.pointer (some ⟨db, 0, none⟩))) := Lib.hid fun w' s' h => by
    obtain ⟨d0, d1, d2, d3, d4, _⟩ := h.out.at_.lg.cells
    exact ⟨(h.out.keep hl nl).cell 0, (h.out.keep hn nn).cell 0, d0⟩
  have H0 := Lib.hid h.drew
  obtain ⟨⟨E, S'⟩, hE⟩ : ∃ q, s.flush nx = q := ⟨_, rfl⟩
  rw [hE] at HW ⊢
  have CS0 := HCS.out _ _ H0
  clear hE hl nl hn nn h
  go_enter Try.func35, Try.ntmps35
  go_wp2_with fail
  go_region_held3 (fun w' => w'.cell? ⟨bl, 0, none⟩ = some (.pointer (some ⟨lb, 0, none⟩)) ∧ w'.cell? ⟨bn, 0, none⟩ = some (.int .i64 nx) ∧ w'.cell? ⟨lb, 0, none⟩ = some (.pointer (some ⟨db, 0, none⟩))) (first | exact CS0 | exact HCS.out _ _ (by assumption) | fail) ((go_at_call 36; (with_reducible refine (HW.out _ (by assumption)).mono ?_); rintro e w3 ⟨rfl, ho⟩; have H3 := Lib.hid ho; clear ho))
  go_wp2_with fail
  go_ret
  exact ⟨rfl, H3.out⟩
set_option maxRecDepth 100000 in
set_option maxHeartbeats 8000000 in
theorem rewrite4P {B : Nat → Prop} {w w1 : World} {lb db bl bn : Nat} {nx : Int} {v : Value} {g : Lg} {s : Dk} (h : LOp B w w1 lb db v g s) (hl : Blk w bl tL #[.pointer (some ⟨lb, 0, none⟩)]) (nl : ¬ B bl) (hn : Blk w bn 3 #[.int .i64 nx]) (nn : ¬ B bn) :
    Calls Try.prog 37 #[.pointer (some ⟨bl, 0, none⟩), .pointer (some ⟨bn, 0, none⟩)] w1 fun e w' => e = .returned (.int .i64 (s.turn g.file nx).1) ∧ LOp B w w' lb db v g (s.turn g.file nx).2 := by
  have HW : Hid (∀ w', Hid (LOp B w w' lb db v g s) → Calls Try.prog 38 #[.pointer (some ⟨db, 0, none⟩), .int .i64 g.file, .int .i64 nx] w' fun e w' => e = .returned (.int .i64 (s.turn g.file nx).1) ∧ LOp B w w' lb db v g (s.turn g.file nx).2) := Lib.hid fun w' h => oTurn h.out g.file nx
  have HCS : Hid (∀ w' s', Hid (LOp B w w' lb db v g s') → w'.cell? ⟨bl, 0, none⟩ = some (.pointer (some ⟨lb, 0, none⟩)) ∧ w'.cell? ⟨bn, 0, none⟩ = some (.int .i64 nx) ∧ w'.cell? ⟨lb, 0, none⟩ = some (.pointer (some ⟨db, 0, none⟩)) ∧ w'.cell? ⟨lb, 1, none⟩ = some (.int .i64 g.file)) := Lib.hid fun w' s' h => by
    obtain ⟨d0, d1, d2, d3, d4, _⟩ := h.out.at_.lg.cells
    exact ⟨(h.out.keep hl nl).cell 0, (h.out.keep hn nn).cell 0, d0, d1⟩
  have H0 := Lib.hid h.drew
  obtain ⟨gf, hgf⟩ : ∃ gf, g.file = gf := ⟨_, rfl⟩
  rw [hgf] at HW HCS ⊢
  obtain ⟨⟨E, S'⟩, hE⟩ : ∃ q, s.turn gf nx = q := ⟨_, rfl⟩
  rw [hE] at HW ⊢
  have CS0 := HCS.out _ _ H0
  clear hE hl nl hn nn h hgf
  go_enter Try.func37, Try.ntmps37
  go_wp2_with fail
  go_region_held3 (fun w' => w'.cell? ⟨bl, 0, none⟩ = some (.pointer (some ⟨lb, 0, none⟩)) ∧ w'.cell? ⟨bn, 0, none⟩ = some (.int .i64 nx) ∧ w'.cell? ⟨lb, 0, none⟩ = some (.pointer (some ⟨db, 0, none⟩)) ∧ w'.cell? ⟨lb, 1, none⟩ = some (.int .i64 gf)) (first | exact CS0 | exact HCS.out _ _ (by assumption) | fail) ((go_at_call 38; (with_reducible refine (HW.out _ (by assumption)).mono ?_); rintro e w3 ⟨rfl, ho⟩; have H3 := Lib.hid ho; clear ho))
  go_wp2_with fail
  go_ret
  exact ⟨rfl, H3.out⟩
end Go.Proofs.Ytognomkhkoiabaa
