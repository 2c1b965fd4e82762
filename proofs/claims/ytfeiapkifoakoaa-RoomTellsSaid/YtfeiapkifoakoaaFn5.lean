/-
  The program's Has and Meets.
-/
import Derived.Test.YtfeiapkifoakoaaIdx
import Derived.Test.YtfeiapkifoakoaaFn3
namespace Go.Proofs.Ytfeiapkifoakoaa
set_option linter.unusedVariables false
set_option linter.unusedSimpArgs false
open Go.RowKit

theorem has_any {l : List Sp} {s : Sp} (h : right l) (hs : s.ok) (h0 : 0 < s.n) : hasL l s = l.any (hasB s) := by
  rw [Bool.eq_iff_iff, hasL_iff h hs, List.any_eq_true]
  constructor
  · intro ha
    obtain ⟨x, hx, h1, h2⟩ := in_one h (a := s.p) (size := s.n) (by omega) (fun b hb1 hb2 => ha b ⟨hb1, hb2⟩)
    exact ⟨x, hx, decide_eq_true ⟨h1, h2⟩⟩
  · rintro ⟨x, hx, hb⟩ a ⟨ha1, ha2⟩
    obtain ⟨h1, h2⟩ := of_decide_eq_true hb
    exact ⟨x, hx, by omega, by omega⟩
theorem meets_any {l : List Sp} {s : Sp} (h : right l) (hs : s.ok) (h0 : 0 < s.n) : meetsL l s = l.any (meetB s) := by
  rw [Bool.eq_iff_iff, meetsL_iff h hs, List.any_eq_true]
  constructor
  · rintro ⟨a, ⟨h1, h2⟩, x, hx, h3, h4⟩
    exact ⟨x, hx, decide_eq_true ⟨by omega, by omega⟩⟩
  · rintro ⟨x, hx, hb⟩
    obtain ⟨h1, h2⟩ := of_decide_eq_true hb
    obtain ⟨h3, h4⟩ := right_ok h x hx
    refine ⟨max x.p s.p, ⟨by omega, ?_⟩, x, hx, by omega, ?_⟩
    · unfold Sp.e at *; omega
    · unfold Sp.e at *; omega
theorem has_zero {l : List Sp} {s : Sp} (h : right l) (hs : s.ok) (h0 : s.n = 0) : hasL l s = true := by
  rw [hasL_iff h hs]; rintro a ⟨h1, h2⟩; unfold Sp.e at h2; omega
theorem meets_zero {l : List Sp} {s : Sp} (h : right l) (hs : s.ok) (h0 : s.n = 0) : meetsL l s = false := by
  rw [Bool.eq_false_iff, ne_eq, meetsL_iff h hs]; rintro ⟨a, ⟨h1, h2⟩, _⟩; unfold Sp.e at h2; omega
theorem has_bad {l : List Sp} {s : Sp} (h : ¬ (right l ∧ s.ok)) : hasL l s = false := by unfold hasL; rw [decide_eq_false_iff_not]; exact fun k => h ⟨k.1, k.2.1⟩
theorem meets_bad {l : List Sp} {s : Sp} (h : ¬ (right l ∧ s.ok)) : meetsL l s = false := by unfold meetsL; rw [decide_eq_false_iff_not]; exact fun k => h ⟨k.1, k.2.1⟩

set_option maxRecDepth 100000 in
set_option maxHeartbeats 2000000 in
theorem hasP (v : Value) (l : List Sp) (s : Sp) (w : World) (hw : s.wf) (hr : SRow w w.heap.size v l) : Calls Try.prog 16 #[v, spv s] w fun e w' => e = .returned (.bool (hasL l s)) ∧ Below w.heap.size w w' := by
  have HRi := Lib.hid (fun w' (h : SRow w' w'.heap.size v l) => rightP v l w' h)
  have HV := Lib.hid (fun w => validP s w hw)
  have hb0 := below_new w (.cells #[.int .i64 s.p, .int .i64 s.n] 24)
  have q1 : (w.alloc (.cells #[.int .i64 s.p, .int .i64 s.n] 24)).cell? ⟨w.heap.size, 0, none⟩ = some (.int .i64 s.p) := (Blk.new w 24 _).cell 0
  have q2 : (w.alloc (.cells #[.int .i64 s.p, .int .i64 s.n] 24)).cell? ⟨w.heap.size, 1, none⟩ = some (.int .i64 s.n) := (Blk.new w 24 _).cell 1
  by_cases hri : right l
  · rw [show decide (right l) = true from decide_eq_true hri] at HRi
    by_cases hok : s.ok
    · rw [show decide s.ok = true from decide_eq_true hok] at HV
      by_cases h0 : s.n = 0
      · have HH := Lib.hid (has_zero hri hok h0)
        have h0' : (s.n == 0) = true := by simp [h0]
        obtain ⟨r, hr'⟩ : ∃ r, hasL l s = r := ⟨_, rfl⟩
        rw [hr'] at HH ⊢
        obtain ⟨p, n⟩ := s
        unfold spv at *
        simp only at *
        clear h0 hr' hri hok
        go_enter Try.func16, Try.ntmps16
        go_wp2_with fail
        refine (HRi.out _ (hr.keep hb0)).mono ?_; rintro e w1 ⟨rfl, b1⟩
        have c1 := keep_below b1 q1
        have c2 := keep_below b1 q2
        go_wp2_with fail
        refine (HV.out _).mono ?_; rintro e w2 ⟨rfl, b2⟩
        have e1 := keep_below b2 c1
        have e2 := keep_below b2 c2
        go_wp2_with fail
        go_ret
        exact ⟨by rw [HH.out]; rfl, chain (chain hb0 b1 (Nat.le_refl _)) b2 (Nat.le_refl _)⟩
      · have HH := Lib.hid (has_any hri hok (by unfold Sp.ok at hok; omega))
        have h0' : (s.n == 0) = false := by simp [h0]
        have HC := Lib.hid (fun g w' (hr' : SRow w' w'.heap.size v l) hg d1 d2 => containsH v l s g w' hok (fun x hx => (right_ok hri x hx).1) hr' hg d1 d2)
        obtain ⟨r, hr'⟩ : ∃ r, hasL l s = r := ⟨_, rfl⟩
        rw [hr'] at HH ⊢
        obtain ⟨p, n⟩ := s
        unfold spv at *
        simp only at *
        clear h0 hr' hri hok
        go_enter Try.func16, Try.ntmps16
        go_wp2_with fail
        refine (HRi.out _ (hr.keep hb0)).mono ?_; rintro e w1 ⟨rfl, b1⟩
        have c1 := keep_below b1 q1
        have c2 := keep_below b1 q2
        go_wp2_with fail
        refine (HV.out _).mono ?_; rintro e w2 ⟨rfl, b2⟩
        have e1 := keep_below b2 c1
        have e2 := keep_below b2 c2
        have r2 := ((hr.keep hb0).keep b1).keep b2
        have b3 := chain (chain hb0 b1 (Nat.le_refl _)) b2 (Nat.le_refl _)
        go_wp2_with fail
        refine (HC.out w.heap.size w2 r2 (by have := b1.size; have := b2.size; simp at *; omega) e1 e2).mono ?_; rintro e w3 ⟨rfl, b4⟩
        go_wp2_with fail
        go_ret
        exact ⟨by rw [HH.out]; rfl, chain b3 b4 (Nat.le_refl _)⟩
    · rw [show decide s.ok = false from decide_eq_false hok] at HV
      have HH := Lib.hid (has_bad (l := l) (s := s) (fun h => hok h.2))
      obtain ⟨r, hr'⟩ : ∃ r, hasL l s = r := ⟨_, rfl⟩
      rw [hr'] at HH ⊢
      obtain ⟨p, n⟩ := s
      unfold spv at *
      simp only at *
      clear hr' hri hok
      go_enter Try.func16, Try.ntmps16
      go_wp2_with fail
      refine (HRi.out _ (hr.keep hb0)).mono ?_; rintro e w1 ⟨rfl, b1⟩
      have c1 := keep_below b1 q1
      have c2 := keep_below b1 q2
      go_wp2_with fail
      refine (HV.out _).mono ?_; rintro e w2 ⟨rfl, b2⟩
      go_wp2_with fail
      go_ret
      exact ⟨by rw [HH.out]; rfl, chain (chain hb0 b1 (Nat.le_refl _)) b2 (Nat.le_refl _)⟩
  · rw [show decide (right l) = false from decide_eq_false hri] at HRi
    have HH := Lib.hid (has_bad (l := l) (s := s) (fun h => hri h.1))
    obtain ⟨r, hr'⟩ : ∃ r, hasL l s = r := ⟨_, rfl⟩
    rw [hr'] at HH ⊢
    obtain ⟨p, n⟩ := s
    unfold spv at *
    simp only at *
    clear hr' hri
    go_enter Try.func16, Try.ntmps16
    go_wp2_with fail
    refine (HRi.out _ (hr.keep hb0)).mono ?_; rintro e w1 ⟨rfl, b1⟩
    go_wp2_with fail
    go_ret
    exact ⟨by rw [HH.out]; rfl, chain hb0 b1 (Nat.le_refl _)⟩
set_option maxRecDepth 100000 in
set_option maxHeartbeats 2000000 in
theorem meetsP (v : Value) (l : List Sp) (s : Sp) (w : World) (hw : s.wf) (hr : SRow w w.heap.size v l) : Calls Try.prog 18 #[v, spv s] w fun e w' => e = .returned (.bool (meetsL l s)) ∧ Below w.heap.size w w' := by
  have HRi := Lib.hid (fun w' (h : SRow w' w'.heap.size v l) => rightP v l w' h)
  have HV := Lib.hid (fun w => validP s w hw)
  have hb0 := below_new w (.cells #[.int .i64 s.p, .int .i64 s.n] 24)
  have q1 : (w.alloc (.cells #[.int .i64 s.p, .int .i64 s.n] 24)).cell? ⟨w.heap.size, 0, none⟩ = some (.int .i64 s.p) := (Blk.new w 24 _).cell 0
  have q2 : (w.alloc (.cells #[.int .i64 s.p, .int .i64 s.n] 24)).cell? ⟨w.heap.size, 1, none⟩ = some (.int .i64 s.n) := (Blk.new w 24 _).cell 1
  by_cases hri : right l
  · rw [show decide (right l) = true from decide_eq_true hri] at HRi
    by_cases hok : s.ok
    · rw [show decide s.ok = true from decide_eq_true hok] at HV
      by_cases h0 : s.n = 0
      · have HH := Lib.hid (meets_zero hri hok h0)
        have h0' : (s.n == 0) = true := by simp [h0]
        obtain ⟨r, hr'⟩ : ∃ r, meetsL l s = r := ⟨_, rfl⟩
        rw [hr'] at HH ⊢
        obtain ⟨p, n⟩ := s
        unfold spv at *
        simp only at *
        clear h0 hr' hri hok
        go_enter Try.func18, Try.ntmps18
        go_wp2_with fail
        refine (HRi.out _ (hr.keep hb0)).mono ?_; rintro e w1 ⟨rfl, b1⟩
        have c1 := keep_below b1 q1
        have c2 := keep_below b1 q2
        go_wp2_with fail
        refine (HV.out _).mono ?_; rintro e w2 ⟨rfl, b2⟩
        have e1 := keep_below b2 c1
        have e2 := keep_below b2 c2
        go_wp2_with fail
        go_ret
        exact ⟨by rw [HH.out]; rfl, chain (chain hb0 b1 (Nat.le_refl _)) b2 (Nat.le_refl _)⟩
      · have HH := Lib.hid (meets_any hri hok (by unfold Sp.ok at hok; omega))
        have h0' : (s.n == 0) = false := by simp [h0]
        have HC := Lib.hid (fun g w' (hr' : SRow w' w'.heap.size v l) hg d1 d2 => containsM v l s g w' hok (fun x hx => (right_ok hri x hx).1) hr' hg d1 d2)
        obtain ⟨r, hr'⟩ : ∃ r, meetsL l s = r := ⟨_, rfl⟩
        rw [hr'] at HH ⊢
        obtain ⟨p, n⟩ := s
        unfold spv at *
        simp only at *
        clear h0 hr' hri hok
        go_enter Try.func18, Try.ntmps18
        go_wp2_with fail
        refine (HRi.out _ (hr.keep hb0)).mono ?_; rintro e w1 ⟨rfl, b1⟩
        have c1 := keep_below b1 q1
        have c2 := keep_below b1 q2
        go_wp2_with fail
        refine (HV.out _).mono ?_; rintro e w2 ⟨rfl, b2⟩
        have e1 := keep_below b2 c1
        have e2 := keep_below b2 c2
        have r2 := ((hr.keep hb0).keep b1).keep b2
        have b3 := chain (chain hb0 b1 (Nat.le_refl _)) b2 (Nat.le_refl _)
        go_wp2_with fail
        refine (HC.out w.heap.size w2 r2 (by have := b1.size; have := b2.size; simp at *; omega) e1 e2).mono ?_; rintro e w3 ⟨rfl, b4⟩
        go_wp2_with fail
        go_ret
        exact ⟨by rw [HH.out]; rfl, chain b3 b4 (Nat.le_refl _)⟩
    · rw [show decide s.ok = false from decide_eq_false hok] at HV
      have HH := Lib.hid (meets_bad (l := l) (s := s) (fun h => hok h.2))
      obtain ⟨r, hr'⟩ : ∃ r, meetsL l s = r := ⟨_, rfl⟩
      rw [hr'] at HH ⊢
      obtain ⟨p, n⟩ := s
      unfold spv at *
      simp only at *
      clear hr' hri hok
      go_enter Try.func18, Try.ntmps18
      go_wp2_with fail
      refine (HRi.out _ (hr.keep hb0)).mono ?_; rintro e w1 ⟨rfl, b1⟩
      have c1 := keep_below b1 q1
      have c2 := keep_below b1 q2
      go_wp2_with fail
      refine (HV.out _).mono ?_; rintro e w2 ⟨rfl, b2⟩
      go_wp2_with fail
      go_ret
      exact ⟨by rw [HH.out]; rfl, chain (chain hb0 b1 (Nat.le_refl _)) b2 (Nat.le_refl _)⟩
  · rw [show decide (right l) = false from decide_eq_false hri] at HRi
    have HH := Lib.hid (meets_bad (l := l) (s := s) (fun h => hri h.1))
    obtain ⟨r, hr'⟩ : ∃ r, meetsL l s = r := ⟨_, rfl⟩
    rw [hr'] at HH ⊢
    obtain ⟨p, n⟩ := s
    unfold spv at *
    simp only at *
    clear hr' hri
    go_enter Try.func18, Try.ntmps18
    go_wp2_with fail
    refine (HRi.out _ (hr.keep hb0)).mono ?_; rintro e w1 ⟨rfl, b1⟩
    go_wp2_with fail
    go_ret
    exact ⟨by rw [HH.out]; rfl, chain hb0 b1 (Nat.le_refl _)⟩
end Go.Proofs.Ytfeiapkifoakoaa
