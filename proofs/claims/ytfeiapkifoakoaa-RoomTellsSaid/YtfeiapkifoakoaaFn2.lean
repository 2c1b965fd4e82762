/-
  Contracts of the closures of the program's Has and Meets.
-/
import Derived.Test.YtfeiapkifoakoaaFn1
namespace Go.Proofs.Ytfeiapkifoakoaa
set_option linter.unusedVariables false
set_option linter.unusedSimpArgs false
open Go.RowKit

def hasB (s x : Sp) : Bool := decide (x.p ≤ s.p ∧ s.e ≤ x.e)
def meetB (s x : Sp) : Bool := decide (x.p < s.e ∧ s.p < x.e)

set_option maxRecDepth 100000 in
set_option maxHeartbeats 1000000 in
theorem hasC (s x : Sp) (b : Nat) (w : World) (hs : s.ok) (hx : x.ok) (hb : b < w.heap.size) (d1 : w.cell? ⟨b, 0, none⟩ = some (.int .i64 s.p)) (d2 : w.cell? ⟨b, 1, none⟩ = some (.int .i64 s.n)) :
    Calls Try.prog 29 #[spv x, .pointer (some ⟨b, 0, none⟩)] w fun e w' => e = .returned (.bool (hasB s x)) ∧ Below w.heap.size w w' := by
  have hB : hasB s x = decide (x.p ≤ s.p ∧ s.p + s.n ≤ x.p + x.n) := rfl
  obtain ⟨sp, sn⟩ := s
  obtain ⟨xp, xn⟩ := x
  unfold spv
  simp only at hB d1 d2 ⊢
  unfold Sp.ok at hs hx
  obtain ⟨s1, s2, s3, s4⟩ := hs
  obtain ⟨x1, x2, x3, x4⟩ := hx
  simp only at s1 s2 s3 s4 x1 x2 x3 x4
  obtain ⟨r, hr⟩ : ∃ r, hasB ⟨sp, sn⟩ ⟨xp, xn⟩ = r := ⟨_, rfl⟩
  rw [hr] at hB ⊢
  have HB := Lib.hid hB; clear hB hr
  have c0 : (w.alloc (.cells #[.int .i64 xp, .int .i64 xn] 24)).cell? ⟨w.heap.size, 0, none⟩ = some (.int .i64 xp) := (Blk.new w 24 _).cell 0
  have c1 : (w.alloc (.cells #[.int .i64 xp, .int .i64 xn] 24)).cell? ⟨w.heap.size, 1, none⟩ = some (.int .i64 xn) := (Blk.new w 24 _).cell 1
  have e1 := keep_below (below_new w (.cells #[.int .i64 xp, .int .i64 xn] 24)) d1
  have e2 := keep_below (below_new w (.cells #[.int .i64 xp, .int .i64 xn] 24)) d2
  have hb0 := below_new w (.cells #[.int .i64 xp, .int .i64 xn] 24)
  have hlt : w.heap.size < (w.alloc (.cells #[.int .i64 xp, .int .i64 xn] 24)).heap.size := by simp
  have hlt2 : b < (w.alloc (.cells #[.int .i64 xp, .int .i64 xn] 24)).heap.size := by simp; omega
  by_cases h1 : xp ≤ sp
  · have h1' : decide (xp ≤ sp) = true := by simp [h1]
    by_cases h2 : sp + sn ≤ xp + xn
    all_goals
      have HR : Hid (r = decide (sp + sn ≤ xp + xn)) := by
        show _ = _
        rw [HB.out, Bool.eq_iff_iff, decide_eq_true_iff, decide_eq_true_iff]
        omega
      clear HB
      go_enter Try.func29, Try.ntmps29
      go_wp2_with fail
      go_region_held3 (fun w' => w'.cell? ⟨b, 0, none⟩ = some (.int .i64 sp) ∧ w'.cell? ⟨b, 1, none⟩ = some (.int .i64 sn) ∧ w'.cell? ⟨w.heap.size, 0, none⟩ = some (.int .i64 xp) ∧ w'.cell? ⟨w.heap.size, 1, none⟩ = some (.int .i64 xn))
        (first | go_keep | (go_split_ands; exact ⟨keep_below bb (by assumption), keep_below bb (by assumption), keep_below bb (by assumption), keep_below bb (by assumption)⟩) | (go_split_ands; exact ⟨keep_below ba (by assumption), keep_below ba (by assumption), keep_below ba (by assumption), keep_below ba (by assumption)⟩))
        (first
          | (go_at_call 21; refine (endP sp sn _ (by omega) (by omega)).mono ?_; rintro e wa ⟨rfl, ba⟩)
          | (go_at_call 21; refine (endP xp xn _ (by omega) (by omega)).mono ?_; rintro e wb ⟨rfl, bb⟩))
      go_wp2_with fail
      go_ret
      refine ⟨?_, ?_⟩
      · rw [HR.out]; first | rfl | (simp; omega)
      · exact chain (chain hb0 (below_drew ba) (by omega)) bb (by omega)
  · have h1' : decide (xp ≤ sp) = false := by simp; omega
    go_enter Try.func29, Try.ntmps29
    go_wp2_with fail
    go_quiet (fail)
    go_wp2_with fail
    go_ret
    refine ⟨?_, ?_⟩
    · rw [HB.out, decide_eq_false (by omega)]; rfl
    · exact ⟨hb0.os, hb0.tape, hb0.output, hb0.size, hb0.block⟩
set_option maxRecDepth 100000 in
set_option maxHeartbeats 1000000 in
theorem meetC (s x : Sp) (b : Nat) (w : World) (hs : s.ok) (hx : x.ok) (hb : b < w.heap.size) (d1 : w.cell? ⟨b, 0, none⟩ = some (.int .i64 s.p)) (d2 : w.cell? ⟨b, 1, none⟩ = some (.int .i64 s.n)) :
    Calls Try.prog 30 #[spv x, .pointer (some ⟨b, 0, none⟩)] w fun e w' => e = .returned (.bool (meetB s x)) ∧ Below w.heap.size w w' := by
  have hB : meetB s x = decide (x.p < s.p + s.n ∧ s.p < x.p + x.n) := rfl
  obtain ⟨sp, sn⟩ := s
  obtain ⟨xp, xn⟩ := x
  unfold spv
  simp only at hB d1 d2 ⊢
  unfold Sp.ok at hs hx
  obtain ⟨s1, s2, s3, s4⟩ := hs
  obtain ⟨x1, x2, x3, x4⟩ := hx
  simp only at s1 s2 s3 s4 x1 x2 x3 x4
  obtain ⟨r, hr⟩ : ∃ r, meetB ⟨sp, sn⟩ ⟨xp, xn⟩ = r := ⟨_, rfl⟩
  rw [hr] at hB ⊢
  have HB := Lib.hid hB; clear hB hr
  have c0 : (w.alloc (.cells #[.int .i64 xp, .int .i64 xn] 24)).cell? ⟨w.heap.size, 0, none⟩ = some (.int .i64 xp) := (Blk.new w 24 _).cell 0
  have c1 : (w.alloc (.cells #[.int .i64 xp, .int .i64 xn] 24)).cell? ⟨w.heap.size, 1, none⟩ = some (.int .i64 xn) := (Blk.new w 24 _).cell 1
  have e1 := keep_below (below_new w (.cells #[.int .i64 xp, .int .i64 xn] 24)) d1
  have e2 := keep_below (below_new w (.cells #[.int .i64 xp, .int .i64 xn] 24)) d2
  have hb0 := below_new w (.cells #[.int .i64 xp, .int .i64 xn] 24)
  have hlt : w.heap.size < (w.alloc (.cells #[.int .i64 xp, .int .i64 xn] 24)).heap.size := by simp
  have hlt2 : b < (w.alloc (.cells #[.int .i64 xp, .int .i64 xn] 24)).heap.size := by simp; omega
  by_cases h1 : xp < sp + sn
  · have h1' : decide (xp < sp + sn) = true := by simp [h1]
    by_cases h2 : sp < xp + xn
    all_goals
      have HR : Hid (r = decide (sp < xp + xn)) := by
        show _ = _
        rw [HB.out, Bool.eq_iff_iff, decide_eq_true_iff, decide_eq_true_iff]
        omega
      clear HB
      go_enter Try.func30, Try.ntmps30
      go_wp2_with fail
      go_region_held3 (fun w' => w'.cell? ⟨b, 0, none⟩ = some (.int .i64 sp) ∧ w'.cell? ⟨b, 1, none⟩ = some (.int .i64 sn) ∧ w'.cell? ⟨w.heap.size, 0, none⟩ = some (.int .i64 xp) ∧ w'.cell? ⟨w.heap.size, 1, none⟩ = some (.int .i64 xn))
        (first | go_keep | (go_split_ands; exact ⟨keep_below bb (by assumption), keep_below bb (by assumption), keep_below bb (by assumption), keep_below bb (by assumption)⟩) | (go_split_ands; exact ⟨keep_below ba (by assumption), keep_below ba (by assumption), keep_below ba (by assumption), keep_below ba (by assumption)⟩))
        (first
          | (go_at_call 21; refine (endP sp sn _ (by omega) (by omega)).mono ?_; rintro e wa ⟨rfl, ba⟩)
          | (go_at_call 21; refine (endP xp xn _ (by omega) (by omega)).mono ?_; rintro e wb ⟨rfl, bb⟩))
      go_wp2_with fail
      go_ret
      refine ⟨?_, ?_⟩
      · rw [HR.out]; first | rfl | (simp; omega)
      · exact chain (chain hb0 (below_drew ba) (by omega)) bb (by omega)
  · have h1' : decide (xp < sp + sn) = false := by simp; omega
    go_enter Try.func30, Try.ntmps30
    go_wp2_with fail
    first | (go_region_with (first | (go_at_call 21; refine (endP sp sn _ (by omega) (by omega)).mono ?_; rintro e wa ⟨rfl, ba⟩; replace ba := below_drew ba; have f1 := keep_below ba e1; have f2 := keep_below ba e2; have f3 := keep_below ba c0; have f4 := keep_below ba c1))) | fail
    all_goals
      go_wp2_with fail
      go_ret
      refine ⟨?_, ?_⟩
      · rw [HB.out, decide_eq_false (by omega)]; rfl
      · exact chain hb0 ba (by omega)
end Go.Proofs.Ytfeiapkifoakoaa
