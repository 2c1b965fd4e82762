/-
  The program's Fit, and word's Down and Up as it calls them.
-/
import Derived.Test.YtfeiapkifoakoaaFitRef
import Derived.Test.YtfeiapkifoakoaaFn3
namespace Go.Proofs.Ytfeiapkifoakoaa
set_option linter.unusedVariables false
set_option linter.unusedSimpArgs false
open Go.RowKit

theorem fit_cap {l : List Sp} {size d from_ until_ : Int} (hr : right l) (h1 : 1 ≤ size) (h2 : size ≤ 1099511627776) (h3 : 1 ≤ d) (h4 : d ≤ 1099511627776) : fitL l size d from_ until_ = fitS l size d (min from_ 1099511627776) until_ := by
  unfold fitL
  by_cases hf : from_ ≤ 1099511627776
  · rw [if_pos ⟨hr, h1, h2, h3, h4, hf⟩, show min from_ 1099511627776 = from_ by omega]
  · rw [if_neg (fun h => hf h.2.2.2.2.2), show min from_ 1099511627776 = 1099511627776 by omega]
    rcases h : fitS l size d 1099511627776 until_ with _ | a
    · rfl
    · exfalso
      obtain ⟨hp, _⟩ := fitS_some hr h1 h3 h
      have := inn_bound hr (hp.has a (Int.le_refl _) (by omega))
      have := hp.low
      omega

set_option maxRecDepth 100000 in
theorem upP (a d : Int) (w : World) (h1 : 0 ≤ a) (h2 : a ≤ 1099511627776) (h3 : 1 ≤ d) (h4 : d ≤ 1099511627776) :
    Calls Try.prog 20 #[.int .i64 a, .int .i64 d] w fun e w' => e = .returned (.int .i64 (roundUp a d)) ∧ w = w' := by
  have hru : roundUp a d = if a % d = 0 then a else a - a % d + d := rfl
  have e1 := Int.emod_nonneg a (show d ≠ 0 by omega)
  have e2 := Int.emod_lt_of_pos a (show 0 < d by omega)
  have tm : (-a).tmod d = -(a % d) := by rw [Int.neg_tmod, Int.tmod_eq_emod_of_nonneg h1]
  obtain ⟨rm, hrm⟩ : ∃ x, a % d = x := ⟨_, rfl⟩
  obtain ⟨r, hr⟩ : ∃ x, roundUp a d = x := ⟨_, rfl⟩
  rw [hrm] at e1 e2 tm hru
  rw [hr] at hru ⊢
  have HRU := Lib.hid hru
  clear hru hr hrm
  by_cases hz : rm = 0
  · have HR : Hid (r = a) := by show _ = _; rw [HRU.out, if_pos hz]
    have tm0 : (-a).tmod d = 0 := by rw [tm, hz]; rfl
    clear tm HRU
    subst hz
    go_enter Try.func20, Try.ntmps20
    go_wp2_with fail
    have hd : Calls Try.prog 31 #[.int .i64 (-a), .int .i64 d] w fun e w' => e = .returned (.int .i64 (-a)) ∧ w = w' := by
      go_enter Try.func31, Try.ntmps31
      go_wp2_with fail
      go_ret
      exact ⟨by first | rfl | simp, rfl⟩
    refine hd.mono ?_; rintro e w1 ⟨rfl, rfl⟩
    go_wp2_with fail
    go_ret
    exact ⟨by rw [HR.out]; first | rfl | simp, rfl⟩
  · have HR : Hid (r = a - rm + d) := by show _ = _; rw [HRU.out, if_neg hz]
    have hz2 : 0 < rm := by omega
    clear HRU
    have tm1 : (-a).tmod d < 0 := by omega
    go_enter Try.func20, Try.ntmps20
    go_wp2_with fail
    have hd : Calls Try.prog 31 #[.int .i64 (-a), .int .i64 d] w fun e w' => e = .returned (.int .i64 (-a + rm - d)) ∧ w = w' := by
      go_enter Try.func31, Try.ntmps31
      go_wp2_with fail
      go_ret
      exact ⟨by first | rfl | (simp; omega) | (congr 2; omega), rfl⟩
    refine hd.mono ?_; rintro e w1 ⟨rfl, rfl⟩
    go_wp2_with fail
    go_ret
    exact ⟨by rw [HR.out]; first | rfl | (simp; omega) | (congr 2; omega), rfl⟩
end Go.Proofs.Ytfeiapkifoakoaa
