/-
  slices.IndexFunc and slices.ContainsFunc with the closures of the program's Has and Meets.
-/
import Derived.Test.YtfeiapkifoakoaaFn2
namespace Go.Proofs.Ytfeiapkifoakoaa
set_option linter.unusedVariables false
set_option linter.unusedSimpArgs false
open Go.RowKit

/-- A number that is not negative exactly if some span of l satisfies P. -/
def IdxPost (P : Sp → Bool) (l : List Sp) (w : World) (e : Ending) (w' : World) : Prop :=
  ∃ r : Int, e = .returned (.int .i64 r) ∧ (0 ≤ r ↔ l.any P = true) ∧ Below w.heap.size w w'
theorem any_gt {P : Sp → Bool} {l : List Sp} {k : Nat} (h : k < l.length) (hp : P (gt l k) = true) : l.any P = true := by
  rw [List.any_eq_true]; exact ⟨l[k], List.getElem_mem h, by rw [← gt_get l k h]; exact hp⟩
theorem any_none {P : Sp → Bool} {l : List Sp} (h : ∀ i, i < l.length → P (gt l i) = false) : l.any P = false := by
  rw [List.any_eq_false]
  intro x hx
  obtain ⟨i, hi, rfl⟩ := List.mem_iff_getElem.1 hx
  rw [← gt_get l i hi, h i hi]; simp

set_option maxRecDepth 100000 in
set_option maxHeartbeats 2000000 in
theorem indexH (v : Value) (l : List Sp) (s : Sp) (g : Nat) (w : World) (hs : s.ok) (hl : ∀ x ∈ l, x.ok) (hr : SRow w w.heap.size v l) (hg : g < w.heap.size)
    (d1 : w.cell? ⟨g, 0, none⟩ = some (.int .i64 s.p)) (d2 : w.cell? ⟨g, 1, none⟩ = some (.int .i64 s.n)) :
    Calls Try.prog 42 #[v, .func (.func 29) #[] #[.pointer (some ⟨g, 0, none⟩)]] w (IdxPost (hasB s) l w) := by
  obtain ⟨-, hlen, A, cap, rfl, hA⟩ := hr
  have HL := Lib.hid hl; clear hl
  have HC := Lib.hid (fun x (hx : Sp.ok x) w' (b : Below w.heap.size w w') => hasC s x g w' hs hx (Nat.lt_of_lt_of_le hg b.size) ((b.cell (p := ⟨g, 0, none⟩) hg).trans d1) ((b.cell (p := ⟨g, 1, none⟩) hg).trans d2))
  clear d1 d2
  go_enter Try.func42, Try.ntmps42
  go_wp2_with fail
  go_loopw [5, 8] (fun u i wl => ∃ k : Nat, k ≤ l.length ∧ i = .int .i64 k ∧ (∀ i, i < k → hasB s (gt l i) = false) ∧ Below w.heap.size w wl) (fun _ i _ => l.length - (intOf i).toNat)
  case atStart => exact ⟨0, by omega, rfl, fun i h => by omega, Below.refl _ _⟩
  case round =>
    obtain ⟨k, hk, rfl, hnot, hB⟩ := hrel
    have HNOT := Lib.hid hnot; clear hnot
    by_cases hlt : k < l.length
    · obtain ⟨b, off, rfl, hb, hc⟩ := hA (by omega)
      have c1 := (hB.cell (p := ⟨b, off + k * 2, none⟩) hb).trans (hc k hlt).1
      have c2 := (hB.cell (p := ⟨b, off + k * 2 + 1, none⟩) hb).trans (hc k hlt).2
      have HX := Lib.hid (HC.out (gt l k) (by rw [gt_get l k hlt]; exact HL.out _ (List.getElem_mem hlt)) _ hB)
      unfold spv at HX
      have HANY := Lib.hid (any_gt (P := hasB s) hlt)
      obtain ⟨P, hP⟩ : ∃ P, hasB s (gt l k) = P := ⟨_, rfl⟩
      obtain ⟨xp, hxp⟩ : ∃ p, (gt l k).p = p := ⟨_, rfl⟩
      obtain ⟨xn, hxn⟩ : ∃ n, (gt l k).n = n := ⟨_, rfl⟩
      rw [hxp] at c1
      rw [hxn] at c2
      rw [hP, hxp, hxn] at HX
      rw [hP] at HANY
      have HP := Lib.hid hP
      clear hA hc hxp hxn hP
      have q1 : (k : Int) < l.length := by omega
      go_wp2_with fail
      refine HX.out.mono ?_; rintro e w1 ⟨rfl, hB1⟩
      have hB2 := chain hB hB1 (Nat.le_refl _)
      cases P
      · go_wp2_with fail
        go_roundw
        case rel => exact ⟨k + 1, by omega, by go_num, fun i hi => if h : i = k then by rw [h]; exact HP.out else HNOT.out i (by omega), hB2⟩
        case measure => simp [intOf]; omega
      · go_wp2_with fail
        go_ret
        exact ⟨k, rfl, ⟨fun _ => HANY.out trivial, fun _ => by omega⟩, hB2⟩
    · obtain rfl : k = l.length := by omega
      have HR := Lib.hid (any_none HNOT.out)
      go_wp2_with fail
      go_ret
      exact ⟨-1, rfl, ⟨fun h => by omega, fun h => by rw [HR.out] at h; cases h⟩, hB⟩

set_option maxRecDepth 100000 in
theorem containsH (v : Value) (l : List Sp) (s : Sp) (g : Nat) (w : World) (hs : s.ok) (hl : ∀ x ∈ l, x.ok) (hr : SRow w w.heap.size v l) (hg : g < w.heap.size)
    (d1 : w.cell? ⟨g, 0, none⟩ = some (.int .i64 s.p)) (d2 : w.cell? ⟨g, 1, none⟩ = some (.int .i64 s.n)) :
    Calls Try.prog 28 #[v, .func (.func 29) #[] #[.pointer (some ⟨g, 0, none⟩)]] w fun e w' => e = .returned (.bool (l.any (hasB s))) ∧ Below w.heap.size w w' := by
  have HI := Lib.hid (indexH v l s g w hs hl hr hg d1 d2)
  clear hr d1 d2 hl
  go_enter Try.func28, Try.ntmps28
  go_wp2_with fail
  refine HI.out.mono ?_; rintro e w1 ⟨r, rfl, hr, hB⟩
  have HR : Hid (l.any (hasB s) = decide (0 ≤ r)) := by
    show _ = _
    rw [Bool.eq_iff_iff, decide_eq_true_iff]; exact hr.symm
  clear hr
  by_cases h0 : 0 ≤ r
  all_goals
    go_wp2_with fail
    go_ret
    exact ⟨by rw [HR.out]; first | rfl | (simp; omega), hB⟩

set_option maxRecDepth 100000 in
set_option maxHeartbeats 2000000 in
theorem indexM (v : Value) (l : List Sp) (s : Sp) (g : Nat) (w : World) (hs : s.ok) (hl : ∀ x ∈ l, x.ok) (hr : SRow w w.heap.size v l) (hg : g < w.heap.size)
    (d1 : w.cell? ⟨g, 0, none⟩ = some (.int .i64 s.p)) (d2 : w.cell? ⟨g, 1, none⟩ = some (.int .i64 s.n)) :
    Calls Try.prog 42 #[v, .func (.func 30) #[] #[.pointer (some ⟨g, 0, none⟩)]] w (IdxPost (meetB s) l w) := by
  obtain ⟨-, hlen, A, cap, rfl, hA⟩ := hr
  have HL := Lib.hid hl; clear hl
  have HC := Lib.hid (fun x (hx : Sp.ok x) w' (b : Below w.heap.size w w') => meetC s x g w' hs hx (Nat.lt_of_lt_of_le hg b.size) ((b.cell (p := ⟨g, 0, none⟩) hg).trans d1) ((b.cell (p := ⟨g, 1, none⟩) hg).trans d2))
  clear d1 d2
  go_enter Try.func42, Try.ntmps42
  go_wp2_with fail
  go_loopw [5, 8] (fun u i wl => ∃ k : Nat, k ≤ l.length ∧ i = .int .i64 k ∧ (∀ i, i < k → meetB s (gt l i) = false) ∧ Below w.heap.size w wl) (fun _ i _ => l.length - (intOf i).toNat)
  case atStart => exact ⟨0, by omega, rfl, fun i h => by omega, Below.refl _ _⟩
  case round =>
    obtain ⟨k, hk, rfl, hnot, hB⟩ := hrel
    have HNOT := Lib.hid hnot; clear hnot
    by_cases hlt : k < l.length
    · obtain ⟨b, off, rfl, hb, hc⟩ := hA (by omega)
      have c1 := (hB.cell (p := ⟨b, off + k * 2, none⟩) hb).trans (hc k hlt).1
      have c2 := (hB.cell (p := ⟨b, off + k * 2 + 1, none⟩) hb).trans (hc k hlt).2
      have HX := Lib.hid (HC.out (gt l k) (by rw [gt_get l k hlt]; exact HL.out _ (List.getElem_mem hlt)) _ hB)
      unfold spv at HX
      have HANY := Lib.hid (any_gt (P := meetB s) hlt)
      obtain ⟨P, hP⟩ : ∃ P, meetB s (gt l k) = P := ⟨_, rfl⟩
      obtain ⟨xp, hxp⟩ : ∃ p, (gt l k).p = p := ⟨_, rfl⟩
      obtain ⟨xn, hxn⟩ : ∃ n, (gt l k).n = n := ⟨_, rfl⟩
      rw [hxp] at c1
      rw [hxn] at c2
      rw [hP, hxp, hxn] at HX
      rw [hP] at HANY
      have HP := Lib.hid hP
      clear hA hc hxp hxn hP
      have q1 : (k : Int) < l.length := by omega
      go_wp2_with fail
      refine HX.out.mono ?_; rintro e w1 ⟨rfl, hB1⟩
      have hB2 := chain hB hB1 (Nat.le_refl _)
      cases P
      · go_wp2_with fail
        go_roundw
        case rel => exact ⟨k + 1, by omega, by go_num, fun i hi => if h : i = k then by rw [h]; exact HP.out else HNOT.out i (by omega), hB2⟩
        case measure => simp [intOf]; omega
      · go_wp2_with fail
        go_ret
        exact ⟨k, rfl, ⟨fun _ => HANY.out trivial, fun _ => by omega⟩, hB2⟩
    · obtain rfl : k = l.length := by omega
      have HR := Lib.hid (any_none HNOT.out)
      go_wp2_with fail
      go_ret
      exact ⟨-1, rfl, ⟨fun h => by omega, fun h => by rw [HR.out] at h; cases h⟩, hB⟩

set_option maxRecDepth 100000 in
theorem containsM (v : Value) (l : List Sp) (s : Sp) (g : Nat) (w : World) (hs : s.ok) (hl : ∀ x ∈ l, x.ok) (hr : SRow w w.heap.size v l) (hg : g < w.heap.size)
    (d1 : w.cell? ⟨g, 0, none⟩ = some (.int .i64 s.p)) (d2 : w.cell? ⟨g, 1, none⟩ = some (.int .i64 s.n)) :
    Calls Try.prog 28 #[v, .func (.func 30) #[] #[.pointer (some ⟨g, 0, none⟩)]] w fun e w' => e = .returned (.bool (l.any (meetB s))) ∧ Below w.heap.size w w' := by
  have HI := Lib.hid (indexM v l s g w hs hl hr hg d1 d2)
  clear hr d1 d2 hl
  go_enter Try.func28, Try.ntmps28
  go_wp2_with fail
  refine HI.out.mono ?_; rintro e w1 ⟨r, rfl, hr, hB⟩
  have HR : Hid (l.any (meetB s) = decide (0 ≤ r)) := by
    show _ = _
    rw [Bool.eq_iff_iff, decide_eq_true_iff]; exact hr.symm
  clear hr
  by_cases h0 : 0 ≤ r
  all_goals
    go_wp2_with fail
    go_ret
    exact ⟨by rw [HR.out]; first | rfl | (simp; omega), hB⟩
end Go.Proofs.Ytfeiapkifoakoaa
