/-
  Contracts of the reference's Total, Same and In.
-/
import Derived.Test.YtfeiapkifoakoaaSpRef
namespace Go.Proofs.Ytfeiapkifoakoaa
set_option linter.unusedVariables false
set_option linter.unusedSimpArgs false
open Go.RowKit

set_option maxRecDepth 100000 in
set_option maxHeartbeats 2000000 in
theorem totalR (v : Value) (l : List Sp) (w : World) (hr : SRow w w.heap.size v l) :
    Calls Try.prog 15 #[v] w fun e w' => e = .returned (.int .i64 (totalL l)) ∧ Below w.heap.size w w' := by
  have HRR := Lib.hid (fun w' (h : SRow w' w'.heap.size v l) => rightR v l w' h)
  have hr0 := hr
  obtain ⟨-, hlen, A, cap, rfl, hA⟩ := hr
  by_cases hri : right l
  · have HT : Hid (totalL l = tot l) := by show _ = _; unfold totalL; rw [if_pos hri]
    have hR := rightR _ l w hr0
    rw [show decide (right l) = true from decide_eq_true hri] at hR
    have HR := Lib.hid hR; clear hR
    have HRI := Lib.hid hri; clear hri
    go_enter Try.func15, Try.ntmps15
    go_wp2_with fail
    refine HR.out.mono ?_; rintro e w1 ⟨rfl, hB1⟩
    go_wp2_with fail
    go_loopw [4, 5] (fun n i wl => ∃ k : Nat, k ≤ l.length ∧ i = .int .i64 k ∧ n = .int .i64 (tot (l.take k)) ∧ Below w.heap.size w wl) (fun _ i _ => l.length - (intOf i).toNat)
    case atStart => exact ⟨0, by omega, rfl, rfl, hB1⟩
    case round =>
      obtain ⟨k, hk, rfl, rfl, hB⟩ := hrel
      have hb1 := tot_bound (right_take HRI.out k)
      by_cases hlt : k < l.length
      · obtain ⟨b, off, rfl, hb, hc⟩ := hA (by omega)
        have d2 := (hB.cell (p := ⟨b, off + k * 2 + 1, none⟩) hb).trans (hc k hlt).2
        have hb2 := tot_bound (right_take HRI.out (k + 1))
        have htk := tot_take l k hlt
        rw [htk] at hb2
        have HTK := Lib.hid htk; clear htk
        have hok := (HRI.out k hlt).1
        obtain ⟨x, hx⟩ : ∃ x, tot (l.take k) = x := ⟨_, rfl⟩
        obtain ⟨n, hn⟩ : ∃ n, (gt l k).n = n := ⟨_, rfl⟩
        rw [hx, hn] at hb2 HTK
        rw [hx] at hb1
        rw [hx]
        rw [hn] at d2
        clear hx
        have hn2 : 0 ≤ n ∧ n ≤ 1099511627776 := by unfold Sp.ok at hok; omega
        clear hn hok hA
        have q1 : (k : Int) < l.length := by omega
        go_wp2_with fail
        go_roundw
        case rel => exact ⟨k + 1, by omega, by go_num, by rw [HTK.out], hB⟩
        case measure => simp [intOf]; omega
      · obtain rfl : k = l.length := by omega
        rw [List.take_length]
        rw [List.take_length] at hb1
        have HT2 := HT
        go_wp2_with fail
        go_ret
        exact ⟨by rw [HT2.out]; rfl, hB⟩
  · have HT : Hid (totalL l = 0) := by show _ = _; unfold totalL; rw [if_neg hri]
    have hR := rightR _ l w hr0
    rw [show decide (right l) = false from decide_eq_false hri] at hR
    have HR := Lib.hid hR; clear hR hri hA
    go_enter Try.func15, Try.ntmps15
    go_wp2_with fail
    refine HR.out.mono ?_; rintro e w1 ⟨rfl, hB1⟩
    by_cases h0 : 0 < l.length
    · go_wp2_with fail
      go_loopw [4, 5] (fun n i wl => i = .int .i64 0 ∧ n = .int .i64 0 ∧ Below w.heap.size w wl) (fun _ i _ => 0)
      case atStart => exact ⟨rfl, rfl, hB1⟩
      case round =>
        obtain ⟨rfl, rfl, hB⟩ := hrel
        go_wp2_with fail
        go_ret
        exact ⟨by rw [HT.out]; rfl, hB⟩
    · have h00 : l.length = 0 := by omega
      go_wp2_with fail
      go_loopw [4, 5] (fun n i wl => i = .int .i64 0 ∧ n = .int .i64 0 ∧ Below w.heap.size w wl) (fun _ i _ => 0)
      case atStart => exact ⟨rfl, rfl, hB1⟩
      case round =>
        obtain ⟨rfl, rfl, hB⟩ := hrel
        go_wp2_with fail
        go_ret
        exact ⟨by rw [HT.out]; rfl, hB⟩

set_option maxRecDepth 100000 in
set_option maxHeartbeats 2000000 in
theorem inR (v : Value) (l : List Sp) (a : Int) (w : World) (hr : SRow w w.heap.size v l) (hok : ∀ x ∈ l, x.ok) :
    Calls Try.prog 41 #[v, .int .i64 a] w fun e w' => e = .returned (.bool (decide (inn l a))) ∧ Below w.heap.size w w' := by
  obtain ⟨-, hlen, A, cap, rfl, hA⟩ := hr
  have HOK := Lib.hid hok; clear hok
  go_enter Try.func41, Try.ntmps41
  go_wp2_with fail
  go_loopw [5] (fun i wl => ∃ k : Nat, k ≤ l.length ∧ i = .int .i64 k ∧ (∀ i, i < k → ¬ (gt l i).has a) ∧ Below w.heap.size w wl) (fun i _ => l.length - (intOf i).toNat)
  case atStart => exact ⟨0, by omega, rfl, fun i h => by omega, Below.refl _ _⟩
  case round =>
    obtain ⟨k, hk, rfl, hnot, hB⟩ := hrel
    have HNOT := Lib.hid hnot; clear hnot
    by_cases hlt : k < l.length
    · obtain ⟨b, off, rfl, hb, hc⟩ := hA (by omega)
      have d1 := (hB.cell (p := ⟨b, off + k * 2, none⟩) hb).trans (hc k hlt).1
      have d2 := (hB.cell (p := ⟨b, off + k * 2 + 1, none⟩) hb).trans (hc k hlt).2
      have hx := HOK.out l[k] (List.getElem_mem hlt)
      rw [← gt_get l k hlt] at hx
      have hhas : (gt l k).has a ↔ (gt l k).p ≤ a ∧ a < (gt l k).p + (gt l k).n := Iff.rfl
      have hmem : (gt l k).has a → decide (inn l a) = true := fun h => by
        rw [decide_eq_true_iff]
        exact ⟨l[k], List.getElem_mem hlt, by rw [← gt_get l k hlt]; exact h⟩
      unfold Sp.ok at hx
      obtain ⟨p, hp⟩ : ∃ p, (gt l k).p = p := ⟨_, rfl⟩
      obtain ⟨n, hn⟩ : ∃ n, (gt l k).n = n := ⟨_, rfl⟩
      rw [hp] at d1
      rw [hn] at d2
      rw [hp, hn] at hx hhas
      have HP := Lib.hid hp; have HN := Lib.hid hn
      clear hp hn hA
      have HH := Lib.hid hhas; clear hhas
      have HM := Lib.hid hmem; clear hmem
      obtain ⟨g1, g2, g3, g4⟩ := hx
      have q0 : (0 : Int) ≤ k := by omega
      have q1 : (k : Int) < l.length := by omega
      have t3 : IntKind.i64.wrap (p + n) = p + n := IntWalk.i64_in _ (by omega)
      by_cases h1 : p ≤ a
      · by_cases h2 : a < p + n
        · have HR := Lib.hid (HM.out (HH.out.2 ⟨h1, h2⟩))
          go_wp2_with fail
          go_quiet (fail)
          go_wp2_with fail
          go_ret
          exact ⟨by rw [HR.out]; rfl, ⟨hB.os, hB.tape, hB.output, hB.size, hB.block⟩⟩
        · have HR : Hid (¬ (gt l k).has a) := fun h => h2 (HH.out.1 h).2
          go_wp2_with fail
          go_quiet (fail)
          go_wp2_with fail
          go_roundw
          case rel => exact ⟨k + 1, by omega, by go_num, fun i hi => if h : i = k then by rw [h]; exact HR.out else HNOT.out i (by omega), ⟨hB.os, hB.tape, hB.output, hB.size, hB.block⟩⟩
          case measure => simp [intOf]; omega
      · have HR : Hid (¬ (gt l k).has a) := fun h => h1 (HH.out.1 h).1
        have h1' : decide (p ≤ a) = false := by simp; omega
        go_wp2_with fail
        go_quiet (fail)
        go_wp2_with fail
        go_roundw
        case rel => exact ⟨k + 1, by omega, by go_num, fun i hi => if h : i = k then by rw [h]; exact HR.out else HNOT.out i (by omega), ⟨hB.os, hB.tape, hB.output, hB.size, hB.block⟩⟩
        case measure => simp [intOf]; omega
    · obtain rfl : k = l.length := by omega
      have HR : Hid (decide (inn l a) = false) := by
        show _ = _
        rw [decide_eq_false_iff_not]
        rintro ⟨x, hx, h⟩
        obtain ⟨i, hi, rfl⟩ := List.mem_iff_getElem.1 hx
        exact HNOT.out i hi (by rw [gt_get l i hi]; exact h)
      go_wp2_with fail
      go_ret
      exact ⟨by rw [HR.out]; rfl, hB⟩

set_option maxRecDepth 100000 in
set_option maxHeartbeats 2000000 in
theorem sameR (v u : Value) (l m : List Sp) (w : World) (hr : SRow w w.heap.size v l) (hu : SRow w w.heap.size u m) :
    Calls Try.prog 7 #[v, u] w fun e w' => e = .returned (.bool (decide (l = m))) ∧ Below w.heap.size w w' := by
  obtain ⟨-, hlen, A, cap, rfl, hA⟩ := hr
  obtain ⟨-, hlen2, A2, cap2, rfl, hA2⟩ := hu
  by_cases hl : l.length = m.length
  · have hl' : ((l.length : Int) == (m.length : Int)) = true := by rw [hl]; simp
    have HL := Lib.hid hl
    rw [hl] at hA hlen ⊢
    clear hl
    go_enter Try.func7, Try.ntmps7
    go_wp2_with fail
    go_loopw [5] (fun i wl => ∃ k : Nat, k ≤ m.length ∧ i = .int .i64 k ∧ (∀ i, i < k → gt l i = gt m i) ∧ Below w.heap.size w wl) (fun i _ => m.length - (intOf i).toNat)
    case atStart => exact ⟨0, by omega, rfl, fun i h => by omega, Below.refl _ _⟩
    case round =>
      obtain ⟨k, hk, rfl, heq, hB⟩ := hrel
      have HEQ := Lib.hid heq; clear heq
      by_cases hlt : k < m.length
      · obtain ⟨b, off, rfl, hb, hc⟩ := hA (by omega)
        obtain ⟨b2, off2, rfl, hb2, hc2⟩ := hA2 (by omega)
        have d1 := (hB.cell (p := ⟨b, off + k * 2, none⟩) hb).trans (hc k hlt).1
        have d2 := (hB.cell (p := ⟨b, off + k * 2 + 1, none⟩) hb).trans (hc k hlt).2
        have f1 := (hB.cell (p := ⟨b2, off2 + k * 2, none⟩) hb2).trans (hc2 k hlt).1
        have f2 := (hB.cell (p := ⟨b2, off2 + k * 2 + 1, none⟩) hb2).trans (hc2 k hlt).2
        clear hA hA2 hc hc2
        by_cases hs : gt l k = gt m k
        · have HS := Lib.hid hs
          rw [hs] at d1 d2
          clear hs
          obtain ⟨p, hp⟩ : ∃ p, (gt m k).p = p := ⟨_, rfl⟩
          obtain ⟨n, hn⟩ : ∃ n, (gt m k).n = n := ⟨_, rfl⟩
          rw [hp] at d1 f1
          rw [hn] at d2 f2
          clear hp hn
          go_wp2_with fail
          go_quiet (fail)
          go_wp2_with fail
          go_roundw
          case rel => exact ⟨k + 1, by omega, by go_num, fun i hi => if h : i = k then by rw [h]; exact HS.out else HEQ.out i (by omega), ⟨hB.os, hB.tape, hB.output, hB.size, hB.block⟩⟩
          case measure => simp [intOf]; omega
        · have HR : Hid (decide (l = m) = false) := by show _ = _; rw [decide_eq_false_iff_not]; intro h; exact hs (by rw [h])
          have hne : ¬ ((gt l k).p = (gt m k).p ∧ (gt l k).n = (gt m k).n) := fun h => hs (by
            cases h1 : gt l k; cases h2 : gt m k
            rw [h1, h2] at h; simp only at h; rw [h.1, h.2])
          clear hs
          obtain ⟨p, hp⟩ : ∃ p, (gt l k).p = p := ⟨_, rfl⟩
          obtain ⟨n, hn⟩ : ∃ n, (gt l k).n = n := ⟨_, rfl⟩
          obtain ⟨p2, hp2⟩ : ∃ p, (gt m k).p = p := ⟨_, rfl⟩
          obtain ⟨n2, hn2⟩ : ∃ n, (gt m k).n = n := ⟨_, rfl⟩
          rw [hp] at d1
          rw [hn] at d2
          rw [hp2] at f1
          rw [hn2] at f2
          rw [hp, hn, hp2, hn2] at hne
          clear hp hn hp2 hn2
          by_cases h1 : p = p2
          · have h2 : ¬ n = n2 := fun h => hne ⟨h1, h⟩
            subst h1
            have h2' : (n == n2) = false := by simp [h2]
            go_wp2_with fail
            go_quiet (fail)
            go_wp2_with fail
            go_ret
            exact ⟨by rw [HR.out]; rfl, ⟨hB.os, hB.tape, hB.output, hB.size, hB.block⟩⟩
          · have h1' : (p == p2) = false := by simp [h1]
            clear hne
            go_wp2_with fail
            go_quiet (fail)
            go_wp2_with fail
            go_ret
            exact ⟨by rw [HR.out]; rfl, ⟨hB.os, hB.tape, hB.output, hB.size, hB.block⟩⟩
      · obtain rfl : k = m.length := by omega
        have HR : Hid (decide (l = m) = true) := by
          show _ = _
          rw [decide_eq_true_iff]
          refine List.ext_getElem HL.out fun i h1 h2 => ?_
          rw [← gt_get l i h1, ← gt_get m i h2]
          exact HEQ.out i h2
        go_wp2_with fail
        go_ret
        exact ⟨by rw [HR.out]; rfl, hB⟩
  · have hl' : ((l.length : Int) == (m.length : Int)) = false := by simp; omega
    have HR : Hid (decide (l = m) = false) := by show _ = _; rw [decide_eq_false_iff_not]; intro h; exact hl (by rw [h])
    go_enter Try.func7, Try.ntmps7
    go_wp2_with fail
    go_ret
    exact ⟨by rw [HR.out]; rfl, Below.refl _ _⟩
end Go.Proofs.Ytfeiapkifoakoaa
