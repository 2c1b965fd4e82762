/-
  Contracts of the program's Right and Total.
-/
import Derived.Test.YtfeiapkifoakoaaFn1
namespace Go.Proofs.Ytfeiapkifoakoaa
set_option linter.unusedVariables false
set_option linter.unusedSimpArgs false
open Go.RowKit

set_option maxRecDepth 100000 in
set_option maxHeartbeats 2000000 in
theorem rightP (v : Value) (l : List Sp) (w : World) (hr : SRow w w.heap.size v l) :
    Calls Try.prog 12 #[v] w fun e w' => e = .returned (.bool (decide (right l))) ∧ Below w.heap.size w w' := by
  have hwf := fun i hi => hr.wf (i := i) hi
  obtain ⟨-, hlen, A, cap, rfl, hA⟩ := hr
  go_enter Try.func12, Try.ntmps12
  go_wp2_with fail
  go_loopw [3, 4, 7] (fun u3 u4 i wr => ∃ k : Nat, k ≤ l.length ∧ i = .int .i64 k ∧ (∀ i, i < k → good l i) ∧ Below w.heap.size w wr) (fun _ _ i _ => l.length - (intOf i).toNat)
  case atStart => exact ⟨0, by omega, rfl, fun i h => by omega, Below.refl _ _⟩
  case round =>
    obtain ⟨k, hk, rfl, hgd, hB⟩ := hrel
    have HGD := Lib.hid hgd; clear hgd
    by_cases hlt : k < l.length
    · obtain ⟨b, off, rfl, hb, hc⟩ := hA (by omega)
      obtain ⟨c1, c2⟩ := hc k hlt
      have d1 := (hB.cell (p := ⟨b, off + k * 2, none⟩) hb).trans c1
      have d2 := (hB.cell (p := ⟨b, off + k * 2 + 1, none⟩) hb).trans c2
      have hw1 := hwf k hlt
      obtain ⟨p, hp⟩ : ∃ p, (gt l k).p = p := ⟨_, rfl⟩
      obtain ⟨n, hn⟩ : ∃ n, (gt l k).n = n := ⟨_, rfl⟩
      have hV := fun w => validP (gt l k) w hw1
      unfold spv at hV
      simp only [hp, hn] at hV
      rw [hp] at d1
      rw [hn] at d2
      have HV := Lib.hid hV; clear hV
      have hbad : ¬ good l k → decide (right l) = false := fun h => by rw [decide_eq_false_iff_not]; exact fun hr => h (hr k hlt)
      have HBAD := Lib.hid hbad; clear hbad
      go_wp2_with fail
      have hb1 := hB.size
      have e0 := below_new wr (.cells #[.int .i64 p, .int .i64 n] 24)
      have q1 : (wr.alloc (.cells #[.int .i64 p, .int .i64 n] 24)).cell? ⟨wr.heap.size, 0, none⟩ = some (.int .i64 p) := (Blk.new wr 24 _).cell 0
      have q2 : (wr.alloc (.cells #[.int .i64 p, .int .i64 n] 24)).cell? ⟨wr.heap.size, 1, none⟩ = some (.int .i64 n) := (Blk.new wr 24 _).cell 1
      refine (HV.out _).mono ?_; rintro e w1 ⟨rfl, hB1⟩
      have hc1 := keep_below hB1 q1
      have hc2 := keep_below hB1 q2
      have hB2 := chain (chain hB e0 (by omega)) hB1 (by omega)
      have hB2s : wr.heap.size + 1 ≤ w1.heap.size := by have := hB1.size; simp at this; omega
      clear e0 q1 q2 hB1
      by_cases hok : (gt l k).ok
      · rw [show decide (gt l k).ok = true from decide_eq_true hok]
        by_cases hn0 : n = 0
        · have HR : Hid (decide (right l) = false) := HBAD.out fun h => h.2.1 (hn.trans hn0)
          have hn0' : (n == 0) = true := by rw [hn0]; rfl
          go_wp2_with fail
          go_ret
          exact ⟨by rw [HR.out]; rfl, hB2⟩
        · have hn0' : (n == 0) = false := by simp [hn0]
          rcases k with _ | j
          · have HG : Hid (good l 0) := ⟨hok, by rw [hn]; exact hn0, fun h => by omega⟩
            go_wp2_with fail
            first | (go_quiet (fail)) | skip
            go_wp2_with fail
            go_roundw
            case rel => exact ⟨1, by omega, rfl, fun i hi => by rw [show i = 0 by omega]; exact HG.out, ⟨hB2.os, hB2.tape, hB2.output, hB2.size, hB2.block⟩⟩
            case measure => simp [intOf]; omega
          · have hj := hc j (by omega)
            have f1 := (hB2.cell (p := ⟨b, off + j * 2, none⟩) hb).trans hj.1
            have f2 := (hB2.cell (p := ⟨b, off + j * 2 + 1, none⟩) hb).trans hj.2
            have hgj := (HGD.out j (by omega)).1
            have hge : (gt l j).e = (gt l j).p + (gt l j).n := rfl
            obtain ⟨pj, hpj⟩ : ∃ p, (gt l j).p = p := ⟨_, rfl⟩
            obtain ⟨nj, hnj⟩ : ∃ n, (gt l j).n = n := ⟨_, rfl⟩
            rw [hpj] at f1
            rw [hnj] at f2
            have hb3 : 0 ≤ pj ∧ pj ≤ 1099511627776 ∧ 0 ≤ nj ∧ nj ≤ 1099511627776 - pj := by unfold Sp.ok at hgj; rw [hpj, hnj] at hgj; exact hgj
            obtain ⟨g1, g2, g3, g4⟩ := hb3
            rw [hpj, hnj] at hge
            have HGE := Lib.hid hge; clear hge
            have HP := Lib.hid hp; have HN := Lib.hid hn; clear hp hn hpj hnj hc hj c1 c2 hgj
            have t1 : IntKind.i64.wrap (((j + 1 : Nat) : Int) - 1) = j := by rw [IntWalk.i64_in _ (by omega)]; omega
            have t2 : ((j + 1 : Nat) : Int) - 1 = j := by omega
            have t4 : (0 : Int) ≤ j := by omega
            have t6 : IntKind.i64.wrap ((j : Int) + 1 - 1) = j := by rw [IntWalk.i64_in _ (by omega)]; omega
            have t7 : (j : Int) + 1 - 1 = j := by omega
            have t8 : IntKind.i64.wrap (j : Int) = j := IntWalk.i64_in _ (by omega)
            have t5 : (j : Int) < l.length := by omega
            by_cases hov : p ≤ pj + nj
            · have HR : Hid (decide (right l) = false) := HBAD.out fun h => by
                have h2 := h.2.2 (by omega)
                rw [show j + 1 - 1 = j from rfl, HGE.out, HP.out] at h2
                omega
              go_wp2_with fail
              first | (go_region_held3 (fun w' => w'.cell? ⟨b, off + j * 2, none⟩ = some (.int .i64 pj) ∧ w'.cell? ⟨b, off + j * 2 + 1, none⟩ = some (.int .i64 nj) ∧ w'.cell? ⟨wr.heap.size, 0, none⟩ = some (.int .i64 p) ∧ w'.cell? ⟨wr.heap.size, 1, none⟩ = some (.int .i64 n))
                (first | go_keep | (go_split_ands; exact ⟨keep_below ba (by assumption), keep_below ba (by assumption), keep_below ba (by assumption), keep_below ba (by assumption)⟩))
                (first
                  | (go_at_call 21; refine (endP pj nj _ (by omega) (by omega)).mono ?_; rintro e wa ⟨rfl, ba⟩))) | fail
              go_wp2_with fail
              go_ret
              exact ⟨by rw [HR.out]; rfl, chain hB2 (below_drew ba) (by omega)⟩
            · have HG : Hid (good l (j + 1)) := ⟨hok, by rw [HN.out]; exact hn0, fun _ => by rw [show j + 1 - 1 = j from rfl, HGE.out, HP.out]; omega⟩
              go_wp2_with fail
              first | (go_region_held3 (fun w' => w'.cell? ⟨b, off + j * 2, none⟩ = some (.int .i64 pj) ∧ w'.cell? ⟨b, off + j * 2 + 1, none⟩ = some (.int .i64 nj) ∧ w'.cell? ⟨wr.heap.size, 0, none⟩ = some (.int .i64 p) ∧ w'.cell? ⟨wr.heap.size, 1, none⟩ = some (.int .i64 n))
                (first | go_keep | (go_split_ands; exact ⟨keep_below ba (by assumption), keep_below ba (by assumption), keep_below ba (by assumption), keep_below ba (by assumption)⟩))
                (first
                  | (go_at_call 21; refine (endP pj nj _ (by omega) (by omega)).mono ?_; rintro e wa ⟨rfl, ba⟩))) | fail
              go_wp2_with fail
              go_roundw
              case rel => exact ⟨j + 2, by omega, by go_num, fun i hi => if h : i = j + 1 then by rw [h]; exact HG.out else HGD.out i (by omega), chain hB2 (below_drew ba) (by omega)⟩
              case measure => simp [intOf]; omega
      · rw [show decide (gt l k).ok = false from decide_eq_false hok]
        have HR : Hid (decide (right l) = false) := HBAD.out fun h => hok h.1
        go_wp2_with fail
        go_ret
        exact ⟨by rw [HR.out]; rfl, hB2⟩
    · have HR : Hid (decide (right l) = true) := by show _ = _; rw [decide_eq_true_iff]; exact fun i hi => HGD.out i (by omega)
      obtain rfl : k = l.length := by omega
      go_wp2_with fail
      go_ret
      exact ⟨by rw [HR.out]; rfl, hB⟩
end Go.Proofs.Ytfeiapkifoakoaa
