/-
  Spans in memory; contracts of the reference's Valid, Right, Total, Same.
-/
import Derived.Test.YtfeiapkifoakoaaBase
import Derived.Test.YtfeiapkifoakoaaCount
namespace Go.Proofs.Ytfeiapkifoakoaa
set_option linter.unusedVariables false
set_option linter.unusedSimpArgs false
open Go.RowKit

/-- A span as a value. -/
def spv (s : Sp) : Value := .agg #[.int .i64 s.p, .int .i64 s.n]
def Sp.wf (s : Sp) : Prop := -9223372036854775808 ≤ s.p ∧ s.p ≤ 9223372036854775807 ∧ -9223372036854775808 ≤ s.n ∧ s.n ≤ 9223372036854775807
theorem Sp.ok.wf {s : Sp} (h : s.ok) : s.wf := by unfold Sp.ok at h; unfold Sp.wf; omega

set_option maxRecDepth 100000 in
theorem validR (s : Sp) (w : World) (hw : s.wf) :
    Calls Try.prog 26 #[spv s] w fun e w' => e = .returned (.bool (decide s.ok)) ∧ Below w.heap.size w w' := by
  obtain ⟨p, n⟩ := s
  unfold Sp.wf at hw
  obtain ⟨w1, w2, w3, w4⟩ := hw
  simp only at w1 w2 w3 w4
  unfold spv
  by_cases h1 : 0 ≤ p
  · by_cases h2 : p ≤ 1099511627776
    · by_cases h3 : 0 ≤ n
      · by_cases h4 : n ≤ 1099511627776 - p
        · have HD : Hid (decide (Sp.ok ⟨p, n⟩) = true) := by show _ = _; rw [decide_eq_true_iff]; exact ⟨h1, h2, h3, h4⟩
          go_enter Try.func26, Try.ntmps26
          go_wp2_with fail
          go_ret
          exact ⟨by rw [HD.out]; rfl, below_new _ _⟩
        · have HD : Hid (decide (Sp.ok ⟨p, n⟩) = false) := by show _ = _; rw [decide_eq_false_iff_not]; exact fun h => h4 h.2.2.2
          go_enter Try.func26, Try.ntmps26
          go_wp2_with fail
          go_ret
          exact ⟨by rw [HD.out]; rfl, below_new _ _⟩
      · have HD : Hid (decide (Sp.ok ⟨p, n⟩) = false) := by show _ = _; rw [decide_eq_false_iff_not]; exact fun h => h3 h.2.2.1
        go_enter Try.func26, Try.ntmps26
        go_wp2_with fail
        go_ret
        exact ⟨by rw [HD.out]; rfl, below_new _ _⟩
    · have HD : Hid (decide (Sp.ok ⟨p, n⟩) = false) := by show _ = _; rw [decide_eq_false_iff_not]; exact fun h => h2 h.2.1
      go_enter Try.func26, Try.ntmps26
      go_wp2_with fail
      go_ret
      exact ⟨by rw [HD.out]; rfl, below_new _ _⟩
  · have HD : Hid (decide (Sp.ok ⟨p, n⟩) = false) := by show _ = _; rw [decide_eq_false_iff_not]; exact fun h => h1 h.1
    go_enter Try.func26, Try.ntmps26
    go_wp2_with fail
    go_ret
    exact ⟨by rw [HD.out]; rfl, below_new _ _⟩

/-- A slice value that reads as the spans l, in memory below block B. -/
def SRow (w : World) (B : Nat) (v : Value) (l : List Sp) : Prop :=
  ((∀ s ∈ l, s.wf) ∧ ∀ A n c, v = .slice A n c → n ≤ c ∧ c ≤ maxLen ∧ (A = none → c = 0)) ∧ l.length ≤ 1000000 ∧ ∃ A cap, v = .slice A l.length cap ∧ (0 < l.length → ∃ b off, A = some ⟨b, off, none⟩ ∧ b < B ∧ ∀ i, i < l.length → w.cell? ⟨b, off + i * 2, none⟩ = some (.int .i64 (gt l i).p) ∧ w.cell? ⟨b, off + i * 2 + 1, none⟩ = some (.int .i64 (gt l i).n))
theorem SRow.below {w w' : World} {B : Nat} {v : Value} {l : List Sp} (h : SRow w B v l) (hb : Below B w w') : SRow w' B v l := by
  obtain ⟨hw, hl, A, cap, hv, hA⟩ := h
  refine ⟨hw, hl, A, cap, hv, fun h0 => ?_⟩
  obtain ⟨b, off, ha, hB, hc⟩ := hA h0
  exact ⟨b, off, ha, hB, fun k hk => ⟨(hb.cell (p := ⟨b, off + k * 2, none⟩) hB).trans (hc k hk).1, (hb.cell (p := ⟨b, off + k * 2 + 1, none⟩) hB).trans (hc k hk).2⟩⟩
theorem SRow.mono {w : World} {B B' : Nat} {v : Value} {l : List Sp} (h : SRow w B v l) (hb : B ≤ B') : SRow w B' v l := by
  obtain ⟨hw, hl, A, cap, hv, hA⟩ := h
  refine ⟨hw, hl, A, cap, hv, fun h0 => ?_⟩
  obtain ⟨b, off, ha, hB, hc⟩ := hA h0
  exact ⟨b, off, ha, by omega, hc⟩
theorem SRow.wf {w : World} {B : Nat} {v : Value} {l : List Sp} (h : SRow w B v l) (i : Nat) (hi : i < l.length) : (gt l i).wf := by
  rw [gt_get l i hi]; exact h.1.1 _ (List.getElem_mem hi)

set_option maxRecDepth 100000 in
set_option maxHeartbeats 2000000 in
theorem rightR (v : Value) (l : List Sp) (w : World) (hr : SRow w w.heap.size v l) :
    Calls Try.prog 13 #[v] w fun e w' => e = .returned (.bool (decide (right l))) ∧ Below w.heap.size w w' := by
  have hwf := fun i hi => hr.wf (i := i) hi
  obtain ⟨-, hlen, A, cap, rfl, hA⟩ := hr
  go_enter Try.func13, Try.ntmps13
  go_wp2_with fail
  go_loopw [3] (fun i wr => ∃ k : Nat, k ≤ l.length ∧ i = .int .i64 k ∧ (∀ i, i < k → good l i) ∧ Below w.heap.size w wr) (fun i _ => l.length - (intOf i).toNat)
  case atStart => exact ⟨0, by omega, rfl, fun i h => by omega, Below.refl _ _⟩
  case round =>
    obtain ⟨k, hk, rfl, hgd, hB⟩ := hrel
    have HGD := Lib.hid hgd; clear hgd
    by_cases hlt : k < l.length
    · obtain ⟨b, off, rfl, hb, hc⟩ := hA (by omega)
      obtain ⟨c1, c2⟩ := hc k hlt
      have d1 := (hB.cell (p := ⟨b, off + k * 2, none⟩) hb).trans c1
      have d2 := (hB.cell (p := ⟨b, off + k * 2 + 1, none⟩) hb).trans c2
      have hw1 := hwf k hlt
      obtain ⟨p, hp⟩ : ∃ p, (gt l k).p = p := ⟨_, rfl⟩
      obtain ⟨n, hn⟩ : ∃ n, (gt l k).n = n := ⟨_, rfl⟩
      have hV := fun w => validR (gt l k) w hw1
      unfold spv at hV
      simp only [hp, hn] at hV
      rw [hp] at d1
      rw [hn] at d2
      have HV := Lib.hid hV
      have hbad : ¬ good l k → decide (right l) = false := fun h => by rw [decide_eq_false_iff_not]; exact fun hr => h (hr k hlt)
      have HBAD := Lib.hid hbad; clear hbad
      go_wp2_with fail
      refine (HV.out _).mono ?_; rintro e w1 ⟨rfl, hB1⟩
      have hb1 := hB.size
      have e1 := (hB1.cell (p := ⟨b, off + k * 2, none⟩) (by show b < _; omega)).trans d1
      have e2 := (hB1.cell (p := ⟨b, off + k * 2 + 1, none⟩) (by show b < _; omega)).trans d2
      have hB2 := hB.trans (hB1.mono hb1)
      have q0 : (0 : Int) ≤ k := by omega
      have q1 : (k : Int) < l.length := by omega
      by_cases hok : (gt l k).ok
      · rw [show decide (gt l k).ok = true from decide_eq_true hok]
        by_cases hn0 : n = 0
        · have HR : Hid (decide (right l) = false) := HBAD.out fun h => h.2.1 (hn.trans hn0)
          have hn0' : (n == 0) = true := by rw [hn0]; rfl
          go_wp2_with fail
          go_quiet (fail)
          go_wp2_with fail
          go_ret
          exact ⟨by rw [HR.out]; rfl, ⟨hB2.os, hB2.tape, hB2.output, hB2.size, hB2.block⟩⟩
        · have hn0' : (n == 0) = false := by simp [hn0]
          rcases k with _ | j
          · have HG : Hid (good l 0) := ⟨hok, by rw [hn]; exact hn0, fun h => by omega⟩
            go_wp2_with fail
            go_quiet (fail)
            go_wp2_with fail
            go_roundw
            case rel => exact ⟨1, by omega, rfl, fun i hi => by rw [show i = 0 by omega]; exact HG.out, ⟨hB2.os, hB2.tape, hB2.output, hB2.size, hB2.block⟩⟩
            case measure => simp [intOf]; omega
          · have hj := hc j (by omega)
            have f1 := (hB2.cell (p := ⟨b, off + j * 2, none⟩) hb).trans hj.1
            have f2 := (hB2.cell (p := ⟨b, off + j * 2 + 1, none⟩) hb).trans hj.2
            have hgj := (HGD.out j (by omega)).1
            have hge : (gt l j).e = (gt l j).p + (gt l j).n := rfl
            obtain ⟨pj, hpj⟩ : ∃ p, (gt l j).p = p := ⟨_, rfl⟩
            obtain ⟨nj, hnj⟩ : ∃ n, (gt l j).n = n := ⟨_, rfl⟩
            rw [hpj] at f1
            rw [hnj] at f2
            have hb3 : 0 ≤ pj ∧ pj ≤ 1099511627776 ∧ 0 ≤ nj ∧ nj ≤ 1099511627776 - pj := by unfold Sp.ok at hgj; rw [hpj, hnj] at hgj; exact hgj
            obtain ⟨g1, g2, g3, g4⟩ := hb3
            rw [hpj, hnj] at hge
            have t1 : IntKind.i64.wrap (((j + 1 : Nat) : Int) - 1) = j := by rw [IntWalk.i64_in _ (by omega)]; omega
            have t2 : ((j + 1 : Nat) : Int) - 1 = j := by omega
            have t3 : IntKind.i64.wrap (pj + nj) = pj + nj := IntWalk.i64_in _ (by omega)
            have t4 : (0 : Int) ≤ j := by omega
            have t5 : (j : Int) < l.length := by omega
            by_cases hov : p ≤ pj + nj
            · have HR : Hid (decide (right l) = false) := HBAD.out fun h => by
                have h2 := h.2.2 (by omega)
                rw [show j + 1 - 1 = j from rfl, hge, hp] at h2
                omega
              go_wp2_with fail
              go_quiet (fail)
              go_wp2_with fail
              go_ret
              exact ⟨by rw [HR.out]; rfl, ⟨hB2.os, hB2.tape, hB2.output, hB2.size, hB2.block⟩⟩
            · have HG : Hid (good l (j + 1)) := ⟨hok, by rw [hn]; exact hn0, fun _ => by rw [show j + 1 - 1 = j from rfl, hge, hp]; omega⟩
              go_wp2_with fail
              go_quiet (fail)
              go_wp2_with fail
              go_roundw
              case rel => exact ⟨j + 2, by omega, by go_num, fun i hi => if h : i = j + 1 then by rw [h]; exact HG.out else HGD.out i (by omega), ⟨hB2.os, hB2.tape, hB2.output, hB2.size, hB2.block⟩⟩
              case measure => simp [intOf]; omega
      · rw [show decide (gt l k).ok = false from decide_eq_false hok]
        have HR : Hid (decide (right l) = false) := HBAD.out fun h => hok h.1
        go_wp2_with fail
        go_quiet (fail)
        go_wp2_with fail
        go_ret
        exact ⟨by rw [HR.out]; rfl, ⟨hB2.os, hB2.tape, hB2.output, hB2.size, hB2.block⟩⟩
    · have HR : Hid (decide (right l) = true) := by show _ = _; rw [decide_eq_true_iff]; exact fun i hi => HGD.out i (by omega)
      obtain rfl : k = l.length := by omega
      go_wp2_with fail
      go_ret
      exact ⟨by rw [HR.out]; rfl, hB⟩
end Go.Proofs.Ytfeiapkifoakoaa
