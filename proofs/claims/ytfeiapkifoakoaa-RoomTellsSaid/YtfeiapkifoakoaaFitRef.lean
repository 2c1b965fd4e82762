/-
  Contract of the reference's Fit.
-/
import Derived.Test.YtfeiapkifoakoaaRoom
namespace Go.Proofs.Ytfeiapkifoakoaa
set_option linter.unusedVariables false
set_option linter.unusedSimpArgs false
open Go.RowKit

theorem fitS_drop (l : List Sp) (size d from_ until_ : Int) (k : Nat) (hk : k < l.length) : fitS (l.drop k) size d from_ until_ =
    if roundUp (max (gt l k).p from_) d + size ≤ (gt l k).e ∧ roundUp (max (gt l k).p from_) d + size ≤ until_ then some (roundUp (max (gt l k).p from_) d) else fitS (l.drop (k + 1)) size d from_ until_ := by
  rw [List.drop_eq_getElem_cons hk, fitS, gt_get l k hk]

set_option maxRecDepth 100000 in
set_option maxHeartbeats 0 in
theorem fitR (v : Value) (l : List Sp) (size d from_ until_ : Int) (w : World) (hr : SRow w w.heap.size v l) (wf : Sp.wf ⟨size, d⟩) (wf2 : Sp.wf ⟨from_, until_⟩) :
    Calls Try.prog 6 #[v, .int .i64 size, .int .i64 d, .int .i64 from_, .int .i64 until_] w fun e w' => e = .returned (fitRes (fitL l size d from_ until_)) ∧ Below w.heap.size w w' := by
  have HRi := Lib.hid (rightR v l w hr)
  unfold Sp.wf at wf wf2
  simp only at wf wf2
  obtain ⟨y1, y2, y3, y4⟩ := wf
  obtain ⟨y5, y6, y7, y8⟩ := wf2
  obtain ⟨-, hlen, A, cap, rfl, hA⟩ := hr
  by_cases hc : right l ∧ 1 ≤ size ∧ size ≤ 1099511627776 ∧ 1 ≤ d ∧ d ≤ 1099511627776 ∧ from_ ≤ 1099511627776
  · have hf : fitL l size d from_ until_ = fitS l size d from_ until_ := by unfold fitL; rw [if_pos hc]
    obtain ⟨hri, h1, h2, h3, h4, h5⟩ := hc
    rw [show decide (right l) = true from decide_eq_true hri] at HRi
    rw [hf]
    clear hf
    have HRR := Lib.hid hri; clear hri
    go_enter Try.func6, Try.ntmps6
    go_wp2_with fail
    refine HRi.out.mono ?_; rintro e w1 ⟨rfl, b1⟩
    go_wp2_with fail
    go_loopw [13] (fun i wl => ∃ k : Nat, k ≤ l.length ∧ i = .int .i64 k ∧ fitS l size d from_ until_ = fitS (l.drop k) size d from_ until_ ∧ Below w.heap.size w wl) (fun i _ => l.length - (intOf i).toNat)
    case atStart => exact ⟨0, by omega, rfl, rfl, b1⟩
    case round =>
      obtain ⟨k, hk, rfl, hfs, hB⟩ := hrel
      have HFS := Lib.hid hfs; clear hfs
      by_cases hlt : k < l.length
      · obtain ⟨b, off, rfl, hb, hcl⟩ := hA (by omega)
        have d1 := (hB.cell (p := ⟨b, off + k * 2, none⟩) hb).trans (hcl k hlt).1
        have d2 := (hB.cell (p := ⟨b, off + k * 2 + 1, none⟩) hb).trans (hcl k hlt).2
        have hx := (HRR.out k hlt).1
        have hst := fitS_drop l size d from_ until_ k hlt
        have he : (gt l k).e = (gt l k).p + (gt l k).n := rfl
        rw [he] at hst
        unfold Sp.ok at hx
        obtain ⟨p, hp⟩ : ∃ p, (gt l k).p = p := ⟨_, rfl⟩
        obtain ⟨n, hn⟩ : ∃ n, (gt l k).n = n := ⟨_, rfl⟩
        rw [hp] at d1
        rw [hn] at d2
        rw [hp, hn] at hx hst
        clear hp hn he hA hcl
        obtain ⟨g1, g2, g3, g4⟩ := hx
        obtain ⟨r1, r2, r3, _⟩ := roundUp_spec (a := max p from_) h3
        have q0 : (0 : Int) ≤ k := by omega
        have q1 : (k : Int) < l.length := by omega
        have t3 : IntKind.i64.wrap (p + n) = p + n := IntWalk.i64_in _ (by omega)
        obtain ⟨m, hm⟩ : ∃ m, max p from_ = m := ⟨_, rfl⟩
        have hru : roundUp m d = if m % d = 0 then m else m - m % d + d := rfl
        rw [hm] at hst r1 r2 r3
        have hm0 : 0 ≤ m ∧ m ≤ 1099511627776 := by omega
        obtain ⟨a, ha⟩ : ∃ a, roundUp m d = a := ⟨_, rfl⟩
        rw [ha] at hst r1 r2 r3 hru
        have HST := Lib.hid hst; clear hst ha
        have e1 := Int.emod_nonneg m (show d ≠ 0 by omega)
        have e2 := Int.emod_lt_of_pos m (show 0 < d by omega)
        have tm : m.tmod d = m % d := Int.tmod_eq_emod_of_nonneg hm0.1
        have t4 : IntKind.i64.wrap (a + size) = a + size := IntWalk.i64_in _ (by omega)
        obtain ⟨rm, hrm⟩ : ∃ x, m % d = x := ⟨_, rfl⟩
        rw [hrm] at e1 e2 tm hru
        by_cases hle : p < from_
        · have hmf : from_ = m := by omega
          subst hmf
          by_cases hz : rm = 0
          · have hz' : (rm == 0) = true := by rw [hz]; rfl
            rw [if_pos hz] at hru
            have hma : from_ = a := hru.symm
            subst hma
            by_cases k1 : from_ + size ≤ p + n
            · by_cases k2 : from_ + size ≤ until_
              · have HR : Hid (fitS l size d from_ until_ = some from_) := by show _ = _; rw [HFS.out, HST.out, if_pos ⟨k1, k2⟩]
                go_wp2_with fail
                go_quiet (fail)
                go_wp2_with fail
                go_ret2
                exact ⟨by rw [HR.out]; rfl, ⟨hB.os, hB.tape, hB.output, hB.size, hB.block⟩⟩
              · have HR : Hid (fitS l size d from_ until_ = fitS (l.drop (k + 1)) size d from_ until_) := by show _ = _; rw [HFS.out, HST.out, if_neg (fun h => k2 h.2)]
                have k2' : decide (from_ + size ≤ until_) = false := by simp; omega
                go_wp2_with fail
                go_quiet (fail)
                go_wp2_with fail
                go_roundw
                case rel => exact ⟨k + 1, by omega, by go_num, HR.out, ⟨hB.os, hB.tape, hB.output, hB.size, hB.block⟩⟩
                case measure => simp [intOf]; omega
            · have HR : Hid (fitS l size d from_ until_ = fitS (l.drop (k + 1)) size d from_ until_) := by show _ = _; rw [HFS.out, HST.out, if_neg (fun h => k1 h.1)]
              have k1' : decide (from_ + size ≤ p + n) = false := by simp; omega
              go_wp2_with fail
              go_quiet (fail)
              go_wp2_with fail
              go_roundw
              case rel => exact ⟨k + 1, by omega, by go_num, HR.out, ⟨hB.os, hB.tape, hB.output, hB.size, hB.block⟩⟩
              case measure => simp [intOf]; omega
          · have hz' : (rm == 0) = false := by simp [hz]
            rw [if_neg hz] at hru
            subst hru
            by_cases k1 : from_ - rm + d + size ≤ p + n
            · by_cases k2 : from_ - rm + d + size ≤ until_
              · have HR : Hid (fitS l size d from_ until_ = some (from_ - rm + d)) := by show _ = _; rw [HFS.out, HST.out, if_pos ⟨k1, k2⟩]
                go_wp2_with fail
                go_quiet (fail)
                go_wp2_with fail
                go_ret2
                exact ⟨by rw [HR.out]; rfl, ⟨hB.os, hB.tape, hB.output, hB.size, hB.block⟩⟩
              · have HR : Hid (fitS l size d from_ until_ = fitS (l.drop (k + 1)) size d from_ until_) := by show _ = _; rw [HFS.out, HST.out, if_neg (fun h => k2 h.2)]
                have k2' : decide (from_ - rm + d + size ≤ until_) = false := by simp; omega
                go_wp2_with fail
                go_quiet (fail)
                go_wp2_with fail
                go_roundw
                case rel => exact ⟨k + 1, by omega, by go_num, HR.out, ⟨hB.os, hB.tape, hB.output, hB.size, hB.block⟩⟩
                case measure => simp [intOf]; omega
            · have HR : Hid (fitS l size d from_ until_ = fitS (l.drop (k + 1)) size d from_ until_) := by show _ = _; rw [HFS.out, HST.out, if_neg (fun h => k1 h.1)]
              have k1' : decide (from_ - rm + d + size ≤ p + n) = false := by simp; omega
              go_wp2_with fail
              go_quiet (fail)
              go_wp2_with fail
              go_roundw
              case rel => exact ⟨k + 1, by omega, by go_num, HR.out, ⟨hB.os, hB.tape, hB.output, hB.size, hB.block⟩⟩
              case measure => simp [intOf]; omega
        · have hmf : p = m := by omega
          subst hmf
          by_cases hz : rm = 0
          · have hz' : (rm == 0) = true := by rw [hz]; rfl
            rw [if_pos hz] at hru
            have hma : p = a := hru.symm
            subst hma
            by_cases k1 : p + size ≤ p + n
            · by_cases k2 : p + size ≤ until_
              · have HR : Hid (fitS l size d from_ until_ = some p) := by show _ = _; rw [HFS.out, HST.out, if_pos ⟨k1, k2⟩]
                go_wp2_with fail
                go_quiet (fail)
                go_wp2_with fail
                go_ret2
                exact ⟨by rw [HR.out]; rfl, ⟨hB.os, hB.tape, hB.output, hB.size, hB.block⟩⟩
              · have HR : Hid (fitS l size d from_ until_ = fitS (l.drop (k + 1)) size d from_ until_) := by show _ = _; rw [HFS.out, HST.out, if_neg (fun h => k2 h.2)]
                have k2' : decide (p + size ≤ until_) = false := by simp; omega
                go_wp2_with fail
                go_quiet (fail)
                go_wp2_with fail
                go_roundw
                case rel => exact ⟨k + 1, by omega, by go_num, HR.out, ⟨hB.os, hB.tape, hB.output, hB.size, hB.block⟩⟩
                case measure => simp [intOf]; omega
            · have HR : Hid (fitS l size d from_ until_ = fitS (l.drop (k + 1)) size d from_ until_) := by show _ = _; rw [HFS.out, HST.out, if_neg (fun h => k1 h.1)]
              have k1' : decide (p + size ≤ p + n) = false := by simp; omega
              have k3 : decide (size ≤ n) = false := by simp; omega
              have k4 : n < size := by omega
              go_wp2_with fail
              go_quiet (fail)
              go_wp2_with fail
              go_roundw
              case rel => exact ⟨k + 1, by omega, by go_num, HR.out, ⟨hB.os, hB.tape, hB.output, hB.size, hB.block⟩⟩
              case measure => simp [intOf]; omega
          · have hz' : (rm == 0) = false := by simp [hz]
            rw [if_neg hz] at hru
            subst hru
            by_cases k1 : p - rm + d + size ≤ p + n
            · by_cases k2 : p - rm + d + size ≤ until_
              · have HR : Hid (fitS l size d from_ until_ = some (p - rm + d)) := by show _ = _; rw [HFS.out, HST.out, if_pos ⟨k1, k2⟩]
                go_wp2_with fail
                go_quiet (fail)
                go_wp2_with fail
                go_ret2
                exact ⟨by rw [HR.out]; rfl, ⟨hB.os, hB.tape, hB.output, hB.size, hB.block⟩⟩
              · have HR : Hid (fitS l size d from_ until_ = fitS (l.drop (k + 1)) size d from_ until_) := by show _ = _; rw [HFS.out, HST.out, if_neg (fun h => k2 h.2)]
                have k2' : decide (p - rm + d + size ≤ until_) = false := by simp; omega
                go_wp2_with fail
                go_quiet (fail)
                go_wp2_with fail
                go_roundw
                case rel => exact ⟨k + 1, by omega, by go_num, HR.out, ⟨hB.os, hB.tape, hB.output, hB.size, hB.block⟩⟩
                case measure => simp [intOf]; omega
            · have HR : Hid (fitS l size d from_ until_ = fitS (l.drop (k + 1)) size d from_ until_) := by show _ = _; rw [HFS.out, HST.out, if_neg (fun h => k1 h.1)]
              have k1' : decide (p - rm + d + size ≤ p + n) = false := by simp; omega
              go_wp2_with fail
              go_quiet (fail)
              go_wp2_with fail
              go_roundw
              case rel => exact ⟨k + 1, by omega, by go_num, HR.out, ⟨hB.os, hB.tape, hB.output, hB.size, hB.block⟩⟩
              case measure => simp [intOf]; omega
      · have HN : Hid (fitS l size d from_ until_ = none) := by
          show _ = _
          rw [HFS.out, List.drop_of_length_le (by omega)]; rfl
        obtain rfl : k = l.length := by omega
        go_wp2_with fail
        go_ret2
        exact ⟨by rw [HN.out]; rfl, hB⟩
  · have hf : fitL l size d from_ until_ = none := by unfold fitL; rw [if_neg hc]
    rw [hf]
    clear hf hA
    by_cases hri : right l
    · rw [show decide (right l) = true from decide_eq_true hri] at HRi
      by_cases h1 : 1 ≤ size
      · by_cases h2 : size ≤ 1099511627776
        · by_cases h3 : 1 ≤ d
          · by_cases h4 : d ≤ 1099511627776
            · by_cases h5 : from_ ≤ 1099511627776
              · exact absurd ⟨hri, h1, h2, h3, h4, h5⟩ hc
              · clear hc
                go_enter Try.func6, Try.ntmps6
                go_wp2_with fail
                refine HRi.out.mono ?_; rintro e w1 ⟨rfl, b1⟩
                go_wp2_with fail
                go_ret2
                exact ⟨rfl, b1⟩
            · clear hc
              go_enter Try.func6, Try.ntmps6
              go_wp2_with fail
              refine HRi.out.mono ?_; rintro e w1 ⟨rfl, b1⟩
              go_wp2_with fail
              go_ret2
              exact ⟨rfl, b1⟩
          · clear hc
            go_enter Try.func6, Try.ntmps6
            go_wp2_with fail
            refine HRi.out.mono ?_; rintro e w1 ⟨rfl, b1⟩
            go_wp2_with fail
            go_ret2
            exact ⟨rfl, b1⟩
        · clear hc
          go_enter Try.func6, Try.ntmps6
          go_wp2_with fail
          refine HRi.out.mono ?_; rintro e w1 ⟨rfl, b1⟩
          go_wp2_with fail
          go_ret2
          exact ⟨rfl, b1⟩
      · clear hc
        go_enter Try.func6, Try.ntmps6
        go_wp2_with fail
        refine HRi.out.mono ?_; rintro e w1 ⟨rfl, b1⟩
        go_wp2_with fail
        go_ret2
        exact ⟨rfl, b1⟩
    · rw [show decide (right l) = false from decide_eq_false hri] at HRi
      clear hc
      go_enter Try.func6, Try.ntmps6
      go_wp2_with fail
      refine HRi.out.mono ?_; rintro e w1 ⟨rfl, b1⟩
      go_wp2_with fail
      go_ret2
      exact ⟨rfl, b1⟩
end Go.Proofs.Ytfeiapkifoakoaa
