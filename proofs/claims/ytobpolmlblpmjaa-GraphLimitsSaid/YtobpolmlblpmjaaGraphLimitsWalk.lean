/-
  The walk of GraphLimits.
-/
import Derived.Test.YtobpolmlblpmjaaSmall
import Derived.Test.YtobpolmlblpmjaaWayP
import Derived.Test.YtobpolmlblpmjaaReachP
namespace Go.Proofs.Ytobpolmlblpmjaa.graphLimits
open Go.Proofs.Ytobpolmlblpmjaa
set_option linter.unusedVariables false
set_option linter.unusedSimpArgs false
open Go.RowKit

def rB (n : Int) (l : List Sp) (k : Nat) : Bool := decide (0 ≤ n) && decide (n ≤ 262144) && !((l.take k).any (badB n))
theorem rB_all (n : Int) (l : List Sp) : rB n l l.length = rightB n l := by unfold rB rightB; rw [List.take_length]
theorem rB_snoc {n : Int} {l : List Sp} {k : Nat} (h : k < l.length) : rB n l (k + 1) = (rB n l k && !(badB n (gt l k))) := by
  unfold rB
  rw [List.take_succ_eq_append_getElem h, List.any_append, gt_get l k h, Bool.not_or, Bool.and_assoc, Bool.and_assoc, Bool.and_assoc]
  simp
def bad4 (n x y : Int) : Bool := decide (0 ≤ x) && decide (x < n) && decide (0 ≤ y) && decide (y < n)
theorem bad4_eq (n : Int) (s : Sp) : (!(badB n s)) = bad4 n s.p s.n := by
  unfold badB bad4 nodeB
  rw [Bool.not_or, Bool.not_not, Bool.not_not]
  simp [Bool.and_assoc]
def LimRel (n : Int) (l : List Sp) (b i : Value) : Prop := ∃ k : Nat, i = .int .i64 k ∧ k ≤ l.length ∧ b = .bool (rB n l k)
set_option maxRecDepth 100000 in
set_option maxHeartbeats 8000000 in
theorem walk (w : World) (n : Int) (v : Value) (A : Option Addr) (m c : Nat) (rv : Value) (A2 : Option Addr) (m2 c2 : Nat) (wn : (Lit.int .i64 n).wf = true) (hv : v = .slice A m c ∧ (m ≤ 1000000 → ∃ l : List Sp, l.length = m ∧ SRow w w.heap.size v l)) (hrv : rv = .slice A2 m2 c2 ∧ (m2 ≤ 1000000 → ∃ l : List Int, l.length = m2 ∧ IRow w w.heap.size rv l ∧ ∀ z ∈ l, -9223372036854775808 ≤ z ∧ z ≤ 9223372036854775807)) :
    Calls Try.prog 4 #[.int .i64 n, v, rv] w fun e w' => e = .returned (.bool true) ∧ Below w.heap.size w w' := by
  obtain ⟨rfl, hl⟩ := hv
  obtain ⟨rfl, hl2⟩ := hrv
  have HSM := Lib.hid (smallP w)
  by_cases hm : m ≤ 60
  · by_cases hm2 : m2 ≤ 20
    · obtain ⟨l, rfl, hr⟩ := hl (by omega)
      have hr0 := hr
      obtain ⟨_, _, SA, scap, hsv, hrd⟩ := hr0
      injection hsv with e1 _ e3
      subst e1; subst e3
      have HR := Lib.hid hr
      have HRD := Lib.hid hrd
      have d1 : decide ((60 : Int) < l.length) = false := by simp; omega
      have d1n : decide (60 < l.length) = false := by simp; omega
      have d2 : decide ((20 : Int) < m2) = false := by simp; omega
      have d2n : decide (20 < m2) = false := by simp; omega
      have HB0 : Hid (rB n l 0 = (decide (0 ≤ n) && decide (n ≤ 262144))) := Lib.hid (by unfold rB; simp)
      have HRA : Hid (rB n l l.length = rightB n l) := Lib.hid (rB_all n l)
      have HRS : Hid (∀ k, k < l.length → rB n l (k + 1) = (rB n l k && bad4 n (gt l k).p (gt l k).n)) := Lib.hid (fun k hk => by rw [rB_snoc hk, bad4_eq])
      clear hl hl2 hr hrd
      have cs : (0 ≤ n ∧ n ≤ 262144 ∧ rB n l 0 = true) ∨ ((0 ≤ n ∧ ¬ n ≤ 262144) ∧ rB n l 0 = false) ∨ (¬ 0 ≤ n ∧ rB n l 0 = false) := by
        rw [HB0.out]
        by_cases h1 : 0 ≤ n
        · by_cases h2 : n ≤ 262144
          · exact .inl ⟨h1, h2, by simp [h1, h2]⟩
          · exact .inr (.inl ⟨⟨h1, h2⟩, by simp [h2]⟩)
        · exact .inr (.inr ⟨h1, by simp [h1]⟩)
      clear HB0
      rcases cs with ⟨h1, h2, h3⟩ | ⟨⟨h1, h2⟩, h3⟩ | ⟨h1, h3⟩
      · have q1 : decide (0 ≤ n) = true := by simpa using h1
        have q2 : decide (n ≤ 262144) = true := by simpa using h2
        have HB0 := Lib.hid h3
        clear h3
        go_enter Try.func4, Try.ntmps4
        go_wp2_with fail
        refine HSM.out.mono ?_; rintro e w1 ⟨rfl, hb⟩
        have HBW := Lib.hid hb
        clear hb HSM
        go_wp2_with fail
        go_loop [8, 9] (fun b i => LimRel n l b i) (fun _ i => l.length - (intOf i).toNat)
        case atStart => exact ⟨0, rfl, by omega, by rw [HB0.out]⟩
        case round =>
          obtain ⟨k, rfl, hk, rfl⟩ := hrel
          by_cases hlt : k < l.length
          · have hst := HRS.out k hlt
            obtain ⟨b, off, rfl, hb1, hc⟩ := HRD.out (by omega)
            have c1 := (HBW.out.cell (p := ⟨b, off + k * 2, none⟩) hb1).trans (hc k hlt).1
            have c2 := (HBW.out.cell (p := ⟨b, off + k * 2 + 1, none⟩) hb1).trans (hc k hlt).2
            obtain ⟨x, hx⟩ : ∃ x, (gt l k).p = x := ⟨_, rfl⟩
            obtain ⟨y, hy⟩ : ∃ y, (gt l k).n = y := ⟨_, rfl⟩
            rw [hx] at c1 hst
            rw [hy] at c2 hst
            clear hx hy hc
            cases hbk : rB n l k with
            | false =>
              have HN : Hid (rB n l (k + 1) = false) := Lib.hid (by rw [hst, hbk]; rfl)
              clear hst hbk
              go_wp2_with fail
              go_round
              case rel => exact ⟨k + 1, by go_num, by omega, by rw [HN.out]⟩
              case measure => simp [intOf]; omega
            | true =>
              rw [hbk, Bool.true_and] at hst
              clear hbk
              unfold bad4 at hst
              by_cases p1 : 0 ≤ x
              · have e1 : decide (0 ≤ x) = true := by simpa using p1
                rw [e1, Bool.true_and] at hst
                by_cases p2 : x < n
                · have e2 : decide (x < n) = true := by simpa using p2
                  rw [e2, Bool.true_and] at hst
                  by_cases p3 : 0 ≤ y
                  · have e3 : decide (0 ≤ y) = true := by simpa using p3
                    rw [e3, Bool.true_and] at hst
                    have HN := Lib.hid hst
                    clear hst
                    go_wp2_with fail
                    go_round
                    case rel => exact ⟨k + 1, by go_num, by omega, by rw [HN.out]⟩
                    case measure => simp [intOf]; omega
                  · have e3 : decide (0 ≤ y) = false := by simpa using p3
                    rw [e3, Bool.false_and] at hst
                    have HN := Lib.hid hst
                    clear hst
                    go_wp2_with fail
                    go_round
                    case rel => exact ⟨k + 1, by go_num, by omega, by rw [HN.out]⟩
                    case measure => simp [intOf]; omega
                · have e2 : decide (x < n) = false := by simpa using p2
                  rw [e2, Bool.false_and, Bool.false_and] at hst
                  have HN := Lib.hid hst
                  clear hst
                  go_wp2_with fail
                  go_round
                  case rel => exact ⟨k + 1, by go_num, by omega, by rw [HN.out]⟩
                  case measure => simp [intOf]; omega
              · have e1 : decide (0 ≤ x) = false := by simpa using p1
                rw [e1, Bool.false_and, Bool.false_and, Bool.false_and] at hst
                have HN := Lib.hid hst
                clear hst
                go_wp2_with fail
                go_round
                case rel => exact ⟨k + 1, by go_num, by omega, by rw [HN.out]⟩
                case measure => simp [intOf]; omega
          · obtain rfl : k = l.length := by omega
            rw [HRA.out]
            have HRP := rightP n _ l w1 (HR.out.keep HBW.out)
            cases hri : rightB n l with
            | true =>
              rw [hri] at HRP
              replace HRP := Lib.hid HRP
              clear hri
              go_wp2_with fail
              refine HRP.out.mono ?_; rintro e w2 ⟨rfl, hb⟩
              have HF := Lib.hid (HBW.out.trans (hb.mono HBW.out.size))
              clear hb HRP
              go_wp2_with fail
              go_ret
              exact ⟨rfl, HF.out⟩
            | false =>
              rw [hri] at HRP
              replace HRP := Lib.hid HRP
              have HRI := Lib.hid hri
              clear hri
              go_wp2_with fail
              refine HRP.out.mono ?_; rintro e w2 ⟨rfl, hb⟩
              have HB2 := Lib.hid (HBW.out.trans (hb.mono HBW.out.size))
              have H2 := Lib.hid (parts_bad n _ l w2 HRI.out (HR.out.keep HB2.out))
              clear hb HRP
              go_wp2_with fail
              refine H2.out.mono ?_; rintro e w3 ⟨rfl, hb⟩
              have HB3 := Lib.hid (HB2.out.trans (hb.mono HB2.out.size))
              have H3 := Lib.hid (reach_bad n _ (.slice A2 m2 c2) l w3 HRI.out (HR.out.keep HB3.out))
              clear hb H2 HB2
              go_wp2_with fail
              refine H3.out.mono ?_; rintro e w4 ⟨rfl, hb⟩
              have HB4 := Lib.hid (HB3.out.trans (hb.mono HB3.out.size))
              have H4 := Lib.hid (way_bad n 0 _ (.slice A2 m2 c2) l w4 (.inl HRI.out) (HR.out.keep HB4.out))
              clear hb H3 HB3
              go_wp2_with fail
              refine H4.out.mono ?_; rintro e w5 ⟨rfl, hb⟩
              have HB5 := Lib.hid (HB4.out.trans (hb.mono HB4.out.size))
              have H5 := Lib.hid (loop_bad n _ l w5 HRI.out (HR.out.keep HB5.out))
              clear hb H4 HB4
              go_wp2_with fail
              refine H5.out.mono ?_; rintro e w6 ⟨rfl, hb⟩
              have HF := Lib.hid (HB5.out.trans (hb.mono HB5.out.size))
              clear hb H5 HB5
              go_wp2_with fail
              go_ret
              exact ⟨rfl, HF.out⟩
      · have q1 : decide (0 ≤ n) = true := by simpa using h1
        have q2 : decide (n ≤ 262144) = false := by simpa using h2
        have HB0 := Lib.hid h3
        clear h3
        go_enter Try.func4, Try.ntmps4
        go_wp2_with fail
        refine HSM.out.mono ?_; rintro e w1 ⟨rfl, hb⟩
        have HBW := Lib.hid hb
        clear hb HSM
        go_wp2_with fail
        go_loop [8, 9] (fun b i => LimRel n l b i) (fun _ i => l.length - (intOf i).toNat)
        case atStart => exact ⟨0, rfl, by omega, by rw [HB0.out]⟩
        case round =>
          obtain ⟨k, rfl, hk, rfl⟩ := hrel
          by_cases hlt : k < l.length
          · have hst := HRS.out k hlt
            obtain ⟨b, off, rfl, hb1, hc⟩ := HRD.out (by omega)
            have c1 := (HBW.out.cell (p := ⟨b, off + k * 2, none⟩) hb1).trans (hc k hlt).1
            have c2 := (HBW.out.cell (p := ⟨b, off + k * 2 + 1, none⟩) hb1).trans (hc k hlt).2
            obtain ⟨x, hx⟩ : ∃ x, (gt l k).p = x := ⟨_, rfl⟩
            obtain ⟨y, hy⟩ : ∃ y, (gt l k).n = y := ⟨_, rfl⟩
            rw [hx] at c1 hst
            rw [hy] at c2 hst
            clear hx hy hc
            cases hbk : rB n l k with
            | false =>
              have HN : Hid (rB n l (k + 1) = false) := Lib.hid (by rw [hst, hbk]; rfl)
              clear hst hbk
              go_wp2_with fail
              go_round
              case rel => exact ⟨k + 1, by go_num, by omega, by rw [HN.out]⟩
              case measure => simp [intOf]; omega
            | true =>
              exfalso
              unfold rB at hbk
              simp only [Bool.and_eq_true, decide_eq_true_iff] at hbk
              omega
          · obtain rfl : k = l.length := by omega
            rw [HRA.out]
            have HRP := rightP n _ l w1 (HR.out.keep HBW.out)
            cases hri : rightB n l with
            | true =>
              rw [hri] at HRP
              replace HRP := Lib.hid HRP
              clear hri
              go_wp2_with fail
              refine HRP.out.mono ?_; rintro e w2 ⟨rfl, hb⟩
              have HF := Lib.hid (HBW.out.trans (hb.mono HBW.out.size))
              clear hb HRP
              go_wp2_with fail
              go_ret
              exact ⟨rfl, HF.out⟩
            | false =>
              rw [hri] at HRP
              replace HRP := Lib.hid HRP
              have HRI := Lib.hid hri
              clear hri
              go_wp2_with fail
              refine HRP.out.mono ?_; rintro e w2 ⟨rfl, hb⟩
              have HB2 := Lib.hid (HBW.out.trans (hb.mono HBW.out.size))
              have H2 := Lib.hid (parts_bad n _ l w2 HRI.out (HR.out.keep HB2.out))
              clear hb HRP
              go_wp2_with fail
              refine H2.out.mono ?_; rintro e w3 ⟨rfl, hb⟩
              have HB3 := Lib.hid (HB2.out.trans (hb.mono HB2.out.size))
              have H3 := Lib.hid (reach_bad n _ (.slice A2 m2 c2) l w3 HRI.out (HR.out.keep HB3.out))
              clear hb H2 HB2
              go_wp2_with fail
              refine H3.out.mono ?_; rintro e w4 ⟨rfl, hb⟩
              have HB4 := Lib.hid (HB3.out.trans (hb.mono HB3.out.size))
              have H4 := Lib.hid (way_bad n 0 _ (.slice A2 m2 c2) l w4 (.inl HRI.out) (HR.out.keep HB4.out))
              clear hb H3 HB3
              go_wp2_with fail
              refine H4.out.mono ?_; rintro e w5 ⟨rfl, hb⟩
              have HB5 := Lib.hid (HB4.out.trans (hb.mono HB4.out.size))
              have H5 := Lib.hid (loop_bad n _ l w5 HRI.out (HR.out.keep HB5.out))
              clear hb H4 HB4
              go_wp2_with fail
              refine H5.out.mono ?_; rintro e w6 ⟨rfl, hb⟩
              have HF := Lib.hid (HB5.out.trans (hb.mono HB5.out.size))
              clear hb H5 HB5
              go_wp2_with fail
              go_ret
              exact ⟨rfl, HF.out⟩
      · have q1 : decide (0 ≤ n) = false := by simpa using h1
        have HB0 := Lib.hid h3
        clear h3
        go_enter Try.func4, Try.ntmps4
        go_wp2_with fail
        refine HSM.out.mono ?_; rintro e w1 ⟨rfl, hb⟩
        have HBW := Lib.hid hb
        clear hb HSM
        go_wp2_with fail
        go_loop [8, 9] (fun b i => LimRel n l b i) (fun _ i => l.length - (intOf i).toNat)
        case atStart => exact ⟨0, rfl, by omega, by rw [HB0.out]⟩
        case round =>
          obtain ⟨k, rfl, hk, rfl⟩ := hrel
          by_cases hlt : k < l.length
          · have hst := HRS.out k hlt
            obtain ⟨b, off, rfl, hb1, hc⟩ := HRD.out (by omega)
            have c1 := (HBW.out.cell (p := ⟨b, off + k * 2, none⟩) hb1).trans (hc k hlt).1
            have c2 := (HBW.out.cell (p := ⟨b, off + k * 2 + 1, none⟩) hb1).trans (hc k hlt).2
            obtain ⟨x, hx⟩ : ∃ x, (gt l k).p = x := ⟨_, rfl⟩
            obtain ⟨y, hy⟩ : ∃ y, (gt l k).n = y := ⟨_, rfl⟩
            rw [hx] at c1 hst
            rw [hy] at c2 hst
            clear hx hy hc
            cases hbk : rB n l k with
            | false =>
              have HN : Hid (rB n l (k + 1) = false) := Lib.hid (by rw [hst, hbk]; rfl)
              clear hst hbk
              go_wp2_with fail
              go_round
              case rel => exact ⟨k + 1, by go_num, by omega, by rw [HN.out]⟩
              case measure => simp [intOf]; omega
            | true =>
              exfalso
              unfold rB at hbk
              simp only [Bool.and_eq_true, decide_eq_true_iff] at hbk
              omega
          · obtain rfl : k = l.length := by omega
            rw [HRA.out]
            have HRP := rightP n _ l w1 (HR.out.keep HBW.out)
            cases hri : rightB n l with
            | true =>
              rw [hri] at HRP
              replace HRP := Lib.hid HRP
              clear hri
              go_wp2_with fail
              refine HRP.out.mono ?_; rintro e w2 ⟨rfl, hb⟩
              have HF := Lib.hid (HBW.out.trans (hb.mono HBW.out.size))
              clear hb HRP
              go_wp2_with fail
              go_ret
              exact ⟨rfl, HF.out⟩
            | false =>
              rw [hri] at HRP
              replace HRP := Lib.hid HRP
              have HRI := Lib.hid hri
              clear hri
              go_wp2_with fail
              refine HRP.out.mono ?_; rintro e w2 ⟨rfl, hb⟩
              have HB2 := Lib.hid (HBW.out.trans (hb.mono HBW.out.size))
              have H2 := Lib.hid (parts_bad n _ l w2 HRI.out (HR.out.keep HB2.out))
              clear hb HRP
              go_wp2_with fail
              refine H2.out.mono ?_; rintro e w3 ⟨rfl, hb⟩
              have HB3 := Lib.hid (HB2.out.trans (hb.mono HB2.out.size))
              have H3 := Lib.hid (reach_bad n _ (.slice A2 m2 c2) l w3 HRI.out (HR.out.keep HB3.out))
              clear hb H2 HB2
              go_wp2_with fail
              refine H3.out.mono ?_; rintro e w4 ⟨rfl, hb⟩
              have HB4 := Lib.hid (HB3.out.trans (hb.mono HB3.out.size))
              have H4 := Lib.hid (way_bad n 0 _ (.slice A2 m2 c2) l w4 (.inl HRI.out) (HR.out.keep HB4.out))
              clear hb H3 HB3
              go_wp2_with fail
              refine H4.out.mono ?_; rintro e w5 ⟨rfl, hb⟩
              have HB5 := Lib.hid (HB4.out.trans (hb.mono HB4.out.size))
              have H5 := Lib.hid (loop_bad n _ l w5 HRI.out (HR.out.keep HB5.out))
              clear hb H4 HB4
              go_wp2_with fail
              refine H5.out.mono ?_; rintro e w6 ⟨rfl, hb⟩
              have HF := Lib.hid (HB5.out.trans (hb.mono HB5.out.size))
              clear hb H5 HB5
              go_wp2_with fail
              go_ret
              exact ⟨rfl, HF.out⟩
    · have d1 : decide ((60 : Int) < m) = false := by simp; omega
      have d1n : decide (60 < m) = false := by simp; omega
      have d2 : (20 : Int) < m2 := by omega
      clear hl hl2
      go_enter Try.func4, Try.ntmps4
      go_wp2_with fail
      refine HSM.out.mono ?_; rintro e w1 ⟨rfl, hb⟩
      go_wp2_with fail
      go_ret
      exact ⟨rfl, hb⟩
  · have d1 : (60 : Int) < m := by omega
    clear hl hl2
    go_enter Try.func4, Try.ntmps4
    go_wp2_with fail
    refine HSM.out.mono ?_; rintro e w1 ⟨rfl, hb⟩
    go_wp2_with fail
    go_ret
    exact ⟨rfl, hb⟩
end Go.Proofs.Ytobpolmlblpmjaa.graphLimits
