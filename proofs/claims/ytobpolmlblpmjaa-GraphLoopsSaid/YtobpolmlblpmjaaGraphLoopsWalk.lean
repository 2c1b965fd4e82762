/-
  The walk of GraphLoops.
-/
import Derived.Test.YtobpolmlblpmjaaLoopsM
namespace Go.Proofs.Ytobpolmlblpmjaa.graphLoops
open Go.Proofs.Ytobpolmlblpmjaa
set_option linter.unusedVariables false
set_option linter.unusedSimpArgs false
open Go.RowKit

def QRel (w : World) (b : Nat) (i : Value) (wl : World) : Prop := ∃ k : Nat, i = .int .i64 k ∧ k ≤ b ∧ ∃ q, wl = w.drewN q
def CRel (l : List Sp) (n : Nat) (P : List (List Nat)) (s i : Value) : Prop := ∃ k : Nat, i = .int .i64 k ∧ k ≤ P.length ∧ s = .int .i64 (lstC n (FL l (P.take k)) : Nat)
def CRel1 (l : List Sp) (n : Nat) (p : List Nat) (Y : List (Nat × Bool)) (s i : Value) : Prop := ∃ j : Nat, i = .int .i64 j ∧ j ≤ p.length ∧ s = .int .i64 (lstC n (Y ++ (p.take j).map (flag l p)) : Nat)
theorem stepC_flag (a : Nat) (l : List Sp) (p : List Nat) (x : Nat) : stepC a (flag l p x) = if (decide (1 < p.length) || arcB l x x) = true ∧ x < a then x else a := rfl
set_option maxRecDepth 100000 in
set_option maxHeartbeats 8000000 in
theorem walk (w : World) (n : Int) (v : Value) (A : Option Addr) (m c : Nat) (wn : (Lit.int .i64 n).wf = true) (hv : v = .slice A m c ∧ (m ≤ 1000000 → ∃ l : List Sp, l.length = m ∧ SRow w w.heap.size v l)) :
    Calls Try.prog 8 #[.int .i64 n, v] w fun e w' => e = .returned (.bool true) ∧ Below w.heap.size w w' := by
  obtain ⟨rfl, hl⟩ := hv
  have HSM := Lib.hid (smallP w)
  have HFW := Lib.hid (fun w => fewP n A none m 0 c 0 w)
  cases hfw : fewB n m 0 with
  | false =>
    rw [hfw] at HFW
    clear hl hfw
    go_enter Try.func8, Try.ntmps8
    go_wp2_with fail
    refine HSM.out.mono ?_; rintro e w1 ⟨rfl, hb⟩
    have HB := Lib.hid hb
    clear hb
    go_wp2_with fail
    refine (HFW.out _).mono ?_; rintro e w2 ⟨rfl, rfl⟩
    go_wp2_with fail
    go_ret
    exact ⟨rfl, HB.out⟩
  | true =>
    rw [hfw] at HFW
    obtain ⟨hn14, hm60, hm20⟩ := fewB_iff.1 hfw
    obtain ⟨l, rfl, hr⟩ := hl (by omega)
    clear hl hfw
    cases hri : rightB n l with
    | false =>
      have HRP : Hid (∀ w1, Below w.heap.size w w1 → Calls Try.prog 12 #[.int .i64 n, .slice A l.length c] w1 fun e w' => e = .returned (.bool false) ∧ Below w1.heap.size w1 w') := Lib.hid (fun w1 hb => by rw [← hri]; exact rightP n _ l w1 (hr.keep hb))
      clear hri
      go_enter Try.func8, Try.ntmps8
      go_wp2_with fail
      refine HSM.out.mono ?_; rintro e w1 ⟨rfl, hb⟩
      have HB := Lib.hid hb
      clear hb
      go_wp2_with fail
      refine (HFW.out _).mono ?_; rintro e w2 ⟨rfl, rfl⟩
      go_wp2_with fail
      refine (HRP.out _ HB.out).mono ?_; rintro e w3 ⟨rfl, hb⟩
      have HB3 := Lib.hid (HB.out.trans (hb.mono HB.out.size))
      clear hb
      go_wp2_with fail
      go_ret
      exact ⟨rfl, HB3.out⟩
    | true =>
      obtain ⟨N, rfl⟩ := right_nat hri
      have HRI : Hid (rightB (N : Int) l = true) := hri
      have HRP : Hid (∀ w1, Below w.heap.size w w1 → Calls Try.prog 12 #[.int .i64 N, .slice A l.length c] w1 fun e w' => e = .returned (.bool true) ∧ Below w1.heap.size w1 w') := Lib.hid (fun w1 hb => by rw [← hri]; exact rightP N _ l w1 (hr.keep hb))
      have HR := Lib.hid hr
      have HLC := Lib.hid (lstC_ok (n := N) hri)
      have hN14 : N ≤ 14 := by omega
      have hpl : (partsOf (toA l) N).length ≤ N := partsGo_len _ _ _ _
      clear hri hn14 hr
      go_enter Try.func8, Try.ntmps8
      go_wp2_with fail
      refine HSM.out.mono ?_; rintro e w1 ⟨rfl, hb⟩
      have HB := Lib.hid hb
      clear hb HSM
      go_wp2_with fail
      refine (HFW.out _).mono ?_; rintro e w2 ⟨rfl, rfl⟩
      go_wp2_with fail
      refine (HRP.out _ HB.out).mono ?_; rintro e w3 ⟨rfl, hb⟩
      have HB3 := Lib.hid (HB.out.trans (hb.mono HB.out.size))
      have HPA := Lib.hid (parts_ok N _ l w3 HRI.out (by omega) (by omega) (HR.out.keep HB3.out))
      clear hb HB HRP HFW
      go_wp2_with fail
      refine HPA.out.mono ?_; rintro e w4 ⟨u, rfl, hown, hb⟩
      obtain ⟨P, hP⟩ : ∃ P, partsOf (toA l) N = P := ⟨_, rfl⟩
      rw [hP] at hown hpl HLC
      obtain ⟨PA, pcap, rfl, hprd⟩ := (hown.lrow (by rw [List.length_map]; omega)).rd (rfl : P.length = P.length)
      have hPmem : ∀ k, k < P.length → (P.getD k []).length ≤ N := fun k hk => by
        have hPok := partsOf_ok (toA l) N
        rw [hP] at hPok
        obtain ⟨v, hv, he⟩ := hPok.each (P[k]) (List.getElem_mem hk)
        rw [List.getD_eq_getElem?_getD, List.getElem?_eq_getElem hk]
        show P[k].length ≤ N
        rw [he]
        have := List.length_filter_le (fun w => eqvB (toA l) v w) (List.range N)
        rw [List.length_range] at this; exact this
      have HPM := Lib.hid hPmem
      have HPR := Lib.hid hprd
      have HB4 := Lib.hid (HB3.out.trans (hb.mono HB3.out.size))
      clear hb hown hprd HPA hP hPmem
      go_wp2_with fail
      go_loop [7, 8] (fun s i => CRel l N P s i) (fun _ i => P.length - (intOf i).toNat)
      case atStart => exact ⟨0, rfl, by omega, rfl⟩
      case round =>
        obtain ⟨k, rfl, hk, rfl⟩ := hrel
        by_cases hlt : k < P.length
        · obtain ⟨b, off, u, A2, cap2, rfl, hb1, c1, rfl, hin⟩ := HPR.out k hlt
          have hFN := FL_next l P k hlt
          have hpk : P[k] = P.getD k [] := by rw [List.getD_eq_getElem?_getD, List.getElem?_eq_getElem hlt]; rfl
          rw [hpk] at hFN
          have hpN := HPM.out k hlt
          obtain ⟨p, hp⟩ : ∃ p, P.getD k [] = p := ⟨_, rfl⟩
          rw [hp] at hFN c1 hin hpN
          obtain ⟨Y, hY⟩ : ∃ Y, FL l (P.take k) = Y := ⟨_, rfl⟩
          rw [hY] at hFN ⊢
          have HFN := Lib.hid hFN
          have HIN := Lib.hid hin
          clear hpk hp hY hFN hin
          go_wp2_with fail
          go_loop [7, 9] (fun s i => CRel1 l N p Y s i) (fun _ i => p.length - (intOf i).toNat)
          case atStart => exact ⟨0, rfl, by omega, by simp⟩
          case round =>
            obtain ⟨j, rfl, hj, rfl⟩ := hrel
            by_cases hjl : j < p.length
            · obtain ⟨b2, off2, rfl, hb2, hcs⟩ := HIN.out (by omega)
              have c2 := hcs j hjl
              have hst := FL_step l p Y j hjl
              have hcl := (lstC_le (Y ++ (p.take j).map (flag l p)) N).1
              have hsn := lstC_snoc N (Y ++ (p.take j).map (flag l p)) (flag l p p[j])
              rw [← hst] at hsn
              obtain ⟨x, hx⟩ : ∃ x, p[j] = x := ⟨_, rfl⟩
              rw [hx] at c2 hsn
              obtain ⟨a, ha⟩ : ∃ a, lstC N (Y ++ (p.take j).map (flag l p)) = a := ⟨_, rfl⟩
              rw [ha] at hsn hcl ⊢
              rw [stepC_flag] at hsn
              have HAC := arcP l (x : Int) (x : Int) (.slice A l.length c) w4 w4.heap.size (HR.out.keep HB4.out)
              clear hcs hst hx ha
              by_cases hp1 : 1 < p.length
              · have hp1i : (1 : Int) < p.length := by omega
                rw [decide_eq_true hp1, Bool.true_or] at hsn
                by_cases hxa : x < a
                · have hxai : (x : Int) < a := by omega
                  rw [if_pos ⟨rfl, hxa⟩] at hsn
                  have HN := Lib.hid hsn
                  clear hsn HAC
                  go_wp2_with fail
                  go_round
                  case rel => exact ⟨j + 1, by go_num, by omega, by rw [HN.out]⟩
                  case measure => simp [intOf]; omega
                · have hxai : decide ((x : Int) < a) = false := by rw [decide_eq_false_iff_not]; omega
                  have hxan : decide (x < a) = false := by rw [decide_eq_false_iff_not]; omega
                  rw [if_neg (fun h => hxa h.2)] at hsn
                  have HN := Lib.hid hsn
                  clear hsn HAC
                  go_wp2_with fail
                  go_round
                  case rel => exact ⟨j + 1, by go_num, by omega, by rw [HN.out]⟩
                  case measure => simp [intOf]; omega
              · have hp1i : decide ((1 : Int) < p.length) = false := by rw [decide_eq_false_iff_not]; omega
                have hp1n : decide (1 < p.length) = false := by rw [decide_eq_false_iff_not]; omega
                rw [hp1n, Bool.false_or] at hsn
                cases hab : arcB l x x with
                | false =>
                  rw [hab] at HAC hsn
                  rw [if_neg (fun h => by cases h.1)] at hsn
                  have HN := Lib.hid hsn
                  replace HAC := Lib.hid HAC
                  clear hsn hab
                  go_wp2_with fail
                  refine HAC.out.mono ?_; rintro e w5 ⟨rfl, rfl⟩
                  go_wp2_with fail
                  go_round
                  case rel => exact ⟨j + 1, by go_num, by omega, by rw [HN.out]⟩
                  case measure => simp [intOf]; omega
                | true =>
                  rw [hab] at HAC hsn
                  replace HAC := Lib.hid HAC
                  clear hab
                  by_cases hxa : x < a
                  · have hxai : (x : Int) < a := by omega
                    rw [if_pos ⟨rfl, hxa⟩] at hsn
                    have HN := Lib.hid hsn
                    clear hsn
                    go_wp2_with fail
                    refine HAC.out.mono ?_; rintro e w5 ⟨rfl, rfl⟩
                    go_wp2_with fail
                    go_round
                    case rel => exact ⟨j + 1, by go_num, by omega, by rw [HN.out]⟩
                    case measure => simp [intOf]; omega
                  · have hxai : decide ((x : Int) < a) = false := by rw [decide_eq_false_iff_not]; omega
                    have hxan : decide (x < a) = false := by rw [decide_eq_false_iff_not]; omega
                    rw [if_neg (fun h => hxa h.2)] at hsn
                    have HN := Lib.hid hsn
                    clear hsn
                    go_wp2_with fail
                    refine HAC.out.mono ?_; rintro e w5 ⟨rfl, rfl⟩
                    go_wp2_with fail
                    go_round
                    case rel => exact ⟨j + 1, by go_num, by omega, by rw [HN.out]⟩
                    case measure => simp [intOf]; omega
            · obtain rfl : j = p.length := by omega
              have HN : Hid (lstC N (Y ++ (p.take p.length).map (flag l p)) = lstC N (FL l (P.take (k + 1)))) := Lib.hid (by rw [List.take_length, HFN.out])
              rw [HN.out]
              clear hj
              go_wp2_with fail
              go_round
              case rel => exact ⟨k + 1, by go_num, by omega, rfl⟩
              case measure => simp [intOf]; omega
        · obtain rfl : k = P.length := by omega
          rw [List.take_length]
          obtain ⟨a, ha⟩ : ∃ a, lstC N (FL l P) = a := ⟨_, rfl⟩
          rw [ha] at HLC ⊢
          have haN := HLC.out.le
          have HLO := Lib.hid (loop_ok N _ l w4 HRI.out (by omega) (by omega) (HR.out.keep HB4.out))
          clear ha hk HPR HPM
          go_wp2_with fail
          refine HLO.out.mono ?_; rintro e w6 ⟨u, p, rfl, hown, hlok, hb⟩
          have HB6 := Lib.hid (HB4.out.trans (hb.mono HB4.out.size))
          have hfit := loop_fit HRI.out HLC.out hlok
          obtain ⟨UA, ucap, hus⟩ := own_slice hown
          rw [zi_length] at hus
          subst hus
          rcases hfit with ⟨rfl, rfl⟩ | hfit
          · clear hown hlok hb HLO
            go_wp2_with fail
            go_ret
            exact ⟨rfl, HB6.out⟩
          · have hpl := hfit.len
            have hp0 : 0 < p.length := by
              have := hfit.head
              exact (List.getElem?_eq_some_iff.1 this).1
            have haN2 := hfit.lt
            obtain ⟨g, rfl, c00⟩ := own_rd hown 0 (by rw [zi_length]; exact hp0)
            have e0 : (zi p)[0]'(by rw [zi_length]; exact hp0) = (a : Int) := by
              have := (List.getElem?_eq_some_iff.1 hfit.head).2
              simp [zi, this]
            rw [e0] at c00
            have HC0 := Lib.hid c00
            have HCC : Hid (∀ i (h : i < p.length), w6.cell? ⟨g, i, none⟩ = some (.int .i64 (p[i] : Nat))) := Lib.hid (fun i h => by
              obtain ⟨g2, e1, e2⟩ := own_rd hown i (by rw [zi_length]; exact h)
              injection e1 with e1
              injection e1 with e1 _ _
              subst e1
              have e3 : (zi p)[i]'(by rw [zi_length]; exact h) = ((p[i] : Nat) : Int) := by simp [zi]
              rw [e3] at e2
              exact e2)
            have HIR := Lib.hid (hown.irow (by rw [zi_length]; omega))
            have HFIT := Lib.hid hfit
            have z1 : ((p.length : Int) == 0) = false := by rw [beq_eq_false_iff_ne]; omega
            have z1n : (p.length == 0) = false := by rw [beq_eq_false_iff_ne]; omega
            clear hown hlok hb HLO hfit e0 c00
            go_wp2_with fail
            go_loopw [12] (fun i wl => QRel w6 p.length i wl) (fun i _ => p.length - (intOf i).toNat)
            case atStart => exact ⟨0, rfl, by omega, 0, rfl⟩
            case round =>
              obtain ⟨k, rfl, hk, q0, hq⟩ := hrel
              have HQ := Lib.hid hq
              clear hq
              by_cases hlt : k < p.length
              · obtain ⟨x, hx⟩ : ∃ x, p[k] = x := ⟨_, rfl⟩
                have cx := HCC.out k hlt
                rw [hx] at cx
                replace cx : wr.cell? ⟨g, k, none⟩ = some (.int .i64 x) := by rw [HQ.out]; exact cx
                have hxg : p[k]? = some x := by rw [List.getElem?_eq_getElem hlt, hx]
                have hin := HFIT.out.nd k x hxg
                have HIC : Hid (∀ q, Calls Try.prog 25 #[.slice (some ⟨g, 0, none⟩) k ucap, .int .i64 x] (wr.drewN q) fun e w' => e = .returned (.bool false) ∧ w' = wr.drewN q) := Lib.hid (fun q => by
                  have hs : IRow (wr.drewN q) w6.heap.size (.slice (some ⟨g, 0, none⟩) k ucap) (zi (p.take k)) := by
                    have h4 := HIR.out.take k (by rw [zi_length]; omega)
                    rw [zi_take] at h4
                    rw [HQ.out]; exact h4
                  have := inP (zi (p.take k)) x _ (wr.drewN q) w6.heap.size hs
                  rw [hin] at this
                  exact this.mono fun _ _ ⟨h1, h2⟩ => ⟨h1, h2.symm⟩)
                have hAR : ∀ (r : Nat) (y : Nat), (if k + 1 < p.length then k + 1 else 0) = r → p[r]? = some y → Hid (∀ q, Calls Try.prog 26 #[.slice A l.length c, .int .i64 x, .int .i64 y] (wr.drewN q) fun e w' => e = .returned (.bool true) ∧ w' = wr.drewN q) := fun r y hr hy => Lib.hid (fun q => by
                  have hs : SRow (wr.drewN q) w6.heap.size (.slice A l.length c) l := by have h4 := HR.out.keep HB6.out; rw [HQ.out]; exact h4
                  have hxy := HFIT.out.cyc k x y hxg (by rw [hr]; exact hy)
                  have := arcP l x y _ (wr.drewN q) w6.heap.size hs
                  rw [hxy] at this
                  exact this.mono fun _ _ ⟨h1, h2⟩ => ⟨h1, h2.symm⟩)
                have hki : (k : Int) < p.length := by omega
                by_cases hl1 : k + 1 < p.length
                · obtain ⟨y, hy⟩ : ∃ y, p[k + 1] = y := ⟨_, rfl⟩
                  have cy := HCC.out (k + 1) hl1
                  rw [hy] at cy
                  replace cy : wr.cell? ⟨g, k + 1, none⟩ = some (.int .i64 y) := by rw [HQ.out]; exact cy
                  have HAC := hAR (k + 1) y (by rw [if_pos hl1]) (by rw [List.getElem?_eq_getElem hl1, hy])
                  have hki1 : (k : Int) + 1 < p.length := by omega
                  have hcap : k ≤ ucap := by
                    obtain ⟨_, A9, c9, hv9, h9, _⟩ := HIR.out
                    injection hv9 with _ _ e9
                    rw [zi_length] at h9
                    omega
                  have v2 : (0 : Int) ≤ (k : Int) + 1 := by omega
                  have v3 : ((k : Int) + 1).toNat = k + 1 := by omega
                  have v4 : ((k : Int) + 1).tmod (p.length : Int) = (k : Int) + 1 := by rw [Int.tmod_eq_emod_of_nonneg (by omega)]; exact Int.emod_eq_of_lt (by omega) (by omega)
                  have v1 : IntKind.i64.wrap ((k : Int) + 1) = (k : Int) + 1 := IntWalk.i64_in _ (by omega)
                  clear hx hxg hin hAR hy
                  go_wp2_with fail
                  go_quiet (first | ((go_at_call 26; exact Calls.quiet_of_same (HAC.out _))) | ((go_at_call 25; exact Calls.quiet_of_same (HIC.out _))))
                  go_wp2_with fail
                  clear v1 v4
                  go_roundw
                  case rel => exact ⟨k + 1, by go_num, by omega, _, by rw [HQ.out, World.drewN_drewN]⟩
                  case measure => simp [intOf]; omega
                · have cy : wr.cell? ⟨g, 0, none⟩ = some (.int .i64 a) := by rw [HQ.out]; exact HC0.out
                  have HAC := hAR 0 a (by rw [if_neg hl1]) HFIT.out.head
                  have hcap : k ≤ ucap := by
                    obtain ⟨_, A9, c9, hv9, h9, _⟩ := HIR.out
                    injection hv9 with _ _ e9
                    rw [zi_length] at h9
                    omega
                  have v2 : (0 : Int) ≤ (k : Int) + 1 := by omega
                  have hpi : (0 : Int) < p.length := by omega
                  have v4 : ((k : Int) + 1).tmod (p.length : Int) = 0 := by rw [show ((k : Int) + 1) = (p.length : Int) by omega]; exact Int.tmod_self
                  have v1 : IntKind.i64.wrap ((k : Int) + 1) = (k : Int) + 1 := IntWalk.i64_in _ (by omega)
                  clear hx hxg hin hAR
                  go_wp2_with fail
                  go_quiet (first | ((go_at_call 26; exact Calls.quiet_of_same (HAC.out _))) | ((go_at_call 25; exact Calls.quiet_of_same (HIC.out _))))
                  go_wp2_with fail
                  clear v1 v4
                  go_roundw
                  case rel => exact ⟨k + 1, by go_num, by omega, _, by rw [HQ.out, World.drewN_drewN]⟩
                  case measure => simp [intOf]; omega
              · have HF : Hid (Below w.heap.size w wr) := Lib.hid (by rw [HQ.out]; exact below_drewN2 HB6.out q0)
                have c00 : wr.cell? ⟨g, 0, none⟩ = some (.int .i64 a) := by rw [HQ.out]; exact HC0.out
                clear hk
                go_wp2_with fail
                go_ret
                exact ⟨rfl, HF.out⟩
end Go.Proofs.Ytobpolmlblpmjaa.graphLoops
