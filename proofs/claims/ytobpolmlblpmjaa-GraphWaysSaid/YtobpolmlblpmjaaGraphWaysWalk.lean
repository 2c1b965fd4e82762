/-
  The walk of GraphWays.
-/
import Derived.Test.YtobpolmlblpmjaaWaysM
namespace Go.Proofs.Ytobpolmlblpmjaa.graphWays
open Go.Proofs.Ytobpolmlblpmjaa
set_option linter.unusedVariables false
set_option linter.unusedSimpArgs false
open Go.RowKit

def QRel (w : World) (b : Nat) (i : Value) (wl : World) : Prop := ∃ k : Nat, i = .int .i64 k ∧ k ≤ b ∧ ∃ q, wl = w.drewN q
def ORel (w : World) (O : List Int) (l : List Sp) (i : Value) (wl : World) : Prop := ∃ k : Nat, i = .int .i64 k ∧ k < O.length ∧ (∀ j x y, j < k → O[j]? = some x → O[j + 1]? = some y → arcB l x y = true) ∧ ∃ q, wl = w.drewN q
set_option maxRecDepth 100000 in
set_option maxHeartbeats 8000000 in
theorem walk (w : World) (n : Int) (v : Value) (A : Option Addr) (m c : Nat) (rv : Value) (A2 : Option Addr) (m2 c2 : Nat) (tt : Int) (ov : Value) (A4 : Option Addr) (m4 c4 : Nat) (wn : (Lit.int .i64 n).wf = true) (hv : v = .slice A m c ∧ (m ≤ 1000000 → ∃ l : List Sp, l.length = m ∧ SRow w w.heap.size v l)) (hrv : rv = .slice A2 m2 c2 ∧ (m2 ≤ 1000000 → ∃ l : List Int, l.length = m2 ∧ IRow w w.heap.size rv l ∧ ∀ z ∈ l, -9223372036854775808 ≤ z ∧ z ≤ 9223372036854775807))
    (wt : (Lit.int .i64 tt).wf = true) (hov : ov = .slice A4 m4 c4 ∧ (m4 ≤ 1000000 → ∃ l : List Int, l.length = m4 ∧ IRow w w.heap.size ov l ∧ ∀ z ∈ l, -9223372036854775808 ≤ z ∧ z ≤ 9223372036854775807)) :
    Calls Try.prog 7 #[.int .i64 n, v, rv, .int .i64 tt, ov] w fun e w' => e = .returned (.bool true) ∧ Below w.heap.size w w' := by
  obtain ⟨rfl, hl⟩ := hv
  obtain ⟨rfl, hl2⟩ := hrv
  obtain ⟨rfl, hl4⟩ := hov
  have HSM := Lib.hid (smallP w)
  have HFW := Lib.hid (fun w => fewP n A A2 m m2 c c2 w)
  cases hfw : fewB n m m2 with
  | false =>
    rw [hfw] at HFW
    clear hl hl2 hfw
    go_enter Try.func7, Try.ntmps7
    go_wp2_with fail
    refine HSM.out.mono ?_; rintro e w1 ⟨rfl, hb⟩
    have HB := Lib.hid hb
    clear hb
    go_wp2_with fail
    refine (HFW.out _).mono ?_; rintro e w2 ⟨rfl, rfl⟩
    go_wp2_with fail
    go_ret
    exact ⟨rfl, HB.out⟩
  | true =>
    rw [hfw] at HFW
    obtain ⟨hn14, hm60, hm20⟩ := fewB_iff.1 hfw
    obtain ⟨l, rfl, hr⟩ := hl (by omega)
    obtain ⟨rs, rfl, hrs, _⟩ := hl2 (by omega)
    clear hl hl2 hfw
    cases hri : rightB n l with
    | false =>
      have HRP : Hid (∀ w1, Below w.heap.size w w1 → Calls Try.prog 12 #[.int .i64 n, .slice A l.length c] w1 fun e w' => e = .returned (.bool false) ∧ Below w1.heap.size w1 w') := Lib.hid (fun w1 hb => by rw [← hri]; exact rightP n _ l w1 (hr.keep hb))
      clear hri
      go_enter Try.func7, Try.ntmps7
      go_wp2_with fail
      refine HSM.out.mono ?_; rintro e w1 ⟨rfl, hb⟩
      have HB := Lib.hid hb
      clear hb
      go_wp2_with fail
      refine (HFW.out _).mono ?_; rintro e w2 ⟨rfl, rfl⟩
      go_wp2_with fail
      refine (HRP.out _ HB.out).mono ?_; rintro e w3 ⟨rfl, hb⟩
      have HB3 := Lib.hid (HB.out.trans (hb.mono HB.out.size))
      clear hb
      go_wp2_with fail
      go_ret
      exact ⟨rfl, HB3.out⟩
    | true =>
      obtain ⟨N, rfl⟩ := right_nat hri
      have HRI : Hid (rightB (N : Int) l = true) := hri
      have HRP : Hid (∀ w1, Below w.heap.size w w1 → Calls Try.prog 12 #[.int .i64 N, .slice A l.length c] w1 fun e w' => e = .returned (.bool true) ∧ Below w1.heap.size w1 w') := Lib.hid (fun w1 hb => by rw [← hri]; exact rightP N _ l w1 (hr.keep hb))
      have HR := Lib.hid hr
      have HRS := Lib.hid hrs
      have hN14 : N ≤ 14 := by omega
      clear hri hn14 hr hrs
      by_cases hm4 : m4 ≤ 20
      · obtain ⟨O, rfl, hO, _⟩ := hl4 (by omega)
        have HOO := Lib.hid hO
        obtain ⟨hOl, OA, ocap, hov, _, _, _, hord⟩ := hO
        injection hov with e1 _ e3
        subst e1; subst e3
        have HOR := Lib.hid hord
        have d4 : decide ((20 : Int) < O.length) = false := by rw [decide_eq_false_iff_not]; omega
        have d4n : decide (20 < O.length) = false := by rw [decide_eq_false_iff_not]; omega
        clear hl4 hord hOl
        go_enter Try.func7, Try.ntmps7
        go_wp2_with fail
        refine HSM.out.mono ?_; rintro e w1 ⟨rfl, hb⟩
        have HB := Lib.hid hb
        clear hb HSM
        go_wp2_with fail
        refine (HFW.out _).mono ?_; rintro e w2 ⟨rfl, rfl⟩
        go_wp2_with fail
        refine (HRP.out _ HB.out).mono ?_; rintro e w3 ⟨rfl, hb⟩
        have HB3 := Lib.hid (HB.out.trans (hb.mono HB.out.size))
        have HWA := Lib.hid (way_any N tt _ _ l rs w3 HRI.out (by omega) (by omega) (HR.out.keep HB3.out) (HRS.out.keep HB3.out))
        clear hb HB HRP HFW d4 d4n
        go_wp2_with fail
        refine HWA.out.mono ?_; rintro e w4 ⟨u, p, rfl, hown, hwt, hpl, hb⟩
        have HB4 := Lib.hid (HB3.out.trans (hb.mono HB3.out.size))
        obtain ⟨UA, ucap, hus⟩ := own_slice hown
        rw [zi_length] at hus
        subst hus
        have HIR := Lib.hid (hown.irow (by rw [zi_length]; omega))
        have HOWN := Lib.hid hown
        have HWT := Lib.hid hwt
        clear hown hb hwt HWA HB3
        go_wp2_with fail
        go_loopw [13] (fun i wl => QRel w4 p.length i wl) (fun i _ => p.length - (intOf i).toNat)
        case atStart => exact ⟨0, rfl, by omega, 0, rfl⟩
        case round =>
          obtain ⟨k, rfl, hk, q0, hq⟩ := hrel
          have HQ := Lib.hid hq
          clear hq
          have v1 : IntKind.i64.wrap ((k : Int) + 1) = (k : Int) + 1 := IntWalk.i64_in _ (by omega)
          have v2 : (0 : Int) ≤ (k : Int) + 1 := by omega
          have v3 : ((k : Int) + 1).toNat = k + 1 := by omega
          by_cases hlt : k + 1 < p.length
          · obtain ⟨g, rfl, cx⟩ := own_rd HOWN.out k (by rw [zi_length]; omega)
            obtain ⟨g2, eg, cy⟩ := own_rd HOWN.out (k + 1) (by rw [zi_length]; omega)
            injection eg with eg
            injection eg with eg _ _
            subst eg
            obtain ⟨x, hx⟩ : ∃ x, p[k] = x := ⟨_, rfl⟩
            obtain ⟨y, hy⟩ : ∃ y, p[k + 1] = y := ⟨_, rfl⟩
            have e1 : (zi p)[k]'(by rw [zi_length]; omega) = (x : Int) := by simp [zi, hx]
            have e2 : (zi p)[k + 1]'(by rw [zi_length]; omega) = (y : Int) := by simp [zi, hy]
            rw [e1] at cx
            rw [e2] at cy
            replace cx : wr.cell? ⟨g, k, none⟩ = some (.int .i64 x) := by rw [HQ.out]; exact cx
            replace cy : wr.cell? ⟨g, k + 1, none⟩ = some (.int .i64 y) := by rw [HQ.out]; exact cy
            have hxy := HWT.out.arc HRI.out (i := k) (x := x) (y := y) (by rw [List.getElem?_eq_getElem (by omega), hx]) (by rw [List.getElem?_eq_getElem (by omega), hy])
            have HAC : Hid (∀ q, Calls Try.prog 26 #[.slice A l.length c, .int .i64 x, .int .i64 y] (wr.drewN q) fun e w' => e = .returned (.bool true) ∧ w' = wr.drewN q) := Lib.hid (fun q => by
              have hs : SRow (wr.drewN q) w4.heap.size (.slice A l.length c) l := by have h4 := HR.out.keep HB4.out; rw [HQ.out]; exact h4
              have := arcP l x y _ (wr.drewN q) w4.heap.size hs
              rw [hxy] at this
              exact this.mono fun _ _ ⟨h1, h2⟩ => ⟨h1, h2.symm⟩)
            have hki : (k : Int) < p.length := by omega
            have hkl : k < p.length := by omega
            have hki1 : (k : Int) + 1 < p.length := by omega
            clear hx e1 hy e2 hxy
            go_wp2_with fail
            go_quiet ((go_at_call 26; exact Calls.quiet_of_same (HAC.out _)))
            go_wp2_with fail
            go_roundw
            case rel => exact ⟨k + 1, by go_num, by omega, _, by rw [HQ.out, World.drewN_drewN]⟩
            case measure => simp [intOf]; omega
          · have hd : decide (k + 1 < p.length) = false := by simpa using hlt
            have hdi : decide ((k : Int) + 1 < p.length) = false := by rw [decide_eq_false_iff_not]; omega
            have HBW : Hid (Below w.heap.size w wr) := Lib.hid (by rw [HQ.out]; exact below_drewN2 HB4.out q0)
            have HIW : Hid (IRow wr wr.heap.size (.slice UA p.length ucap) (zi p)) := Lib.hid (by rw [HQ.out]; exact HIR.out)
            have HOW : Hid (∀ i (h : i < p.length), ∃ g, UA = some ⟨g, 0, none⟩ ∧ wr.cell? ⟨g, i, none⟩ = some (.int .i64 (p[i] : Nat))) := Lib.hid (fun i h => by
              obtain ⟨g, e1, e2⟩ := own_rd HOWN.out i (by rw [zi_length]; exact h)
              refine ⟨g, e1, ?_⟩
              rw [HQ.out]
              have e3 : (zi p)[i]'(by rw [zi_length]; exact h) = ((p[i] : Nat) : Int) := by simp [zi]
              rw [e3] at e2
              exact e2)
            clear HB4 HIR HOWN HQ
            obtain ⟨w5, hw5⟩ : ∃ w5 : World, w5 = wr := ⟨_, rfl⟩
            subst hw5
            by_cases hp : 0 < p.length
            · obtain ⟨gp, rfl, c0⟩ := HOW.out 0 hp
              obtain ⟨x0, hx0⟩ : ∃ x, p[0] = x := ⟨_, rfl⟩
              rw [hx0] at c0
              obtain ⟨d, hd1⟩ : ∃ d, p.length = d + 1 := ⟨p.length - 1, by omega⟩
              obtain ⟨gp2, eg, c1⟩ := HOW.out d (by omega)
              injection eg with eg
              injection eg with eg _ _
              subst eg
              obtain ⟨xd, hxd⟩ : ∃ x, p[d]'(by omega) = x := ⟨_, rfl⟩
              rw [hxd] at c1
              have hlast := HWT.out.last hd1 (x := xd) (by rw [List.getElem?_eq_getElem (by omega), hxd])
              rw [hlast] at c1
              have HI0 := inP rs (x0 : Int) (.slice A2 rs.length c2) w5 w5.heap.size (HRS.out.keep HBW.out)
              rw [HWT.out.first (x := x0) (by rw [List.getElem?_eq_getElem hp, hx0])] at HI0
              replace HI0 := Lib.hid HI0
              have hpi : (0 : Int) < p.length := by omega
              have r1 : IntKind.i64.wrap ((p.length : Int) - 1) = (d : Int) := by rw [IntWalk.i64_in _ (by omega)]; omega
              have r3 : (d : Int) < p.length := by omega
              clear hx0 hxd hd1 hlast
              by_cases hO0 : O.length = 0
              · have g0 : ((O.length : Int) == 0) = true := by simp [hO0]
                go_wp2_with fail
                refine HI0.out.mono ?_; rintro e w6 ⟨rfl, rfl⟩
                go_wp2_with fail
                go_ret
                exact ⟨rfl, HBW.out⟩
              · have g0 : ((O.length : Int) == 0) = false := by rw [beq_eq_false_iff_ne]; omega
                have g0n : (O.length == 0) = false := by rw [beq_eq_false_iff_ne]; omega
                have g0l : 0 < O.length := by omega
                obtain ⟨bo, oo, rfl, hbo, hoc⟩ := HOR.out g0l
                have HOC := Lib.hid hoc
                have cz := (HBW.out.cell (p := ⟨bo, oo + 0, none⟩) hbo).trans (hoc 0 g0l)
                rw [Nat.add_zero] at cz
                obtain ⟨z, hz⟩ : ∃ z, O[0] = z := ⟨_, rfl⟩
                rw [hz] at cz
                have HZ : Hid (O[0]? = some z) := Lib.hid (by rw [List.getElem?_eq_getElem g0l, hz])
                obtain ⟨d4, hOd⟩ : ∃ d, O.length = d + 1 := ⟨O.length - 1, by omega⟩
                have cd := (HBW.out.cell (p := ⟨bo, oo + d4, none⟩) hbo).trans (hoc d4 (by omega))
                obtain ⟨y, hy⟩ : ∃ y, O[d4]'(by omega) = y := ⟨_, rfl⟩
                rw [hy] at cd
                have HY4 : Hid (O[d4]? = some y) := Lib.hid (by rw [List.getElem?_eq_getElem (by omega), hy])
                have HI := inP rs z (.slice A2 rs.length c2) w5 w5.heap.size (HRS.out.keep HBW.out)
                have u1 : IntKind.i64.wrap ((O.length : Int) - 1) = (d4 : Int) := by rw [IntWalk.i64_in _ (by omega)]; omega
                have u2 : ((O.length : Int) - 1) = (d4 : Int) := by omega
                have u3 : (d4 : Int) < O.length := by omega
                clear hoc hz hy
                cases hin : inB rs z with
                | false =>
                  rw [hin] at HI
                  replace HI := Lib.hid HI
                  clear hin hOd u2
                  go_wp2_with fail
                  refine HI0.out.mono ?_; rintro e w6 ⟨rfl, rfl⟩
                  go_wp2_with fail
                  refine HI.out.mono ?_; rintro e w7 ⟨rfl, rfl⟩
                  go_wp2_with fail
                  go_ret
                  exact ⟨rfl, HBW.out⟩
                | true =>
                  rw [hin] at HI
                  replace HI := Lib.hid HI
                  have HZR : Hid (z ∈ rs) := Lib.hid (inB_iff.1 hin)
                  clear hin
                  by_cases h0z : 0 ≤ z
                  · have t1 : decide (z < 0) = false := by rw [decide_eq_false_iff_not]; omega
                    by_cases hzN : z < N
                    · have t2 : decide ((N : Int) ≤ z) = false := by rw [decide_eq_false_iff_not]; omega
                      by_cases hyt : y = tt
                      · have t3 : (y != tt) = false := by simp [hyt]
                        have HTT : Hid (O[d4]? = some tt) := Lib.hid (hyt ▸ HY4.out)
                        have HOD := Lib.hid hOd
                        clear hyt hOd u2
                        go_wp2_with fail
                        refine HI0.out.mono ?_; rintro e w6 ⟨rfl, rfl⟩
                        go_wp2_with fail
                        refine HI.out.mono ?_; rintro e w7 ⟨rfl, rfl⟩
                        go_wp2_with fail
                        clear u1 u3
                        try clear r1 r3
                        go_loopw [14] (fun i wl => ORel w5 O l i wl) (fun i _ => O.length - (intOf i).toNat)
                        case atStart => exact ⟨0, rfl, by omega, fun j x y hj => by omega, 0, rfl⟩
                        case round =>
                          obtain ⟨k, rfl, hk, hf, q0, hq⟩ := hrel
                          have HQ := Lib.hid hq
                          have HF := Lib.hid hf
                          clear hq hf
                          by_cases hlt : k + 1 < O.length
                          · have cx := (HBW.out.cell (p := ⟨bo, oo + k, none⟩) hbo).trans (HOC.out k (by omega))
                            have cy := (HBW.out.cell (p := ⟨bo, oo + (k + 1), none⟩) hbo).trans (HOC.out (k + 1) hlt)
                            obtain ⟨x, hx⟩ : ∃ x, O[k] = x := ⟨_, rfl⟩
                            obtain ⟨y, hy⟩ : ∃ y, O[k + 1] = y := ⟨_, rfl⟩
                            rw [hx] at cx
                            rw [hy] at cy
                            replace cx : wr.cell? ⟨bo, oo + k, none⟩ = some (.int .i64 x) := by rw [HQ.out]; exact cx
                            replace cy : wr.cell? ⟨bo, oo + (k + 1), none⟩ = some (.int .i64 y) := by rw [HQ.out]; exact cy
                            have HAC : Hid (∀ q, Calls Try.prog 26 #[.slice A l.length c, .int .i64 x, .int .i64 y] (wr.drewN q) fun e w' => e = .returned (.bool (arcB l x y)) ∧ w' = wr.drewN q) := Lib.hid (fun q => by
                              have hs : SRow (wr.drewN q) w5.heap.size (.slice A l.length c) l := by have h4 := HR.out.keep HBW.out; rw [HQ.out]; exact h4
                              exact (arcP l x y _ (wr.drewN q) w5.heap.size hs).mono fun _ _ ⟨h1, h2⟩ => ⟨h1, h2.symm⟩)
                            have hki : (k : Int) < O.length := by omega
                            have hki1 : (k : Int) + 1 < O.length := by omega
                            have HX : Hid (O[k]? = some x) := Lib.hid (by rw [List.getElem?_eq_getElem (by omega), hx])
                            have HY : Hid (O[k + 1]? = some y) := Lib.hid (by rw [List.getElem?_eq_getElem hlt, hy])
                            clear hx hy
                            cases hab : arcB l x y with
                            | true =>
                              rw [hab] at HAC
                              have HF2 : Hid (∀ (j : Nat) (x y : Int), j < k + 1 → O[j]? = some x → O[j + 1]? = some y → arcB l x y = true) := Lib.hid (fun j x' y' hj hx hy => by
                                by_cases e : j = k
                                · subst e
                                  rw [HX.out] at hx; rw [HY.out] at hy
                                  injection hx with hx; injection hy with hy
                                  subst hx; subst hy; exact hab
                                · exact HF.out j x' y' (by omega) hx hy)
                              clear hab
                              have v1 : IntKind.i64.wrap ((k : Int) + 1) = (k : Int) + 1 := IntWalk.i64_in _ (by omega)
                              have v2 : (0 : Int) ≤ (k : Int) + 1 := by omega
                              have v3 : ((k : Int) + 1).toNat = k + 1 := by omega
                              go_wp2_with fail
                              go_quiet ((go_at_call 26; exact Calls.quiet_of_same (HAC.out _)))
                              go_wp2_with fail
                              go_roundw
                              case rel => exact ⟨k + 1, by go_num, hlt, HF2.out, _, by rw [HQ.out, World.drewN_drewN]⟩
                              case measure => simp [intOf]; omega
                            | false =>
                              rw [hab] at HAC
                              clear hab
                              have HBF : Hid (∀ q, Below w.heap.size w (wr.drewN q)) := Lib.hid (fun q => by rw [HQ.out]; exact below_drewN2 (below_drewN2 HBW.out q0) q)
                              have v1 : IntKind.i64.wrap ((k : Int) + 1) = (k : Int) + 1 := IntWalk.i64_in _ (by omega)
                              have v2 : (0 : Int) ≤ (k : Int) + 1 := by omega
                              have v3 : ((k : Int) + 1).toNat = k + 1 := by omega
                              go_wp2_with fail
                              go_quiet ((go_at_call 26; exact Calls.quiet_of_same (HAC.out _)))
                              go_wp2_with fail
                              go_ret
                              exact ⟨rfl, HBF.out _⟩
                          · have hOd := HOD.out
                            obtain rfl : k = d4 := by omega
                            have hd : decide (k + 1 < O.length) = false := by simpa using hlt
                            have hdi : decide ((k : Int) + 1 < O.length) = false := by rw [decide_eq_false_iff_not]; omega
                            have hE := ways_end HRI.out HWT.out HZ.out HZR.out h0z hzN hOd HTT.out (fun i x y hx hy => by
                              have hi := (List.getElem?_eq_some_iff.1 hy).1
                              exact HF.out i x y (by omega) hx hy)
                            obtain ⟨e1, e2, e3⟩ := hE
                            have HBF : Hid (Below w.heap.size w wr) := Lib.hid (by rw [HQ.out]; exact below_drewN2 HBW.out q0)
                            have HIW2 : Hid (IRow wr wr.heap.size (.slice (some ⟨gp, 0, none⟩) p.length ucap) (zi p)) := Lib.hid (by rw [HQ.out]; exact HIW.out)
                            have HIO : Hid (IRow wr wr.heap.size (.slice (some ⟨bo, oo, none⟩) O.length c4) O) := Lib.hid (by have h4 := HOO.out.keep HBW.out; rw [HQ.out]; exact h4)
                            have q1 : (0 : Int) < p.length := by omega
                            have q2 : (p.length : Int) ≤ O.length := by omega
                            clear hOd
                            by_cases hlo : p.length < O.length
                            · have q3 : (p.length : Int) < O.length := by omega
                              clear e3
                              have v1 : IntKind.i64.wrap ((k : Int) + 1) = (k : Int) + 1 := IntWalk.i64_in _ (by omega)
                              have v2 : (0 : Int) ≤ (k : Int) + 1 := by omega
                              have v3 : ((k : Int) + 1).toNat = k + 1 := by omega
                              go_wp2_with fail
                              go_ret
                              exact ⟨rfl, HBF.out⟩
                            · have q3 : decide ((p.length : Int) < O.length) = false := by rw [decide_eq_false_iff_not]; omega
                              have q3n : decide (p.length < O.length) = false := by rw [decide_eq_false_iff_not]; omega
                              have HLE := lessRef O (zi p) _ _ wr wr.heap.size HIO.out HIW2.out
                              rw [e3 (by omega)] at HLE
                              replace HLE := Lib.hid HLE
                              clear e3
                              have v1 : IntKind.i64.wrap ((k : Int) + 1) = (k : Int) + 1 := IntWalk.i64_in _ (by omega)
                              have v2 : (0 : Int) ≤ (k : Int) + 1 := by omega
                              have v3 : ((k : Int) + 1).toNat = k + 1 := by omega
                              go_wp2_with fail
                              refine HLE.out.mono ?_; rintro e w9 ⟨rfl, q9, rfl⟩
                              have HBG := Lib.hid (below_drewN2 HBF.out q9)
                              go_wp2_with fail
                              go_ret
                              exact ⟨rfl, HBG.out⟩
                      · have t3 : (y != tt) = true := by simp [hyt]
                        clear hyt hOd u2
                        go_wp2_with fail
                        refine HI0.out.mono ?_; rintro e w6 ⟨rfl, rfl⟩
                        go_wp2_with fail
                        refine HI.out.mono ?_; rintro e w7 ⟨rfl, rfl⟩
                        go_wp2_with fail
                        go_ret
                        exact ⟨rfl, HBW.out⟩
                    · have t2 : decide ((N : Int) ≤ z) = true := by rw [decide_eq_true_iff]; omega
                      clear hOd u2
                      go_wp2_with fail
                      refine HI0.out.mono ?_; rintro e w6 ⟨rfl, rfl⟩
                      go_wp2_with fail
                      refine HI.out.mono ?_; rintro e w7 ⟨rfl, rfl⟩
                      go_wp2_with fail
                      go_ret
                      exact ⟨rfl, HBW.out⟩
                  · have t1 : decide (z < 0) = true := by rw [decide_eq_true_iff]; omega
                    clear hOd u2
                    go_wp2_with fail
                    refine HI0.out.mono ?_; rintro e w6 ⟨rfl, rfl⟩
                    go_wp2_with fail
                    refine HI.out.mono ?_; rintro e w7 ⟨rfl, rfl⟩
                    go_wp2_with fail
                    go_ret
                    exact ⟨rfl, HBW.out⟩
            · have hpi : decide ((0 : Int) < p.length) = false := by rw [decide_eq_false_iff_not]; omega
              have hpn : decide (0 < p.length) = false := by rw [decide_eq_false_iff_not]; omega
              by_cases hO0 : O.length = 0
              · have g0 : ((O.length : Int) == 0) = true := by simp [hO0]
                go_wp2_with fail
                go_ret
                exact ⟨rfl, HBW.out⟩
              · have g0 : ((O.length : Int) == 0) = false := by rw [beq_eq_false_iff_ne]; omega
                have g0n : (O.length == 0) = false := by rw [beq_eq_false_iff_ne]; omega
                have g0l : 0 < O.length := by omega
                obtain ⟨bo, oo, rfl, hbo, hoc⟩ := HOR.out g0l
                have HOC := Lib.hid hoc
                have cz := (HBW.out.cell (p := ⟨bo, oo + 0, none⟩) hbo).trans (hoc 0 g0l)
                rw [Nat.add_zero] at cz
                obtain ⟨z, hz⟩ : ∃ z, O[0] = z := ⟨_, rfl⟩
                rw [hz] at cz
                have HZ : Hid (O[0]? = some z) := Lib.hid (by rw [List.getElem?_eq_getElem g0l, hz])
                obtain ⟨d4, hOd⟩ : ∃ d, O.length = d + 1 := ⟨O.length - 1, by omega⟩
                have cd := (HBW.out.cell (p := ⟨bo, oo + d4, none⟩) hbo).trans (hoc d4 (by omega))
                obtain ⟨y, hy⟩ : ∃ y, O[d4]'(by omega) = y := ⟨_, rfl⟩
                rw [hy] at cd
                have HY4 : Hid (O[d4]? = some y) := Lib.hid (by rw [List.getElem?_eq_getElem (by omega), hy])
                have HI := inP rs z (.slice A2 rs.length c2) w5 w5.heap.size (HRS.out.keep HBW.out)
                have u1 : IntKind.i64.wrap ((O.length : Int) - 1) = (d4 : Int) := by rw [IntWalk.i64_in _ (by omega)]; omega
                have u2 : ((O.length : Int) - 1) = (d4 : Int) := by omega
                have u3 : (d4 : Int) < O.length := by omega
                clear hoc hz hy
                cases hin : inB rs z with
                | false =>
                  rw [hin] at HI
                  replace HI := Lib.hid HI
                  clear hin hOd u2
                  go_wp2_with fail
                  refine HI.out.mono ?_; rintro e w7 ⟨rfl, rfl⟩
                  go_wp2_with fail
                  go_ret
                  exact ⟨rfl, HBW.out⟩
                | true =>
                  rw [hin] at HI
                  replace HI := Lib.hid HI
                  have HZR : Hid (z ∈ rs) := Lib.hid (inB_iff.1 hin)
                  clear hin
                  by_cases h0z : 0 ≤ z
                  · have t1 : decide (z < 0) = false := by rw [decide_eq_false_iff_not]; omega
                    by_cases hzN : z < N
                    · have t2 : decide ((N : Int) ≤ z) = false := by rw [decide_eq_false_iff_not]; omega
                      by_cases hyt : y = tt
                      · have t3 : (y != tt) = false := by simp [hyt]
                        have HTT : Hid (O[d4]? = some tt) := Lib.hid (hyt ▸ HY4.out)
                        have HOD := Lib.hid hOd
                        clear hyt hOd u2
                        go_wp2_with fail
                        refine HI.out.mono ?_; rintro e w7 ⟨rfl, rfl⟩
                        go_wp2_with fail
                        clear u1 u3
                        try clear r1 r3
                        go_loopw [14] (fun i wl => ORel w5 O l i wl) (fun i _ => O.length - (intOf i).toNat)
                        case atStart => exact ⟨0, rfl, by omega, fun j x y hj => by omega, 0, rfl⟩
                        case round =>
                          obtain ⟨k, rfl, hk, hf, q0, hq⟩ := hrel
                          have HQ := Lib.hid hq
                          have HF := Lib.hid hf
                          clear hq hf
                          by_cases hlt : k + 1 < O.length
                          · have cx := (HBW.out.cell (p := ⟨bo, oo + k, none⟩) hbo).trans (HOC.out k (by omega))
                            have cy := (HBW.out.cell (p := ⟨bo, oo + (k + 1), none⟩) hbo).trans (HOC.out (k + 1) hlt)
                            obtain ⟨x, hx⟩ : ∃ x, O[k] = x := ⟨_, rfl⟩
                            obtain ⟨y, hy⟩ : ∃ y, O[k + 1] = y := ⟨_, rfl⟩
                            rw [hx] at cx
                            rw [hy] at cy
                            replace cx : wr.cell? ⟨bo, oo + k, none⟩ = some (.int .i64 x) := by rw [HQ.out]; exact cx
                            replace cy : wr.cell? ⟨bo, oo + (k + 1), none⟩ = some (.int .i64 y) := by rw [HQ.out]; exact cy
                            have HAC : Hid (∀ q, Calls Try.prog 26 #[.slice A l.length c, .int .i64 x, .int .i64 y] (wr.drewN q) fun e w' => e = .returned (.bool (arcB l x y)) ∧ w' = wr.drewN q) := Lib.hid (fun q => by
                              have hs : SRow (wr.drewN q) w5.heap.size (.slice A l.length c) l := by have h4 := HR.out.keep HBW.out; rw [HQ.out]; exact h4
                              exact (arcP l x y _ (wr.drewN q) w5.heap.size hs).mono fun _ _ ⟨h1, h2⟩ => ⟨h1, h2.symm⟩)
                            have hki : (k : Int) < O.length := by omega
                            have hki1 : (k : Int) + 1 < O.length := by omega
                            have HX : Hid (O[k]? = some x) := Lib.hid (by rw [List.getElem?_eq_getElem (by omega), hx])
                            have HY : Hid (O[k + 1]? = some y) := Lib.hid (by rw [List.getElem?_eq_getElem hlt, hy])
                            clear hx hy
                            cases hab : arcB l x y with
                            | true =>
                              rw [hab] at HAC
                              have HF2 : Hid (∀ (j : Nat) (x y : Int), j < k + 1 → O[j]? = some x → O[j + 1]? = some y → arcB l x y = true) := Lib.hid (fun j x' y' hj hx hy => by
                                by_cases e : j = k
                                · subst e
                                  rw [HX.out] at hx; rw [HY.out] at hy
                                  injection hx with hx; injection hy with hy
                                  subst hx; subst hy; exact hab
                                · exact HF.out j x' y' (by omega) hx hy)
                              clear hab
                              have v1 : IntKind.i64.wrap ((k : Int) + 1) = (k : Int) + 1 := IntWalk.i64_in _ (by omega)
                              have v2 : (0 : Int) ≤ (k : Int) + 1 := by omega
                              have v3 : ((k : Int) + 1).toNat = k + 1 := by omega
                              go_wp2_with fail
                              go_quiet ((go_at_call 26; exact Calls.quiet_of_same (HAC.out _)))
                              go_wp2_with fail
                              go_roundw
                              case rel => exact ⟨k + 1, by go_num, hlt, HF2.out, _, by rw [HQ.out, World.drewN_drewN]⟩
                              case measure => simp [intOf]; omega
                            | false =>
                              rw [hab] at HAC
                              clear hab
                              have HBF : Hid (∀ q, Below w.heap.size w (wr.drewN q)) := Lib.hid (fun q => by rw [HQ.out]; exact below_drewN2 (below_drewN2 HBW.out q0) q)
                              have v1 : IntKind.i64.wrap ((k : Int) + 1) = (k : Int) + 1 := IntWalk.i64_in _ (by omega)
                              have v2 : (0 : Int) ≤ (k : Int) + 1 := by omega
                              have v3 : ((k : Int) + 1).toNat = k + 1 := by omega
                              go_wp2_with fail
                              go_quiet ((go_at_call 26; exact Calls.quiet_of_same (HAC.out _)))
                              go_wp2_with fail
                              go_ret
                              exact ⟨rfl, HBF.out _⟩
                          · have hOd := HOD.out
                            obtain rfl : k = d4 := by omega
                            have hd : decide (k + 1 < O.length) = false := by simpa using hlt
                            have hdi : decide ((k : Int) + 1 < O.length) = false := by rw [decide_eq_false_iff_not]; omega
                            have hE := ways_end HRI.out HWT.out HZ.out HZR.out h0z hzN hOd HTT.out (fun i x y hx hy => by
                              have hi := (List.getElem?_eq_some_iff.1 hy).1
                              exact HF.out i x y (by omega) hx hy)
                            obtain ⟨e1, e2, e3⟩ := hE
                            have HBF : Hid (Below w.heap.size w wr) := Lib.hid (by rw [HQ.out]; exact below_drewN2 HBW.out q0)
                            exact absurd e1 hp
                      · have t3 : (y != tt) = true := by simp [hyt]
                        clear hyt hOd u2
                        go_wp2_with fail
                        refine HI.out.mono ?_; rintro e w7 ⟨rfl, rfl⟩
                        go_wp2_with fail
                        go_ret
                        exact ⟨rfl, HBW.out⟩
                    · have t2 : decide ((N : Int) ≤ z) = true := by rw [decide_eq_true_iff]; omega
                      clear hOd u2
                      go_wp2_with fail
                      refine HI.out.mono ?_; rintro e w7 ⟨rfl, rfl⟩
                      go_wp2_with fail
                      go_ret
                      exact ⟨rfl, HBW.out⟩
                  · have t1 : decide (z < 0) = true := by rw [decide_eq_true_iff]; omega
                    clear hOd u2
                    go_wp2_with fail
                    refine HI.out.mono ?_; rintro e w7 ⟨rfl, rfl⟩
                    go_wp2_with fail
                    go_ret
                    exact ⟨rfl, HBW.out⟩
      · have d4 : (20 : Int) < m4 := by omega
        clear hl4
        go_enter Try.func7, Try.ntmps7
        go_wp2_with fail
        refine HSM.out.mono ?_; rintro e w1 ⟨rfl, hb⟩
        have HB := Lib.hid hb
        clear hb
        go_wp2_with fail
        refine (HFW.out _).mono ?_; rintro e w2 ⟨rfl, rfl⟩
        go_wp2_with fail
        refine (HRP.out _ HB.out).mono ?_; rintro e w3 ⟨rfl, hb⟩
        have HB3 := Lib.hid (HB.out.trans (hb.mono HB.out.size))
        clear hb
        go_wp2_with fail
        go_ret
        exact ⟨rfl, HB3.out⟩
end Go.Proofs.Ytobpolmlblpmjaa.graphWays
