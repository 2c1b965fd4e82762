/-
  The walk of GraphReach.
-/
import Derived.Test.YtobpolmlblpmjaaLawM
namespace Go.Proofs.Ytobpolmlblpmjaa.graphReach
open Go.Proofs.Ytobpolmlblpmjaa
set_option linter.unusedVariables false
set_option linter.unusedSimpArgs false
open Go.RowKit

def QRel (w : World) (b : Nat) (i : Value) (wl : World) : Prop := ∃ k : Nat, i = .int .i64 k ∧ k ≤ b ∧ ∃ q, wl = w.drewN q
def BRel (w : World) (b : Nat) (i : Value) (wl : World) : Prop := ∃ k : Nat, i = .int .i64 k ∧ k ≤ b ∧ Below w.heap.size w wl
set_option maxRecDepth 100000 in
set_option maxHeartbeats 8000000 in
theorem walk (w : World) (n : Int) (v : Value) (A : Option Addr) (m c : Nat) (rv : Value) (A2 : Option Addr) (m2 c2 : Nat) (wn : (Lit.int .i64 n).wf = true) (hv : v = .slice A m c ∧ (m ≤ 1000000 → ∃ l : List Sp, l.length = m ∧ SRow w w.heap.size v l)) (hrv : rv = .slice A2 m2 c2 ∧ (m2 ≤ 1000000 → ∃ l : List Int, l.length = m2 ∧ IRow w w.heap.size rv l ∧ ∀ z ∈ l, -9223372036854775808 ≤ z ∧ z ≤ 9223372036854775807)) :
    Calls Try.prog 6 #[.int .i64 n, v, rv] w fun e w' => e = .returned (.bool true) ∧ Below w.heap.size w w' := by
  obtain ⟨rfl, hl⟩ := hv
  obtain ⟨rfl, hl2⟩ := hrv
  have HSM := Lib.hid (smallP w)
  have HFW := Lib.hid (fun w => fewP n A A2 m m2 c c2 w)
  cases hfw : fewB n m m2 with
  | false =>
    rw [hfw] at HFW
    clear hl hl2 hfw
    go_enter Try.func6, Try.ntmps6
    go_wp2_with fail
    refine HSM.out.mono ?_; rintro e w1 ⟨rfl, hb⟩
    have HB := Lib.hid hb
    clear hb
    go_wp2_with fail
    refine (HFW.out _).mono ?_; rintro e w2 ⟨rfl, rfl⟩
    go_wp2_with fail
    go_ret
    exact ⟨rfl, HB.out⟩
  | true =>
    rw [hfw] at HFW
    obtain ⟨hn14, hm60, hm20⟩ := fewB_iff.1 hfw
    obtain ⟨l, rfl, hr⟩ := hl (by omega)
    obtain ⟨rs, rfl, hrs, _⟩ := hl2 (by omega)
    clear hl hl2 hfw
    cases hri : rightB n l with
    | false =>
      have HRP : Hid (∀ w1, Below w.heap.size w w1 → Calls Try.prog 12 #[.int .i64 n, .slice A l.length c] w1 fun e w' => e = .returned (.bool false) ∧ Below w1.heap.size w1 w') := Lib.hid (fun w1 hb => by rw [← hri]; exact rightP n _ l w1 (hr.keep hb))
      clear hri
      go_enter Try.func6, Try.ntmps6
      go_wp2_with fail
      refine HSM.out.mono ?_; rintro e w1 ⟨rfl, hb⟩
      have HB := Lib.hid hb
      clear hb
      go_wp2_with fail
      refine (HFW.out _).mono ?_; rintro e w2 ⟨rfl, rfl⟩
      go_wp2_with fail
      refine (HRP.out _ HB.out).mono ?_; rintro e w3 ⟨rfl, hb⟩
      have HB3 := Lib.hid (HB.out.trans (hb.mono HB.out.size))
      clear hb
      go_wp2_with fail
      go_ret
      exact ⟨rfl, HB3.out⟩
    | true =>
      obtain ⟨N, rfl⟩ := right_nat hri
      have HRI : Hid (rightB (N : Int) l = true) := hri
      have HA := Lib.hid (right_toA hri)
      have HRP : Hid (∀ w1, Below w.heap.size w w1 → Calls Try.prog 12 #[.int .i64 N, .slice A l.length c] w1 fun e w' => e = .returned (.bool true) ∧ Below w1.heap.size w1 w') := Lib.hid (fun w1 hb => by rw [← hri]; exact rightP N _ l w1 (hr.keep hb))
      have HR := Lib.hid hr
      have HRS := Lib.hid hrs
      have hN14 : N ≤ 14 := by omega
      have hn0 : decide ((N : Int) < 0) = false := by rw [decide_eq_false_iff_not]; omega
      obtain ⟨_, _, SA, scap, hsv, hrd⟩ := hr
      injection hsv with e1 _ e3
      subst e1; subst e3
      have HRD := Lib.hid hrd
      obtain ⟨_, RA, rcap, hrv, _, _, _, hrrd⟩ := hrs
      injection hrv with e1 _ e3
      subst e1; subst e3
      have HRR := Lib.hid hrrd
      clear hri hn14 hrd hrrd
      go_enter Try.func6, Try.ntmps6
      go_wp2_with fail
      refine HSM.out.mono ?_; rintro e w1 ⟨rfl, hb⟩
      have HB := Lib.hid hb
      clear hb HSM
      go_wp2_with fail
      refine (HFW.out _).mono ?_; rintro e w2 ⟨rfl, rfl⟩
      go_wp2_with fail
      refine (HRP.out _ HB.out).mono ?_; rintro e w3 ⟨rfl, hb⟩
      have HB3 := Lib.hid (HB.out.trans (hb.mono HB.out.size))
      have HRE := Lib.hid (reach_ok N _ _ l rs w3 HRI.out (by omega) (by omega) (HR.out.keep HB3.out) (HRS.out.keep HB3.out))
      clear hb HB HRP HFW
      go_wp2_with fail
      refine HRE.out.mono ?_; rintro e w4 ⟨u, rfl, hown, hb⟩
      have HB4 := Lib.hid (HB3.out.trans (hb.mono HB3.out.size))
      have hlen := reachOf_len (toA l) N (rootsN N rs)
      have HIN := Lib.hid (fun (v : Nat) (hv : v < N) (p : List Nat) (h : WayOk (toA l) (rootsN N rs) v p) => way_in hv h)
      have HRO := Lib.hid (fun (z : Int) (h : z ∈ rs) (h0 : 0 ≤ z) (h1 : z < N) => reach_root (A := toA l) (n := N) h h0 h1)
      have HAR := Lib.hid (fun (x y : Nat) (h : (x, y) ∈ toA l) (hx : inB (zi (reachOf (toA l) N (rootsN N rs))) x = true) => reach_arc HA.out h hx)
      have HLT := Lib.hid (fun v (h : v ∈ reachOf (toA l) N (rootsN N rs)) => (mem_reachOf.1 h).1)
      have HASC := Lib.hid (reachOf_asc (toA l) N (rootsN N rs))
      obtain ⟨R, hR⟩ : ∃ R, reachOf (toA l) N (rootsN N rs) = R := ⟨_, rfl⟩
      rw [hR] at hown hlen HIN HRO HAR HLT HASC
      obtain ⟨UA, ucap, hus⟩ := own_slice hown
      rw [zi_length] at hus
      subst hus
      have HIR := Lib.hid (hown.irow (by rw [zi_length]; omega))
      have HOWN := Lib.hid hown
      clear hown hb hR HRE HB3 hn0
      go_wp2_with fail
      go_loopw [9] (fun i wl => QRel w4 R.length i wl) (fun i _ => R.length - (intOf i).toNat)
      case atStart => exact ⟨0, rfl, by omega, 0, rfl⟩
      case round =>
        obtain ⟨k, rfl, hk, q0, hq⟩ := hrel
        have HQ := Lib.hid hq
        clear hq
        by_cases hlt : k < R.length
        · obtain ⟨g, rfl, cx⟩ := own_rd HOWN.out k (by rw [zi_length]; exact hlt)
          obtain ⟨x, hx⟩ : ∃ x, R[k] = x := ⟨_, rfl⟩
          have e1 : (zi R)[k]'(by rw [zi_length]; exact hlt) = (x : Int) := by simp [zi, hx]
          rw [e1] at cx
          replace cx : wr.cell? ⟨g, k, none⟩ = some (.int .i64 x) := by rw [HQ.out]; exact cx
          have hxN := HLT.out x (hx ▸ List.getElem_mem hlt)
          have t1 : decide ((x : Int) < 0) = false := by rw [decide_eq_false_iff_not]; omega
          have t2 : decide ((N : Int) ≤ x) = false := by rw [decide_eq_false_iff_not]; omega
          have t2n : decide (N ≤ x) = false := by rw [decide_eq_false_iff_not]; omega
          by_cases hk0 : k = 0
          · subst hk0
            clear hx e1
            go_wp2_with fail
            go_quiet (fail)
            go_wp2_with fail
            go_roundw
            case rel => exact ⟨1, by go_num, by omega, _, by rw [HQ.out, World.drewN_drewN]⟩
            case measure => simp [intOf]; omega
          · obtain ⟨g2, eg, cy⟩ := own_rd HOWN.out (k - 1) (by rw [zi_length]; omega)
            injection eg with eg
            injection eg with eg _ _
            subst eg
            obtain ⟨y, hy⟩ : ∃ y, R[k - 1]'(by omega) = y := ⟨_, rfl⟩
            have e2 : (zi R)[k - 1]'(by rw [zi_length]; omega) = (y : Int) := by simp [zi, hy]
            rw [e2] at cy
            replace cy : wr.cell? ⟨g, k - 1, none⟩ = some (.int .i64 y) := by rw [HQ.out]; exact cy
            have hyx : y < x := by
              have := HASC.out
              rw [List.pairwise_iff_getElem] at this
              rw [← hx, ← hy]
              exact this (k - 1) k (by omega) hlt (by omega)
            have t3 : decide ((x : Int) ≤ y) = false := by rw [decide_eq_false_iff_not]; omega
            have t3n : decide (x ≤ y) = false := by rw [decide_eq_false_iff_not]; omega
            have hk1 : (0 : Int) < k := by omega
            have hk1n : 0 < k := by omega
            have hb1 : k - 1 < R.length := by omega
            have hb2 : ((k - 1 : Nat) : Int) < R.length := by omega
            have v1 : IntKind.i64.wrap ((k : Int) - 1) = ((k - 1 : Nat) : Int) := by rw [IntWalk.i64_in _ (by omega)]; omega
            have v2 : (0 : Int) ≤ (k : Int) - 1 := by omega
            have v3 : ((k : Int) - 1).toNat = k - 1 := by omega
            clear hx e1 hy e2
            go_wp2_with fail
            go_quiet (fail)
            go_wp2_with fail
            go_roundw
            case rel => exact ⟨k + 1, by go_num, by omega, _, by rw [HQ.out, World.drewN_drewN]⟩
            case measure => simp [intOf]; omega
        · have HBW : Hid (Below w.heap.size w wr) := Lib.hid (by rw [HQ.out]; exact below_drewN2 HB4.out q0)
          have HIW : Hid (IRow wr wr.heap.size (.slice UA R.length ucap) (zi R)) := Lib.hid (by rw [HQ.out]; exact HIR.out)
          clear HB4 HIR HOWN HQ hk
          obtain ⟨w5, hw5⟩ : ∃ w5 : World, w5 = wr := ⟨_, rfl⟩
          subst hw5
          go_wp2_with fail
          go_loop [10] (fun i => ∃ k : Nat, i = .int .i64 k ∧ k ≤ rs.length) (fun i => rs.length - (intOf i).toNat)
          case atStart => exact ⟨0, rfl, by omega⟩
          case round =>
            obtain ⟨k, rfl, hk⟩ := hrel
            by_cases hlt : k < rs.length
            · obtain ⟨b, off, rfl, hb1, hc⟩ := HRR.out (by omega)
              have c1 := (HBW.out.cell (p := ⟨b, off + k, none⟩) hb1).trans (hc k hlt)
              obtain ⟨z, hz⟩ : ∃ z, rs[k] = z := ⟨_, rfl⟩
              rw [hz] at c1
              have hzm : z ∈ rs := hz ▸ List.getElem_mem hlt
              clear hz hc
              by_cases h0 : 0 ≤ z
              · have t1 : decide (0 ≤ z) = true := by simpa using h0
                by_cases h1 : z < N
                · have t2 : decide (z < N) = true := by simpa using h1
                  have HI := inP (zi R) z (.slice UA R.length ucap) w5 w5.heap.size HIW.out
                  rw [HRO.out z hzm h0 h1] at HI
                  replace HI := Lib.hid HI
                  go_wp2_with fail
                  refine HI.out.mono ?_; rintro e w6 ⟨rfl, rfl⟩
                  go_wp2_with fail
                  go_round
                  case rel => exact ⟨k + 1, by go_num, by omega⟩
                  case measure => simp [intOf]; omega
                · have t2 : decide (z < N) = false := by simpa using h1
                  go_wp2_with fail
                  go_round
                  case rel => exact ⟨k + 1, by go_num, by omega⟩
                  case measure => simp [intOf]; omega
              · have t1 : decide (0 ≤ z) = false := by simpa using h0
                go_wp2_with fail
                go_round
                case rel => exact ⟨k + 1, by go_num, by omega⟩
                case measure => simp [intOf]; omega
            · clear hk
              go_wp2_with fail
              go_loop [11] (fun i => ∃ k : Nat, i = .int .i64 k ∧ k ≤ l.length) (fun i => l.length - (intOf i).toNat)
              case atStart => exact ⟨0, rfl, by omega⟩
              case round =>
                obtain ⟨k, rfl, hk⟩ := hrel
                by_cases hlt : k < l.length
                · obtain ⟨b, off, rfl, hb1, hc⟩ := HRD.out (by omega)
                  have c1 := (HBW.out.cell (p := ⟨b, off + k * 2, none⟩) hb1).trans (hc k hlt).1
                  have c2 := (HBW.out.cell (p := ⟨b, off + k * 2 + 1, none⟩) hb1).trans (hc k hlt).2
                  have hra := right_arc HRI.out k hlt
                  obtain ⟨p1, p2, p3, p4⟩ := hra
                  obtain ⟨x, hx⟩ : ∃ x : Nat, (gt l k).p = x := ⟨(gt l k).p.toNat, by omega⟩
                  obtain ⟨y, hy⟩ : ∃ y : Nat, (gt l k).n = y := ⟨(gt l k).n.toNat, by omega⟩
                  have hxy := mem_toA_get HRI.out hlt hx hy
                  rw [hx] at c1 p1 p2
                  rw [hy] at c2 p3 p4
                  have HI := inP (zi R) x (.slice UA R.length ucap) w5 w5.heap.size HIW.out
                  clear hx hy hc
                  cases hi2 : inB (zi R) x with
                  | false =>
                    rw [hi2] at HI
                    replace HI := Lib.hid HI
                    clear hi2
                    go_wp2_with fail
                    refine HI.out.mono ?_; rintro e w6 ⟨rfl, rfl⟩
                    go_wp2_with fail
                    go_round
                    case rel => exact ⟨k + 1, by go_num, by omega⟩
                    case measure => simp [intOf]; omega
                  | true =>
                    have HI2 := inP (zi R) y (.slice UA R.length ucap) w5 w5.heap.size HIW.out
                    rw [HAR.out x y hxy hi2] at HI2
                    rw [hi2] at HI
                    replace HI := Lib.hid HI
                    replace HI2 := Lib.hid HI2
                    clear hi2
                    go_wp2_with fail
                    refine HI.out.mono ?_; rintro e w6 ⟨rfl, rfl⟩
                    go_wp2_with fail
                    refine HI2.out.mono ?_; rintro e w7 ⟨rfl, rfl⟩
                    go_wp2_with fail
                    go_round
                    case rel => exact ⟨k + 1, by go_num, by omega⟩
                    case measure => simp [intOf]; omega
                · clear hk
                  go_wp2_with fail
                  go_loopw [12] (fun i wl => BRel w5 N i wl) (fun i _ => N - (intOf i).toNat)
                  case atStart => exact ⟨0, rfl, by omega, Below.refl _ _⟩
                  case round =>
                    obtain ⟨k, rfl, hk, hB⟩ := hrel
                    by_cases hlt : k < N
                    · have hBw := HBW.out.trans (hB.mono HBW.out.size)
                      have HI := inP (zi R) (k : Int) (.slice UA R.length ucap) wr wr.heap.size (HIW.out.keep hB)
                      have HWA := Lib.hid (way_ok N k _ _ l rs wr HRI.out hlt (by omega) (by omega) (HR.out.keep hBw) (HRS.out.keep hBw))
                      have HB5 := Lib.hid hB
                      obtain ⟨bi, hbi⟩ : ∃ bi, inB (zi R) (k : Int) = bi := ⟨_, rfl⟩
                      rw [hbi] at HI
                      have HBI := Lib.hid hbi
                      replace HI := Lib.hid HI
                      have hkN : (k : Int) < N := by omega
                      clear hB hBw hbi
                      obtain ⟨w8, hw8⟩ : ∃ w8 : World, w8 = wr := ⟨_, rfl⟩
                      subst hw8
                      go_wp2_with fail
                      refine HI.out.mono ?_; rintro e w6 ⟨rfl, rfl⟩
                      go_wp2_with fail
                      refine HWA.out.mono ?_; rintro e w9 ⟨u9, p, rfl, hown, hwok, hb⟩
                      have hbe := HIN.out k hlt p hwok
                      rw [HBI.out] at hbe
                      obtain ⟨A9, c9, hus⟩ := own_slice hown
                      rw [zi_length] at hus
                      subst hus
                      have HB9 := Lib.hid (HB5.out.trans (hb.mono HB5.out.size))
                      clear hown hwok hb HWA HI HBI HB5
                      by_cases hp : 0 < p.length
                      · rw [decide_eq_true hp] at hbe
                        subst hbe
                        have hpi : (0 : Int) < p.length := by omega
                        go_wp2_with fail
                        go_roundw
                        case rel => exact ⟨k + 1, by go_num, by omega, HB9.out⟩
                        case measure => simp [intOf]; omega
                      · have hpd := decide_eq_false hp
                        rw [hpd] at hbe
                        subst hbe
                        have hpi : decide ((0 : Int) < p.length) = false := by rw [decide_eq_false_iff_not]; omega
                        go_wp2_with fail
                        go_roundw
                        case rel => exact ⟨k + 1, by go_num, by omega, HB9.out⟩
                        case measure => simp [intOf]; omega
                    · have HF := Lib.hid (HBW.out.trans (hB.mono HBW.out.size))
                      clear hB
                      go_wp2_with fail
                      go_ret
                      exact ⟨rfl, HF.out⟩
end Go.Proofs.Ytobpolmlblpmjaa.graphReach
