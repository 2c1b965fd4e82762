/-
  The walk of GraphParts.
-/
import Derived.Test.YtobpolmlblpmjaaWhere
namespace Go.Proofs.Ytobpolmlblpmjaa.graphParts
open Go.Proofs.Ytobpolmlblpmjaa
set_option linter.unusedVariables false
set_option linter.unusedSimpArgs false
open Go.RowKit

def QRel (w : World) (b : Nat) (i : Value) (wl : World) : Prop := ∃ k : Nat, i = .int .i64 k ∧ k ≤ b ∧ ∃ q, wl = w.drewN q
def BRel (w : World) (b : Nat) (i : Value) (wl : World) : Prop := ∃ k : Nat, i = .int .i64 k ∧ k ≤ b ∧ Below w.heap.size w wl
/-- What the table of the parts' numbers says. -/
structure Tab (A : Arcs) (N : Nat) (T : List Int) : Prop where
  len : T.length = N
  pos : ∀ v, v < N → 0 ≤ T.getD v 0
  arc : ∀ f t, (f, t) ∈ A → T.getD t 0 ≤ T.getD f 0
  same : ∀ v w, v < N → w < N → (T.getD v 0 = T.getD w 0 ↔ eqv A v w)
theorem tab_ok {A : Arcs} {N : Nat} {T : List Int} (hA : ∀ a ∈ A, a.1 < N ∧ a.2 < N) (hl : T.length = N) (h : ∀ (i : Nat) (p : List Nat) (v : Nat), (partsOf A N)[i]? = some p → v ∈ p → T.getD v 0 = i) : Tab A N T := by
  have hP := partsOf_ok A N
  have hfind : ∀ v, v < N → ∃ (i : Nat) (p : List Nat), (partsOf A N)[i]? = some p ∧ v ∈ p := fun v hv => by
    rcases hP.all v hv with h1 | ⟨p, h1, h2⟩
    · simp at h1
    · obtain ⟨i, hi, he⟩ := List.getElem_of_mem h1
      exact ⟨i, p, by rw [List.getElem?_eq_getElem hi, he], h2⟩
  refine ⟨hl, fun v hv => ?_, fun f t ha => ?_, fun v w hv hw => ?_⟩
  · obtain ⟨i, p, h1, h2⟩ := hfind v hv
    rw [h i p v h1 h2]; omega
  · obtain ⟨i, p, h1, h2⟩ := hfind f (hA _ ha).1
    rcases hP.down i p h1 f t h2 (hA _ ha).2 (.one ha) with h3 | ⟨j, q, h3, h4, h5⟩
    · simp at h3
    · rw [h i p f h1 h2, h j q t h4 h5]; omega
  · obtain ⟨i, p, h1, h2⟩ := hfind v hv
    obtain ⟨j, q, h3, h4⟩ := hfind w hw
    rw [h i p v h1 h2, h j q w h3 h4]
    obtain ⟨u, hu, hpe⟩ := hP.each p (List.mem_of_getElem? h1)
    obtain ⟨u2, hu2, hqe⟩ := hP.each q (List.mem_of_getElem? h3)
    constructor
    · intro e
      have e2 : i = j := by omega
      subst e2
      rw [h1] at h3; injection h3 with h3
      subst h3
      rw [hpe] at h2 h4
      exact (mem_partOf.1 h2).2.symm.trans (mem_partOf.1 h4).2
    · intro e
      have h5 : w ∈ p := by
        rw [hpe] at h2 ⊢
        exact mem_partOf.2 ⟨hw, (mem_partOf.1 h2).2.trans e⟩
      have h6 := h i p w h1 h5
      rw [h j q w h3 h4] at h6
      omega
theorem reach_one {A : Arcs} {n x y : Nat} (hy : y < n) : inB (zi (reachOf A n [x])) y = reachB A x y := by
  rw [Bool.eq_iff_iff, inB_zi, mem_reachOf, reachB_iff]
  simp [hy]
set_option maxRecDepth 100000 in
set_option maxHeartbeats 8000000 in
theorem walk (w : World) (n : Int) (v : Value) (A : Option Addr) (m c : Nat) (wn : (Lit.int .i64 n).wf = true) (hv : v = .slice A m c ∧ (m ≤ 1000000 → ∃ l : List Sp, l.length = m ∧ SRow w w.heap.size v l)) :
    Calls Try.prog 5 #[.int .i64 n, v] w fun e w' => e = .returned (.bool true) ∧ Below w.heap.size w w' := by
  obtain ⟨rfl, hl⟩ := hv
  have HSM := Lib.hid (smallP w)
  have HFW := Lib.hid (fun w => fewP n A none m 0 c 0 w)
  cases hfw : fewB n m 0 with
  | false =>
    rw [hfw] at HFW
    clear hl hfw
    go_enter Try.func5, Try.ntmps5
    go_wp2_with fail
    refine HSM.out.mono ?_; rintro e w1 ⟨rfl, hb⟩
    have HB := Lib.hid hb
    clear hb
    go_wp2_with fail
    refine (HFW.out _).mono ?_; rintro e w2 ⟨rfl, rfl⟩
    go_wp2_with fail
    go_ret
    exact ⟨rfl, HB.out⟩
  | true =>
    rw [hfw] at HFW
    obtain ⟨hn14, hm60, hm20⟩ := fewB_iff.1 hfw
    obtain ⟨l, rfl, hr⟩ := hl (by omega)
    clear hl hfw
    cases hri : rightB n l with
    | false =>
      have HRP : Hid (∀ w1, Below w.heap.size w w1 → Calls Try.prog 12 #[.int .i64 n, .slice A l.length c] w1 fun e w' => e = .returned (.bool false) ∧ Below w1.heap.size w1 w') := Lib.hid (fun w1 hb => by rw [← hri]; exact rightP n _ l w1 (hr.keep hb))
      clear hri
      go_enter Try.func5, Try.ntmps5
      go_wp2_with fail
      refine HSM.out.mono ?_; rintro e w1 ⟨rfl, hb⟩
      have HB := Lib.hid hb
      clear hb
      go_wp2_with fail
      refine (HFW.out _).mono ?_; rintro e w2 ⟨rfl, rfl⟩
      go_wp2_with fail
      refine (HRP.out _ HB.out).mono ?_; rintro e w3 ⟨rfl, hb⟩
      have HB3 := Lib.hid (HB.out.trans (hb.mono HB.out.size))
      clear hb
      go_wp2_with fail
      go_ret
      exact ⟨rfl, HB3.out⟩
    | true =>
      obtain ⟨N, rfl⟩ := right_nat hri
      have HRI : Hid (rightB (N : Int) l = true) := hri
      have HA := Lib.hid (right_toA hri)
      have HRP : Hid (∀ w1, Below w.heap.size w w1 → Calls Try.prog 12 #[.int .i64 N, .slice A l.length c] w1 fun e w' => e = .returned (.bool true) ∧ Below w1.heap.size w1 w') := Lib.hid (fun w1 hb => by rw [← hri]; exact rightP N _ l w1 (hr.keep hb))
      have HR := Lib.hid hr
      obtain ⟨_, _, SA, scap, hsv, hrd⟩ := hr
      injection hsv with e1 _ e3
      subst e1; subst e3
      have HRD := Lib.hid hrd
      have hN14 : N ≤ 14 := by omega
      have hn0 : decide ((N : Int) < 0) = false := by rw [decide_eq_false_iff_not]; omega
      have hpl : (partsOf (toA l) N).length ≤ N := partsGo_len _ _ _ _
      clear hri hn14 hrd
      go_enter Try.func5, Try.ntmps5
      go_wp2_with fail
      refine HSM.out.mono ?_; rintro e w1 ⟨rfl, hb⟩
      have HB := Lib.hid hb
      clear hb HSM
      go_wp2_with fail
      refine (HFW.out _).mono ?_; rintro e w2 ⟨rfl, rfl⟩
      go_wp2_with fail
      refine (HRP.out _ HB.out).mono ?_; rintro e w3 ⟨rfl, hb⟩
      have HB3 := Lib.hid (HB.out.trans (hb.mono HB.out.size))
      have HPA := Lib.hid (parts_ok N _ l w3 HRI.out (by omega) (by omega) (HR.out.keep HB3.out))
      clear hb HB HRP HFW
      go_wp2_with fail
      refine HPA.out.mono ?_; rintro e w4 ⟨u, rfl, hown, hb⟩
      have HB4 := Lib.hid (HB3.out.trans (hb.mono HB3.out.size))
      have HWH := Lib.hid (whereP N _ u w4 (partsFit (toA l) N) hpl (by omega) (hown.lrow (by rw [List.length_map]; omega)))
      clear hb hown HPA HB3 hn0
      go_wp2_with fail
      refine HWH.out.mono ?_; rintro e w5 ⟨u5, T, rfl, hown, hTl, hT, hb⟩
      have HB5 := Lib.hid (HB4.out.trans (hb.mono HB4.out.size))
      have HTB := Lib.hid (tab_ok HA.out hTl hT)
      obtain ⟨TA, tcap, hus⟩ := own_slice hown
      rw [hTl] at hus
      subst hus
      have HIT := Lib.hid (hown.irow (by omega))
      have HTC : Hid (∀ i, i < N → ∃ g, TA = some ⟨g, 0, none⟩ ∧ g < w5.heap.size ∧ w5.cell? ⟨g, i, none⟩ = some (.int .i64 (T.getD i 0))) := Lib.hid (fun i hi => by
        obtain ⟨g, e1, e2⟩ := own_rd hown i (by omega)
        refine ⟨g, e1, ?_, ?_⟩
        · subst e1; exact (World.ownsRow.lt hown g rfl).2
        · rw [List.getD_eq_getElem?_getD, List.getElem?_eq_getElem (by omega)]; exact e2)
      have hin := inP T (-1) (.slice TA N tcap) w5 w5.heap.size HIT.out
      rw [show inB T (-1) = false by
        rw [Bool.eq_false_iff, ne_eq, inB_iff]
        intro hm
        obtain ⟨i, hi, he⟩ := List.getElem_of_mem hm
        have h1 := HTB.out.pos i (by omega)
        rw [List.getD_eq_getElem?_getD, List.getElem?_eq_getElem hi] at h1
        simp only [Option.getD_some] at h1
        omega] at hin
      have HIM := Lib.hid hin
      have z1 : ((N : Int) != (N : Int)) = false := by simp
      clear hown hTl hT hb hin HWH HB4
      go_wp2_with fail
      refine HIM.out.mono ?_; rintro e w6 ⟨rfl, rfl⟩
      go_wp2_with fail
      go_loopw [8] (fun i wl => QRel w5 l.length i wl) (fun i _ => l.length - (intOf i).toNat)
      case atStart => exact ⟨0, rfl, by omega, 0, rfl⟩
      case round =>
        obtain ⟨k, rfl, hk, q0, hq⟩ := hrel
        have HQ := Lib.hid hq
        clear hq
        by_cases hlt : k < l.length
        · obtain ⟨b, off, rfl, hb1, hc⟩ := HRD.out (by omega)
          have c1 := (HB5.out.cell (p := ⟨b, off + k * 2, none⟩) hb1).trans (hc k hlt).1
          have c2 := (HB5.out.cell (p := ⟨b, off + k * 2 + 1, none⟩) hb1).trans (hc k hlt).2
          have hra := right_arc HRI.out k hlt
          obtain ⟨p1, p2, p3, p4⟩ := hra
          obtain ⟨x, hx⟩ : ∃ x : Nat, (gt l k).p = x := ⟨(gt l k).p.toNat, by omega⟩
          obtain ⟨y, hy⟩ : ∃ y : Nat, (gt l k).n = y := ⟨(gt l k).n.toNat, by omega⟩
          have hxy := mem_toA_get HRI.out hlt hx hy
          rw [hx] at c1 p1 p2
          rw [hy] at c2 p3 p4
          replace c1 : wr.cell? ⟨b, off + k * 2, none⟩ = some (.int .i64 x) := by rw [HQ.out]; exact c1
          replace c2 : wr.cell? ⟨b, off + k * 2 + 1, none⟩ = some (.int .i64 y) := by rw [HQ.out]; exact c2
          obtain ⟨g, rfl, _, cf⟩ := HTC.out x (by omega)
          obtain ⟨g2, eg, _, ct⟩ := HTC.out y (by omega)
          injection eg with eg
          injection eg with eg _ _
          subst eg
          have hle := HTB.out.arc x y hxy
          obtain ⟨tf, htf⟩ : ∃ z, T.getD x 0 = z := ⟨_, rfl⟩
          obtain ⟨tt, htt⟩ : ∃ z, T.getD y 0 = z := ⟨_, rfl⟩
          rw [htf] at cf hle
          rw [htt] at ct hle
          replace cf : wr.cell? ⟨g, x, none⟩ = some (.int .i64 tf) := by rw [HQ.out]; exact cf
          replace ct : wr.cell? ⟨g, y, none⟩ = some (.int .i64 tt) := by rw [HQ.out]; exact ct
          have t1 : decide ((x : Int) < 0) = false := by rw [decide_eq_false_iff_not]; omega
          have t2 : decide ((N : Int) ≤ x) = false := by rw [decide_eq_false_iff_not]; omega
          have t2n : decide (N ≤ x) = false := by rw [decide_eq_false_iff_not]; omega
          have t3 : decide ((y : Int) < 0) = false := by rw [decide_eq_false_iff_not]; omega
          have t4 : decide ((N : Int) ≤ y) = false := by rw [decide_eq_false_iff_not]; omega
          have t4n : decide (N ≤ y) = false := by rw [decide_eq_false_iff_not]; omega
          have t5 : decide (tf < tt) = false := by rw [decide_eq_false_iff_not]; omega
          clear hx hy hc hxy htf htt hle
          go_wp2_with fail
          go_quiet (fail)
          go_wp2_with fail
          go_roundw
          case rel => exact ⟨k + 1, by go_num, by omega, _, by rw [HQ.out, World.drewN_drewN]⟩
          case measure => simp [intOf]; omega
        · have HB6 : Hid (Below w.heap.size w wr) := Lib.hid (by rw [HQ.out]; exact below_drewN2 HB5.out q0)
          have HTC6 : Hid (∀ i, i < N → ∃ g, TA = some ⟨g, 0, none⟩ ∧ g < wr.heap.size ∧ wr.cell? ⟨g, i, none⟩ = some (.int .i64 (T.getD i 0))) := Lib.hid (fun i hi => by rw [HQ.out]; exact HTC.out i hi)
          clear hk HB5 HQ HTC HIM HIT
          obtain ⟨w7, hw7⟩ : ∃ w7 : World, w7 = wr := ⟨_, rfl⟩
          subst hw7
          go_wp2_with fail
          go_loopw [11] (fun i wl => BRel w7 N i wl) (fun i _ => N - (intOf i).toNat)
          case atStart => exact ⟨0, rfl, by omega, Below.refl _ _⟩
          case round =>
            obtain ⟨k, rfl, hk, hB⟩ := hrel
            by_cases hlt : k < N
            · have hBw := HB6.out.trans (hB.mono HB6.out.size)
              have hBa := chain hB (below_new wr (.cells #[.int .i64 (k : Int)] 3)) (Nat.le_refl _)
              have i9 := (lit wr [(k : Int)] #[.int .i64 (k : Int)] 1 rfl rfl (by omega)).mono (show wr.heap.size + 1 ≤ (wr.alloc (.cells #[.int .i64 (k : Int)] 3)).heap.size by simp)
              have hBx := HB6.out.trans (hBa.mono HB6.out.size)
              have HRE := reach_ok N _ _ l [(k : Int)] _ HRI.out (by omega) (by omega) (HR.out.keep hBx) i9
              have hrk : rootsN N [(k : Int)] = [k] := by
                have := rootsN_zi (n := N) (S := [k]) (fun x hx => by rw [List.mem_singleton.1 hx]; exact hlt)
                exact this
              rw [hrk] at HRE
              replace HRE := Lib.hid HRE
              have HBA := Lib.hid hBa
              clear hB hBw hBa i9 hBx hrk
              obtain ⟨w8, hw8⟩ : ∃ w8 : World, w8 = wr := ⟨_, rfl⟩
              subst hw8
              go_wp2_with fail
              refine HRE.out.mono ?_; rintro e w9 ⟨u9, rfl, hown, hb⟩
              have hB9 := chain HBA.out hb (Nat.le_refl _)
              have HB9 := Lib.hid hB9
              have hrl := reachOf_len (toA l) N [k]
              have HI9 := Lib.hid (hown.irow (by rw [zi_length]; omega))
              obtain ⟨A9, c9, hus⟩ := own_slice hown
              rw [zi_length] at hus
              subst hus
              clear hown hb hB9 HRE HBA
              go_wp2_with fail
              go_loopw [13] (fun i wl => BRel w9 N i wl) (fun i _ => N - (intOf i).toNat)
              case atStart => exact ⟨0, rfl, by omega, Below.refl _ _⟩
              case round =>
                obtain ⟨j, rfl, hj, hB⟩ := hrel
                have hB97 := chain HB9.out hB (Nat.le_refl _)
                by_cases hjl : j < N
                · obtain ⟨g, rfl, hg1, ck⟩ := HTC6.out k hlt
                  obtain ⟨g2, eg, hg2, cj⟩ := HTC6.out j hjl
                  injection eg with eg
                  injection eg with eg _ _
                  subst eg
                  have hsame := HTB.out.same k j hlt hjl
                  obtain ⟨tk, htk⟩ : ∃ z, T.getD k 0 = z := ⟨_, rfl⟩
                  obtain ⟨tj, htj⟩ : ∃ z, T.getD j 0 = z := ⟨_, rfl⟩
                  rw [htk] at ck hsame
                  rw [htj] at cj hsame
                  have HI := inP (zi (reachOf (toA l) N [k])) (j : Int) (.slice A9 (reachOf (toA l) N [k]).length c9) wr wr.heap.size (HI9.out.keep hB)
                  rw [reach_one hjl] at HI
                  have hkN : (k : Int) < N := by omega
                  have hjN : (j : Int) < N := by omega
                  cases h1 : reachB (toA l) k j with
                  | false =>
                    have hne : tk ≠ tj := fun e => by
                      have := (reachB_iff (toA l) k j).2 (hsame.1 e).1
                      rw [h1] at this; cases this
                    have tb : (tk == tj) = false := by simpa using hne
                    have d1 := (hB97.cell (p := ⟨g, k, none⟩) hg1).trans ck
                    have d2 := (hB97.cell (p := ⟨g, j, none⟩) hg1).trans cj
                    have HBN : Hid (∀ q, Below w9.heap.size w9 (wr.drewN q)) := Lib.hid (below_drewN2 hB)
                    rw [h1] at HI
                    replace HI := Lib.hid HI
                    clear hsame htk htj hB hB97 h1 hne ck cj
                    obtain ⟨w10, hw10⟩ : ∃ w10 : World, w10 = wr := ⟨_, rfl⟩
                    subst hw10
                    go_wp2_with fail
                    refine HI.out.mono ?_; rintro e w11 ⟨rfl, rfl⟩
                    go_wp2_with fail
                    go_quiet (fail)
                    go_wp2_with fail
                    go_roundw
                    case rel => exact ⟨j + 1, by go_num, by omega, HBN.out _⟩
                    case measure => simp [intOf]; omega
                  | true =>
                    have hBa := chain hB (below_new wr (.cells #[.int .i64 (j : Int)] 3)) (Nat.le_refl _)
                    have hB7a := chain HB9.out hBa (Nat.le_refl _)
                    have i9 := (lit wr [(j : Int)] #[.int .i64 (j : Int)] 1 rfl rfl (by omega)).mono (show wr.heap.size + 1 ≤ (wr.alloc (.cells #[.int .i64 (j : Int)] 3)).heap.size by simp)
                    have HRE := reach_ok N _ _ l [(j : Int)] _ HRI.out (by omega) (by omega) (HR.out.keep (HB6.out.trans (hB7a.mono HB6.out.size))) i9
                    have hrk : rootsN N [(j : Int)] = [j] := by
                      have := rootsN_zi (n := N) (S := [j]) (fun x hx => by rw [List.mem_singleton.1 hx]; exact hjl)
                      exact this
                    rw [hrk] at HRE
                    replace HRE := Lib.hid HRE
                    have hbe : (tk == tj) = reachB (toA l) j k := by
                      rw [Bool.eq_iff_iff, beq_iff_eq, hsame, reachB_iff]
                      exact ⟨fun h => h.2, fun h => ⟨(reachB_iff _ _ _).1 h1, h⟩⟩
                    have HBA := Lib.hid hBa
                    have HD : Hid (∀ w2, Below wr.heap.size wr w2 → w2.cell? ⟨g, k, none⟩ = some (.int .i64 tk) ∧ w2.cell? ⟨g, j, none⟩ = some (.int .i64 tj)) := Lib.hid (fun w2 h =>
                      ⟨((chain hB97 h (Nat.le_refl _)).cell (p := ⟨g, k, none⟩) hg1).trans ck, ((chain hB97 h (Nat.le_refl _)).cell (p := ⟨g, j, none⟩) hg1).trans cj⟩)
                    have HWN := Lib.hid (below_new wr (.cells #[.int .i64 (j : Int)] 3))
                    rw [h1] at HI
                    replace HI := Lib.hid HI
                    obtain ⟨bb, hbb⟩ : ∃ b, reachB (toA l) j k = b := ⟨_, rfl⟩
                    rw [hbb] at hbe
                    have HBB := Lib.hid hbb
                    clear hsame htk htj hB hB97 h1 ck cj hBa hB7a i9 hrk hbb
                    obtain ⟨w10, hw10⟩ : ∃ w10 : World, w10 = wr := ⟨_, rfl⟩
                    subst hw10
                    go_wp2_with fail
                    refine HI.out.mono ?_; rintro e w11 ⟨rfl, rfl⟩
                    go_wp2_with fail
                    refine HRE.out.mono ?_; rintro e w12 ⟨u12, rfl, hown, hb⟩
                    have hb12 := chain HWN.out hb (Nat.le_refl _)
                    obtain ⟨d1, d2⟩ := HD.out w12 hb12
                    have HBN : Hid (∀ q, Below w9.heap.size w9 (w12.drewN q)) := Lib.hid (below_drewN2 (chain HBA.out hb (Nat.le_refl _)))
                    have hrl2 := reachOf_len (toA l) N [j]
                    have HI2 := inP (zi (reachOf (toA l) N [j])) (k : Int) u12 w12 w12.heap.size (hown.irow (by rw [zi_length]; omega))
                    rw [reach_one hlt, HBB.out] at HI2
                    replace HI2 := Lib.hid HI2
                    obtain ⟨A12, c12, hus⟩ := own_slice hown
                    rw [zi_length] at hus
                    subst hus
                    clear hown hb hb12 HRE HI
                    cases bb with
                    | false =>
                      go_wp2_with fail
                      refine HI2.out.mono ?_; rintro e w13 ⟨rfl, rfl⟩
                      go_wp2_with fail
                      go_quiet (fail)
                      go_wp2_with fail
                      go_roundw
                      case rel => exact ⟨j + 1, by go_num, by omega, HBN.out _⟩
                      case measure => simp [intOf]; omega
                    | true =>
                      go_wp2_with fail
                      refine HI2.out.mono ?_; rintro e w13 ⟨rfl, rfl⟩
                      go_wp2_with fail
                      go_quiet (fail)
                      go_wp2_with fail
                      go_roundw
                      case rel => exact ⟨j + 1, by go_num, by omega, HBN.out _⟩
                      case measure => simp [intOf]; omega
                · have HBX := Lib.hid hB97
                  clear hB hB97 hj
                  go_wp2_with fail
                  go_roundw
                  case rel => exact ⟨k + 1, by go_num, by omega, HBX.out⟩
                  case measure => simp [intOf]; omega
            · have HF := Lib.hid (HB6.out.trans (hB.mono HB6.out.size))
              clear hB hk
              go_wp2_with fail
              go_ret
              exact ⟨rfl, HF.out⟩
end Go.Proofs.Ytobpolmlblpmjaa.graphParts
