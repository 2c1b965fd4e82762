/-
  The reference's Loop, given what its Way answers.
-/
import Derived.Test.YtcljgpgdbjpemaaLawZ
import Derived.Test.YtcljgpgdbjpemaaRefZ
import Derived.Test.YtcljgpgdbjpemaaOwnA
namespace Go.Proofs.Ytcljgpgdbjpemaa
set_option linter.unusedVariables false
set_option linter.unusedSimpArgs false
open Go.RowKit

/-- What is asked of the reference's Way: from one node to another. -/
def WaySays : Prop := ∀ (N x y : Nat) (l : List Sp) (v rv : Value) (w : World), rightB N l = true → x < N → y < N → N ≤ 900 → l.length ≤ 1000 → SRow w w.heap.size v l → IRow w w.heap.size rv [(x : Int)] →
  Calls Try.prog 20 #[.int .i64 N, v, rv, .int .i64 y] w (PPost (WayOk (toA l) [x] y) w)
def BestOk (A : Arcs) (v j : Nat) (b : List Nat) : Prop := (b = [] ∨ ∃ w, w ≠ v ∧ (w, v) ∈ A ∧ WayOk A [v] w b) ∧ ∀ w, w < j → w ≠ v → (w, v) ∈ A → ∃ x, WayOk A [v] w x ∧ (x = [] ∨ (b ≠ [] ∧ ¬ sl x b))
theorem BestOk.skip {A : Arcs} {v j : Nat} {b : List Nat} (h : BestOk A v j b) (hs : j = v ∨ (j, v) ∉ A) : BestOk A v (j + 1) b :=
  ⟨h.1, fun w hw h1 h2 => by
    by_cases e : w = j
    · rcases hs with hs | hs
      · omega
      · exact absurd (e ▸ h2) hs
    · exact h.2 w (by omega) h1 h2⟩
theorem BestOk.keep {A : Arcs} {v j : Nat} {b x : List Nat} (h : BestOk A v j b) (hx : WayOk A [v] j x) (hs : x = [] ∨ (b ≠ [] ∧ ¬ sl x b)) : BestOk A v (j + 1) b :=
  ⟨h.1, fun w hw h1 h2 => by
    by_cases e : w = j
    · subst e; exact ⟨x, hx, hs⟩
    · exact h.2 w (by omega) h1 h2⟩
theorem BestOk.new {A : Arcs} {v j : Nat} {b x : List Nat} (h : BestOk A v j b) (hj : j ≠ v) (ha : (j, v) ∈ A) (hx : WayOk A [v] j x) (hn : x ≠ []) (hs : b = [] ∨ sl x b) : BestOk A v (j + 1) x :=
  ⟨.inr ⟨j, hj, ha, hx⟩, fun w hw h1 h2 => by
    by_cases e : w = j
    · subst e; exact ⟨x, hx, .inr ⟨hn, sl_irr x⟩⟩
    · obtain ⟨y, h3, h4⟩ := h.2 w (by omega) h1 h2
      refine ⟨y, h3, ?_⟩
      rcases h4 with h4 | ⟨h4, h5⟩
      · exact .inl h4
      · refine .inr ⟨hn, fun h6 => ?_⟩
        rcases hs with hs | hs
        · exact h4 hs
        · exact h5 (sl_trans h6 hs)⟩
theorem BestOk.none {A : Arcs} {n v : Nat} (hA : ∀ a ∈ A, a.1 < n ∧ a.2 < n) (h : BestOk A v n []) (hv : (v, v) ∉ A) : NoLoop A v :=
  ⟨hv, fun w h1 h2 hr => by
    obtain ⟨x, h3, h4⟩ := h.2 w (hA _ h2).1 h1 h2
    rcases h4 with h4 | ⟨h4, _⟩
    · exact (way_nil h3).1 h4 ⟨v, by simp, hr⟩
    · exact h4 rfl⟩
theorem BestOk.some {A : Arcs} {n v : Nat} {b : List Nat} (hA : ∀ a ∈ A, a.1 < n ∧ a.2 < n) (h : BestOk A v n b) (hb : b ≠ []) (hv : (v, v) ∉ A) : HasLoop A v b :=
  .inr ⟨hv, hb, by obtain ⟨w, h1⟩ := h.1.resolve_left hb; exact ⟨w, h1⟩, fun w h1 h2 => by
    obtain ⟨x, h3, h4⟩ := h.2 w (hA _ h2).1 h1 h2
    exact ⟨x, h3, h4.imp id (fun h => h.2)⟩⟩
theorem irow_zero (w : World) (B b : Nat) : IRow w B (.slice (some ⟨b, 0, none⟩) 0 0) (zi []) := ⟨by simp [zi], some ⟨b, 0, none⟩, 0, rfl, by simp [zi], by decide, (fun h => by cases h), fun h => by simp [zi] at h⟩
def O1Rel (A : Arcs) (N : Nat) (w : World) (i : Value) (wl : World) : Prop := ∃ k : Nat, i = .int .i64 k ∧ k ≤ N ∧ (∀ u, u < k → NoLoop A u) ∧ Below w.heap.size w wl
def O2Rel (A : Arcs) (N v : Nat) (w : World) (s i : Value) (wl : World) : Prop := ∃ (j : Nat) (b : List Nat), i = .int .i64 j ∧ j ≤ N ∧ BestOk A v j b ∧ IRow wl wl.heap.size s (zi b) ∧ Below w.heap.size w wl
set_option maxRecDepth 100000 in
set_option maxHeartbeats 8000000 in
theorem refLoop (hway : WaySays) (n : Int) (v : Value) (l : List Sp) (w : World) (hn : n ≤ 900) (hl : l.length ≤ 1000) (hr : SRow w w.heap.size v l) :
    Calls Try.prog 22 #[.int .i64 n, v] w (PPost (LoopIs n l) w) := by
  have HRP := refRight n v l w w.heap.size hr
  cases hri : rightB n l with
  | false =>
    have HF : Hid (PPost (LoopIs n l) w (.returned (.slice none 0 0)) w) := Lib.hid ⟨_, [], rfl, irow_nil _ _, .inr ⟨hri, rfl⟩, Below.refl _ _⟩
    rw [hri] at HRP
    replace HRP := Lib.hid HRP
    clear hri hr
    go_enter Try.func22, Try.ntmps22
    go_wp2_with fail
    refine HRP.out.mono ?_; rintro e w1 ⟨rfl, rfl⟩
    go_wp2_with fail
    go_ret
    exact HF.out
  | true =>
    obtain ⟨N, rfl⟩ := right_nat hri
    have HRI : Hid (rightB (N : Int) l = true) := hri
    have HA := Lib.hid (right_toA hri)
    have HEND : Hid (∀ (p : List Nat), LoopOk (toA l) N p → LoopIs (N : Int) l p) := Lib.hid (fun p h => .inl ⟨hri, by rw [Int.toNat_natCast]; exact h⟩)
    rw [hri] at HRP
    replace HRP := Lib.hid HRP
    have HR := Lib.hid hr
    have HWY := Lib.hid hway
    have hN9 : N ≤ 900 := by omega
    have hN0 : (0 : Int) ≤ N := by omega
    clear hri hr hn hway
    go_enter Try.func22, Try.ntmps22
    go_wp2_with fail
    refine HRP.out.mono ?_; rintro e w1 ⟨rfl, rfl⟩
    clear HRP
    go_wp2_with fail
    go_loopw [5] (fun i wl => O1Rel (toA l) N w i wl) (fun i _ => N - (intOf i).toNat)
    case atStart => exact ⟨0, rfl, by omega, fun u hu => by omega, Below.refl _ _⟩
    case round =>
      obtain ⟨k, rfl, hk, hno, hB⟩ := hrel
      by_cases hlt : k < N
      · have hkN : (k : Int) < N := by omega
        have HH := hasP l (k : Int) (k : Int) v wr wr.heap.size (HR.out.keep hB)
        have HNO := Lib.hid hno
        cases hb1 : arcB l (k : Int) (k : Int) with
        | true =>
          rw [hb1] at HH
          replace HH := Lib.hid HH
          have hkk := (arcB_mem (n := N) HRI.out).1 hb1
          have HF : Hid (PPost (LoopIs (N : Int) l) w (.returned (.slice (some ⟨wr.heap.size, 0, none⟩) 1 1)) (wr.alloc (.cells #[.int .i64 (k : Int)] 3))) := Lib.hid ⟨_, [k], rfl, (lit wr [(k : Int)] #[.int .i64 (k : Int)] 1 rfl rfl (by omega)).mono (by simp), HEND.out _ (HasLoop.ok HA.out hlt (.inl ⟨hkk, rfl⟩) hno), hB.alloc hB.size _⟩
          clear hno hB hb1 hkk
          go_wp2_with fail
          refine HH.out.mono ?_; rintro e w2 ⟨rfl, rfl⟩
          go_wp2_with fail
          go_ret
          exact HF.out
        | false =>
          rw [hb1] at HH
          replace HH := Lib.hid HH
          have hkk : (k, k) ∉ toA l := fun h => by rw [(arcB_mem (n := N) HRI.out).2 h] at hb1; cases hb1
          have HKK := Lib.hid hkk
          have HBA := Lib.hid (hB.alloc hB.size (.cells #[] 3))
          clear hno hB hb1 hkk
          obtain ⟨w3, hw3⟩ : ∃ w3 : World, w3 = wr := ⟨_, rfl⟩
          subst hw3
          go_wp2_with fail
          refine HH.out.mono ?_; rintro e w2 ⟨rfl, rfl⟩
          go_wp2_with fail
          go_loopw [6, 7] (fun s i wl => O2Rel (toA l) N k w s i wl) (fun _ i _ => N - (intOf i).toNat)
          case atStart => exact ⟨0, [], rfl, by omega, ⟨.inl rfl, fun w hw => by omega⟩, irow_zero _ _ _, HBA.out⟩
          case round =>
            obtain ⟨j, b, rfl, hj, hbest, hib, hB⟩ := hrel
            obtain ⟨hbl, BA, bcap, hbs, _⟩ := id hib
            rw [zi_length] at hbs hbl
            by_cases hjl : j < N
            · have hjN : (j : Int) < N := by omega
              by_cases hjk : j = k
              · have hb2 : ((j : Int) == (k : Int)) = true := by simp [hjk]
                have HN := Lib.hid (hbest.skip (.inl hjk))
                have HI := Lib.hid hib
                have HB2 := Lib.hid hB
                clear hbest hib hB hjk hbs
                go_wp2_with fail
                go_roundw
                case rel => exact ⟨j + 1, b, by go_num, by omega, HN.out, HI.out, HB2.out⟩
                case measure => simp [intOf]; omega
              · have hb2 : ((j : Int) == (k : Int)) = false := by rw [beq_eq_false_iff_ne]; omega
                have HH2 := hasP l (j : Int) (k : Int) v wr wr.heap.size (HR.out.keep hB)
                cases hb3 : arcB l (j : Int) (k : Int) with
                | false =>
                  rw [hb3] at HH2
                  replace HH2 := Lib.hid HH2
                  have HN := Lib.hid (hbest.skip (.inr (fun h => by rw [(arcB_mem (n := N) HRI.out).2 h] at hb3; cases hb3)))
                  have HI := Lib.hid hib
                  have HB2 := Lib.hid hB
                  clear hbest hib hB hb3 hbs
                  go_wp2_with fail
                  refine HH2.out.mono ?_; rintro e w2 ⟨rfl, rfl⟩
                  go_wp2_with fail
                  go_roundw
                  case rel => exact ⟨j + 1, b, by go_num, by omega, HN.out, HI.out, HB2.out⟩
                  case measure => simp [intOf]; omega
                | true =>
                  rw [hb3] at HH2
                  replace HH2 := Lib.hid HH2
                  have HJK := Lib.hid ((arcB_mem (n := N) HRI.out).1 hb3)
                  have hB4 := hB.alloc hB.size (.cells #[.int .i64 (k : Int)] 3)
                  have HWA := Lib.hid (HWY.out N k j l v (.slice (some ⟨wr.heap.size, 0, none⟩) 1 1) (wr.alloc (.cells #[.int .i64 (k : Int)] 3)) HRI.out hlt hjl hN9 hl (HR.out.keep hB4) ((lit wr [(k : Int)] #[.int .i64 (k : Int)] 1 rfl rfl (by omega)).mono (by simp)))
                  have HB4 := Lib.hid hB4
                  have HIB := Lib.hid (hib.keep (below_new wr (.cells #[.int .i64 (k : Int)] 3)))
                  have HBE := Lib.hid hbest
                  clear hB hB4 hib hbest hb3
                  obtain ⟨w5, hw5⟩ : ∃ w5 : World, w5 = wr := ⟨_, rfl⟩
                  subst hw5
                  subst hbs
                  go_wp2_with fail
                  refine HH2.out.mono ?_; rintro e w2 ⟨rfl, rfl⟩
                  go_wp2_with fail
                  refine HWA.out.mono ?_; rintro e w6 ⟨ux, x, rfl, hix, hwx, hb⟩
                  have hibx := HIB.out.keep hb
                  obtain ⟨hxl, XA, xcap, hxs, _⟩ := id hix
                  rw [zi_length] at hxs hxl
                  have HB6 := Lib.hid (HB4.out.trans (hb.mono HB4.out.size))
                  have HLE := lessRef (zi x) (zi b) _ _ w6 w6.heap.size hix hibx
                  rw [lessB_zi] at HLE
                  have HIX := Lib.hid hix
                  have HIBX := Lib.hid hibx
                  have HWX := Lib.hid hwx
                  subst hxs
                  by_cases hx0 : 0 < x.length
                  · have hxn : x ≠ [] := List.length_pos_iff.1 hx0
                    have g1 : (0 : Int) < x.length := by omega
                    by_cases hb0 : b.length = 0
                    · have g2 : ((b.length : Int) == 0) = true := by rw [beq_iff_eq]; omega
                      have g2n : (b.length == 0) = true := by rw [beq_iff_eq]; exact hb0
                      have HN := Lib.hid (HBE.out.new hjk HJK.out HWX.out hxn (.inl (List.eq_nil_of_length_eq_zero hb0)))
                      clear hix hibx hwx hb HLE hb0
                      go_wp2_with fail
                      go_roundw
                      case rel => exact ⟨j + 1, x, by go_num, by omega, HN.out, HIX.out, HB6.out⟩
                      case measure => simp [intOf]; omega
                    · have hbn : b ≠ [] := fun e => hb0 (by rw [e]; rfl)
                      have g2 : ((b.length : Int) == 0) = false := by rw [beq_eq_false_iff_ne]; omega
                      have g2n : (b.length == 0) = false := by rw [beq_eq_false_iff_ne]; exact hb0
                      by_cases hlx : x.length < b.length
                      · have g3 : (x.length : Int) < b.length := by omega
                        have HN := Lib.hid (HBE.out.new hjk HJK.out HWX.out hxn (.inr (.inl hlx)))
                        clear hix hibx hwx hb HLE
                        go_wp2_with fail
                        go_roundw
                        case rel => exact ⟨j + 1, x, by go_num, by omega, HN.out, HIX.out, HB6.out⟩
                        case measure => simp [intOf]; omega
                      · have g3 : decide ((x.length : Int) < b.length) = false := by rw [decide_eq_false_iff_not]; omega
                        have g3n : decide (x.length < b.length) = false := by rw [decide_eq_false_iff_not]; omega
                        by_cases hlq : x.length = b.length
                        · have g4 : ((x.length : Int) == (b.length : Int)) = true := by rw [beq_iff_eq]; omega
                          have g4n : (x.length == b.length) = true := by rw [beq_iff_eq]; exact hlq
                          have HLQ := Lib.hid hlq
                          clear hlq hlx
                          cases hlt2 : lexLt x b with
                          | true =>
                            rw [hlt2] at HLE
                            replace HLE := Lib.hid HLE
                            have HN := Lib.hid (HBE.out.new hjk HJK.out HWX.out hxn (.inr (.inr ⟨HLQ.out, hlt2⟩)))
                            clear hix hibx hwx hb hlt2
                            go_wp2_with fail
                            refine HLE.out.mono ?_; rintro e w7 ⟨rfl, q7, rfl⟩
                            have HB7 := Lib.hid (below_drewN2 HB6.out q7)
                            have HIX7 : Hid (IRow (w6.drewN q7) (w6.drewN q7).heap.size (.slice XA x.length xcap) (zi x)) := Lib.hid HIX.out
                            go_wp2_with fail
                            go_roundw
                            case rel => exact ⟨j + 1, x, by go_num, by omega, HN.out, HIX7.out, HB7.out⟩
                            case measure => simp [intOf]; omega
                          | false =>
                            rw [hlt2] at HLE
                            replace HLE := Lib.hid HLE
                            have HN := Lib.hid (HBE.out.keep HWX.out (.inr ⟨hbn, fun hs => by
                              rcases hs with hs | ⟨_, hs⟩
                              · have := HLQ.out; omega
                              · rw [hlt2] at hs; cases hs⟩))
                            clear hix hibx hwx hb hlt2
                            go_wp2_with fail
                            refine HLE.out.mono ?_; rintro e w7 ⟨rfl, q7, rfl⟩
                            have HB7 := Lib.hid (below_drewN2 HB6.out q7)
                            have HIB7 : Hid (IRow (w6.drewN q7) (w6.drewN q7).heap.size (.slice BA b.length bcap) (zi b)) := Lib.hid HIBX.out
                            go_wp2_with fail
                            go_roundw
                            case rel => exact ⟨j + 1, b, by go_num, by omega, HN.out, HIB7.out, HB7.out⟩
                            case measure => simp [intOf]; omega
                        · have g4 : ((x.length : Int) == (b.length : Int)) = false := by rw [beq_eq_false_iff_ne]; omega
                          have g4n : (x.length == b.length) = false := by rw [beq_eq_false_iff_ne]; exact hlq
                          have HN := Lib.hid (HBE.out.keep HWX.out (.inr ⟨hbn, fun hs => by rcases hs with hs | ⟨hs, _⟩ <;> omega⟩))
                          clear hix hibx hwx hb HLE
                          go_wp2_with fail
                          go_roundw
                          case rel => exact ⟨j + 1, b, by go_num, by omega, HN.out, HIBX.out, HB6.out⟩
                          case measure => simp [intOf]; omega
                  · have g1 : decide ((0 : Int) < x.length) = false := by rw [decide_eq_false_iff_not]; omega
                    have g1n : decide (0 < x.length) = false := by rw [decide_eq_false_iff_not]; omega
                    have HN := Lib.hid (HBE.out.keep HWX.out (.inl (List.eq_nil_of_length_eq_zero (by omega))))
                    clear hix hibx hwx hb HLE
                    go_wp2_with fail
                    go_roundw
                    case rel => exact ⟨j + 1, b, by go_num, by omega, HN.out, HIBX.out, HB6.out⟩
                    case measure => simp [intOf]; omega
            · obtain rfl : N = j := by omega
              subst hbs
              by_cases hb0 : 0 < b.length
              · have g1 : (0 : Int) < b.length := by omega
                have HF : Hid (PPost (LoopIs (N : Int) l) w (.returned (.slice BA b.length bcap)) wr) := Lib.hid ⟨_, b, rfl, hib, HEND.out _ ((hbest.some HA.out (List.length_pos_iff.1 hb0) HKK.out).ok HA.out hlt HNO.out), hB⟩
                clear hbest hib hB
                go_wp2_with fail
                go_ret
                exact HF.out
              · have g1 : decide ((0 : Int) < b.length) = false := by rw [decide_eq_false_iff_not]; omega
                have g1n : decide (0 < b.length) = false := by rw [decide_eq_false_iff_not]; omega
                have hbe : b = [] := List.eq_nil_of_length_eq_zero (by omega)
                have HN : Hid (∀ u, u < k + 1 → NoLoop (toA l) u) := Lib.hid (fun u hu => by
                  by_cases e : u = k
                  · rw [e]; exact BestOk.none HA.out (hbe ▸ hbest) HKK.out
                  · exact HNO.out u (by omega))
                have HB2 := Lib.hid hB
                clear hbest hib hB hbe
                go_wp2_with fail
                go_roundw
                case rel => exact ⟨k + 1, by go_num, by omega, HN.out, HB2.out⟩
                case measure => simp [intOf]; omega
      · obtain rfl : N = k := by omega
        have HF : Hid (PPost (LoopIs (N : Int) l) w (.returned (.slice none 0 0)) wr) := Lib.hid ⟨_, [], rfl, irow_nil _ _, HEND.out _ ⟨N, ⟨Nat.le_refl _, fun h => by omega, fun u hu ho => absurd ho (hno u hu).off⟩, .inl ⟨rfl, rfl⟩⟩, hB⟩
        clear hno hB hk
        go_wp2_with fail
        go_ret
        exact HF.out
end Go.Proofs.Ytcljgpgdbjpemaa
