/-
  The walk of the law DiskArms.
-/
import Derived.Test.YtkhmaaneekdifaaDarm
import Derived.Test.YtkhmaaneekdifaaDsm
import Derived.Test.YtkhmaaneekdifaaDs
namespace Go.Proofs.Ytkhmaaneekdifaa.diskArms
set_option linter.unusedVariables false
set_option linter.unusedSimpArgs false
open Go.RowKit

def tots (l : List ByteArray) : Nat := (l.map ByteArray.size).sum
theorem tots_snoc (l : List ByteArray) (k : Nat) (h : k < l.length) : tots (l.take (k + 1)) = tots (l.take k) + (gs l k).size := by
  unfold tots
  rw [gs_get l k h, List.take_succ_eq_append_getElem h, List.map_append, List.sum_append]; simp
theorem tots_le (l : List ByteArray) (h : ∀ t ∈ l, t.size ≤ 140737488351232) : tots l ≤ l.length * 140737488351232 := by
  induction l with
  | nil => simp [tots]
  | cons a l ih =>
    have h1 := ih (fun x hx => h x (by simp [hx]))
    have h2 := h a (by simp)
    have : tots (a :: l) = a.size + tots l := by simp [tots]
    rw [this, List.length_cons]; omega
theorem tots_take_le (l : List ByteArray) (k : Nat) : tots (l.take k) ≤ tots l := by
  conv => rhs; rw [← List.take_append_drop k l]
  unfold tots
  rw [List.map_append, List.sum_append]; omega
def SumRel (l : List ByteArray) (x i : Value) : Prop := ∃ (k : Nat) (z : Int), k ≤ l.length ∧ i = .int .i64 k ∧ x = .int .i64 z ∧ Hid (l.length ≤ 50 → z = tots (l.take k))
def LoRel (W : World) (d N : Nat) (keep : List Int) (l : List ByteArray) (x11 x12 x13 x14 : Value) (wl : World) : Prop :=
  ∃ (k c : Nat) (safe rest : ByteArray) (s : Dk), x11 = .string safe ∧ x12 = .string rest ∧ x13 = .int .i64 c ∧ x14 = .int .i64 k ∧ k ≤ l.length ∧ safe.size + rest.size = tots (l.take k) ∧ c ≤ 2 * k ∧ s.pend.length ≤ tots (l.take k) ∧ Dsk W wl d s ∧ (ArmUp N keep c safe rest s ∨ (c = N ∧ ArmDn keep safe rest s))

set_option maxRecDepth 100000 in
set_option maxHeartbeats 32000000 in
theorem walk (W : World) (v0 : Value) (l : List ByteArray) (a1 : Int) (v2 : Value) (keep : List Int) (w0 : OpenStrs W v0 l) (w1 : (Lit.int .i64 a1).wf = true) (w2 : IRow W W.heap.size v2 keep ∧ ∀ z ∈ keep, -9223372036854775808 ≤ z ∧ z ≤ 9223372036854775807) :
    Calls Try.prog 8 #[v0, .int .i64 a1, v2] W fun e w' => e = .returned (.bool true) ∧ Below W.heap.size W w' := by
  obtain ⟨hsr, hts, hlen⟩ := w0
  replace w1 := int_wf w1
  replace w2 := w2.1
  obtain ⟨A, cap, rfl, hA⟩ := hsr
  have hsr : StrRow W W.heap.size (.slice A l.length cap) l := ⟨A, cap, rfl, hA⟩
  obtain ⟨A2, cap2, rfl, hc1, hc2, hk2⟩ := w2
  have hkr : IRow W W.heap.size (.slice A2 keep.length cap2) keep := ⟨A2, cap2, rfl, hc1, hc2, hk2⟩
  have hkm : keep.length ≤ 9223372036854775807 := by unfold maxLen at hc2; omega
  have HS := Lib.hid (small6 W)
  have HSR : Hid (∀ w', Below W.heap.size W w' → StrRow w' w'.heap.size (.slice A l.length cap) l) := Lib.hid fun w' hb => hsr.keep hb
  have HKR : Hid (∀ w', Below W.heap.size W w' → IRow w' w'.heap.size (.slice A2 keep.length cap2) keep) := Lib.hid fun w' hb => hkr.keep hb
  have HTS := Lib.hid hts
  clear hA hsr hk2 hkr hts hc1 hc2
  go_enter Try.func8, Try.ntmps8
  go_wp2_with fail
  refine HS.out.mono ?_; rintro e w2 ⟨rfl, hb2⟩
  have HN := Lib.hid (dNew w2)
  have HB2 := Lib.hid hb2
  clear hb2 HS
  go_wp2_with fail
  refine HN.out.mono ?_; rintro e w3 ⟨d, rfl, h3⟩
  have H := Lib.hid (h3.base HB2.out)
  clear h3 HN HB2
  go_wp2_with fail
  go_loop [9, 10] (fun x i => SumRel l x i) (fun _ i => l.length - (intOf i).toNat)
  case atStart => exact ⟨0, 0, by omega, rfl, rfl, Lib.hid (fun _ => rfl)⟩
  case round =>
    obtain ⟨k, z, hk, rfl, rfl, HZ⟩ := hrel
    by_cases hlt : k < l.length
    · obtain ⟨A', cap', he, hA⟩ := HSR.out w3 H.out.2
      injection he with he1 _ he2
      subst he1; subst he2
      obtain ⟨b, off, rfl, hb, hc⟩ := hA (by omega)
      have c0 := hc k hlt
      have hmem : gs l k ∈ l := by rw [gs_get l k hlt]; exact List.getElem_mem hlt
      have ht := HTS.out _ hmem
      have HSN := Lib.hid (tots_snoc l k hlt)
      have HTL : Hid (tots (l.take (k + 1)) ≤ (k + 1) * 140737488351232) := by
        have := tots_le (l.take (k + 1)) (fun a ha => HTS.out a (List.mem_of_mem_take ha))
        rw [List.length_take, Nat.min_eq_left (by omega)] at this
        exact Lib.hid this
      obtain ⟨t, htt⟩ : ∃ t, gs l k = t := ⟨_, rfl⟩
      rw [htt] at c0 ht HSN
      obtain ⟨z1, hz1⟩ : ∃ z1, IntKind.i64.wrap (z + (t.size : Int)) = z1 := ⟨_, rfl⟩
      have HN : Hid (l.length ≤ 50 → z1 = tots (l.take (k + 1))) := Lib.hid fun h50 => by
        have h1 := HZ.out h50
        have h2 := HSN.out
        have h3 := HTL.out
        rw [IntWalk.i64_in _ (by omega)] at hz1
        omega
      have q1 : (k : Int) < l.length := by omega
      clear hA hc hmem htt hb
      have hz2 := hz1
      rw [IntKind.wrap_i64] at hz2
      go_wp2_with fail
      clear hz1
      go_round
      case rel => exact ⟨k + 1, z1, by omega, by go_num, rfl, HN⟩
      case measure => simp [intOf]; omega
    · obtain rfl : k = l.length := by omega
      rw [List.take_length] at HZ
      by_cases hL : 50 < l.length
      · have g1 : decide (50 < (l.length : Int)) = true := by rw [decide_eq_true_iff]; omega
        go_wp2_with fail
        go_ret
        exact ⟨rfl, H.out.2⟩
      · have g1 : decide (50 < (l.length : Int)) = false := by rw [decide_eq_false_iff_not]; omega
        have hzz := HZ.out (by omega)
        have HZZ := Lib.hid hzz
        clear HZ
        by_cases hS : 20000 < z
        · have g2 : decide (20000 < z) = true := decide_eq_true hS
          clear hzz
          go_wp2_with fail
          go_ret
          exact ⟨rfl, H.out.2⟩
        · have g2 : decide (20000 < z) = false := decide_eq_false hS
          have htot : tots l ≤ 20000 := by omega
          clear hzz
          by_cases hn1 : a1 < 1
          · have g3 : decide (a1 < 1) = true := decide_eq_true hn1
            go_wp2_with fail
            go_ret
            exact ⟨rfl, H.out.2⟩
          · have g3 : decide (a1 < 1) = false := decide_eq_false hn1
            by_cases hn2 : 100 < a1
            · have g4 : decide (100 < a1) = true := decide_eq_true hn2
              go_wp2_with fail
              go_ret
              exact ⟨rfl, H.out.2⟩
            · have g4 : decide (100 < a1) = false := decide_eq_false hn2
              by_cases hk1 : 1000 < keep.length
              · have g5 : decide (1000 < (keep.length : Int)) = true := by rw [decide_eq_true_iff]; omega
                go_wp2_with fail
                go_ret
                exact ⟨rfl, H.out.2⟩
              · have g5 : decide (1000 < (keep.length : Int)) = false := by rw [decide_eq_false_iff_not]; omega
                obtain ⟨N, rfl⟩ : ∃ N : Nat, a1 = N := ⟨a1.toNat, by omega⟩
                have HST := Lib.hid (arm_start N keep (by omega))
                have HTOT := Lib.hid htot
                clear htot hL hS
                have HC := Lib.hid (dArm H.out N (by omega) _ keep (HKR.out _ H.out.2) (by omega))
                go_wp2_with fail
                refine HC.out.mono ?_; rintro e w4 ⟨rfl, hx⟩
                have HQ := Lib.hid hx; clear hx HC
                go_wp2_with fail
                go_loopw [11, 12, 13, 14, 15, 16] (fun x11 x12 x13 x14 _ _ wl => LoRel W d N keep l x11 x12 x13 x14 wl) (fun _ _ _ i _ _ _ => l.length - (intOf i).toNat)
                case atStart => exact ⟨0, 0, bs [], bs [], _, rfl, rfl, rfl, rfl, by omega, by rw [bs_size]; rfl, by omega, Nat.zero_le _, HQ.out, .inl HST.out⟩
                case round =>
                  obtain ⟨k, c, safe, rest, s, rfl, rfl, rfl, rfl, hk, hsz, hck, hpn, hD, hcase⟩ := hrel
                  obtain ⟨wo, rfl⟩ : ∃ wo : World, wo = wr := ⟨_, rfl⟩
                  have H1 := Lib.hid hD
                  clear hD HQ
                  have hts1 := tots_take_le l k
                  have htt := HTOT.out
                  by_cases hlt : k < l.length
                  · have q1 : (k : Int) < l.length := by omega
                    rcases hcase with hup | ⟨rfl, hdn⟩
                    · have HUP := Lib.hid hup
                      clear hup
                      have HC := Lib.hid (dDown H1.out)
                      rw [HUP.out.dn] at HC
                      go_wp2_with fail
                      refine HC.out.mono ?_; rintro e wy ⟨rfl, rfl⟩
                      clear HC
                      obtain ⟨A', cap', he, hA⟩ := HSR.out wo H1.out.2
                      injection he with he1 _ he2
                      subst he1; subst he2
                      obtain ⟨b, off, rfl, hb, hc⟩ := hA (by omega)
                      have c0 := hc k hlt
                      have HSN := Lib.hid (tots_snoc l k hlt)
                      have hts2 := tots_take_le l (k + 1)
                      obtain ⟨t, htt2⟩ : ∃ t, gs l k = t := ⟨_, rfl⟩
                      rw [htt2] at c0 HSN
                      have HT : Hid (t = gs l k) := Lib.hid htt2.symm
                      have hsn := HSN.out
                      clear hA hc htt2
                      have hW := arm_write HUP.out t (by omega)
                      have hcw := HUP.out.cn
                      have HWP := Lib.hid (Dk.write_pend s 0 ((safe.size : Int) + rest.size) t)
                      have HCW := Lib.hid (fun f a (x : ByteArray) h => dWrite H1.out f a x h)
                      have e1 := fun w => run_string_add_sum (P := Try.prog) (w := w) rest t (by omega)
                      have HE2 := Lib.hid (fun w => run_string_add_sum (P := Try.prog) (w := w) safe (rest ++ t) (by rw [size_app]; omega))
                      have hszn : safe.size + (rest ++ t).size = tots (l.take (k + 1)) := by rw [size_app]; omega
                      have HSZN := Lib.hid hszn
                      clear hszn
                      have s1 : (safe.size : Int) + (rest.size : Int) ≤ 20000 := by omega
                      have HPN := Lib.hid hpn
                      rcases hW with ⟨hc1, x, hx1, hx2⟩ | ⟨hc1, x, hx1, hx2⟩
                      · have HC := Lib.hid (HCW.out 0 ((safe.size : Int) + rest.size) t (by omega))
                        rw [hx1] at HC HWP
                        have HX := Lib.hid hx2
                        have HWP2 : Hid (x.pend.length ≤ tots (l.take (k + 1))) := Lib.hid (by have h1 := HWP.out; simp only at h1; omega)
                        have f1 : ((c : Int) + 1 == (N : Int)) = false := by simp; omega
                        have f2 : decide ((c : Int) + 1 < (N : Int)) = true := by rw [decide_eq_true_iff]; omega
                        have f3 : ¬ (c : Int) + 1 = (N : Int) := by omega
                        clear hx1 hx2 hsn hts2 HCW HUP HWP
                        go_wp2_with fail
                        refine HC.out.mono ?_; rintro e w5 ⟨rfl, hy⟩
                        have H2 : Hid (Dsk W w5 d x) := Lib.hid hy
                        clear hy HC
                        clear c0
                        have c1 : World.cell? w5 ⟨b, off + k, none⟩ = some (.string t) := by
                          obtain ⟨A', cap', he, hA⟩ := HSR.out w5 H2.out.2
                          injection he with he1 _ he2
                          obtain ⟨b', off', he3, _, hc⟩ := hA (by omega)
                          rw [he3] at he1
                          injection he1 with he1
                          injection he1 with e1 e2 e3
                          rw [e1, e2, HT.out]; exact hc k hlt
                        by_cases hp : k % 2 = 1
                        · have p1 : ((k : Int) % 2 == 1) = true := by simp; omega
                          have p2 : (k : Int) % 2 = 1 := by omega
                          go_wp2_with fail
                          have HC := Lib.hid (dDown H2.out)
                          rw [HX.out.dn] at HC
                          refine HC.out.mono ?_; rintro e wy ⟨rfl, rfl⟩
                          clear HC c1
                          have hFl := arm_flush HX.out
                          have HFP := Lib.hid (Dk.flush_pend x 0)
                          rcases hFl with ⟨hc2, y, hy1, hy2⟩ | ⟨hc2, y, hy1, hy2⟩
                          · have HC := Lib.hid (dFlush H2.out 0)
                            rw [hy1] at HC HFP
                            have HY := Lib.hid hy2
                            have HYP : Hid (y.pend.length ≤ tots (l.take (k + 1))) := Lib.hid (by have h1 := HFP.out; have h2 := HWP2.out; simp only at h1; omega)
                            have f4 : ((c : Int) + 1 + 1 == (N : Int)) = false := by simp; omega
                            have f5 : decide ((c : Int) + 1 + 1 < (N : Int)) = true := by rw [decide_eq_true_iff]; omega
                            have f6 : ¬ (c : Int) + 1 + 1 = (N : Int) := by omega
                            have e2 := HE2.out
                            clear hy1 hy2
                            go_wp2_with fail
                            refine HC.out.mono ?_; rintro e w6 ⟨rfl, hy⟩
                            have H3 : Hid (Dsk W w6 d y) := Lib.hid hy; clear hy HC
                            go_wp2_with fail
                            go_roundw
                            case rel => exact ⟨k + 1, c + 2, safe ++ (rest ++ t), bs [], y, rfl, rfl, by go_num, by go_num, by omega, by rw [bs_size, size_app]; exact HSZN.out, by omega, HYP.out, H3.out, .inl HY.out⟩
                            case measure => simp [intOf]; omega
                          · have HC := Lib.hid (dFlush H2.out 0)
                            rw [hy1] at HC HFP
                            have HY := Lib.hid hy2
                            have HYP : Hid (y.pend.length ≤ tots (l.take (k + 1))) := Lib.hid (by have h1 := HFP.out; have h2 := HWP2.out; simp only at h1; omega)
                            have f4 : ((c : Int) + 1 + 1 == (N : Int)) = true := by simp; omega
                            have f5 : decide ((c : Int) + 1 + 1 < (N : Int)) = false := by rw [decide_eq_false_iff_not]; omega
                            have f6 : (c : Int) + 1 + 1 = (N : Int) := by omega
                            clear hy1 hy2
                            go_wp2_with fail
                            refine HC.out.mono ?_; rintro e w6 ⟨rfl, hy⟩
                            have H3 : Hid (Dsk W w6 d y) := Lib.hid hy; clear hy HC
                            go_wp2_with fail
                            go_roundw
                            case rel => exact ⟨k + 1, c + 2, safe, rest ++ t, y, rfl, rfl, by go_num, by go_num, by omega, HSZN.out, by omega, HYP.out, H3.out, .inr ⟨by omega, HY.out⟩⟩
                            case measure => simp [intOf]; omega
                        · have p1 : ((k : Int) % 2 == 1) = false := by simp; omega
                          have p2 : ¬ (k : Int) % 2 = 1 := by omega
                          go_wp2_with fail
                          go_roundw
                          case rel => exact ⟨k + 1, c + 1, safe, rest ++ t, x, rfl, rfl, by go_num, by go_num, by omega, HSZN.out, by omega, HWP2.out, H2.out, .inl HX.out⟩
                          case measure => simp [intOf]; omega
                      · have HC := Lib.hid (HCW.out 0 ((safe.size : Int) + rest.size) t (by omega))
                        rw [hx1] at HC HWP
                        have HX := Lib.hid hx2
                        have HWP2 : Hid (x.pend.length ≤ tots (l.take (k + 1))) := Lib.hid (by have h1 := HWP.out; simp only at h1; omega)
                        have f1 : ((c : Int) + 1 == (N : Int)) = true := by simp; omega
                        have f2 : decide ((c : Int) + 1 < (N : Int)) = false := by rw [decide_eq_false_iff_not]; omega
                        have f3 : (c : Int) + 1 = (N : Int) := by omega
                        clear hx1 hx2 hsn hts2 HCW HUP HWP
                        go_wp2_with fail
                        refine HC.out.mono ?_; rintro e w5 ⟨rfl, hy⟩
                        have H2 : Hid (Dsk W w5 d x) := Lib.hid hy
                        clear hy HC
                        clear c0
                        have c1 : World.cell? w5 ⟨b, off + k, none⟩ = some (.string t) := by
                          obtain ⟨A', cap', he, hA⟩ := HSR.out w5 H2.out.2
                          injection he with he1 _ he2
                          obtain ⟨b', off', he3, _, hc⟩ := hA (by omega)
                          rw [he3] at he1
                          injection he1 with he1
                          injection he1 with e1 e2 e3
                          rw [e1, e2, HT.out]; exact hc k hlt
                        by_cases hp : k % 2 = 1
                        · have p1 : ((k : Int) % 2 == 1) = true := by simp; omega
                          have p2 : (k : Int) % 2 = 1 := by omega
                          go_wp2_with fail
                          have HC := Lib.hid (dDown H2.out)
                          rw [HX.out.dn] at HC
                          refine HC.out.mono ?_; rintro e wy ⟨rfl, rfl⟩
                          clear HC c1
                          go_wp2_with fail
                          go_roundw
                          case rel => exact ⟨k + 1, c + 1, safe, rest ++ t, x, rfl, rfl, by go_num, by go_num, by omega, HSZN.out, by omega, HWP2.out, H2.out, .inr ⟨by omega, HX.out⟩⟩
                          case measure => simp [intOf]; omega
                        · have p1 : ((k : Int) % 2 == 1) = false := by simp; omega
                          have p2 : ¬ (k : Int) % 2 = 1 := by omega
                          go_wp2_with fail
                          go_roundw
                          case rel => exact ⟨k + 1, c + 1, safe, rest ++ t, x, rfl, rfl, by go_num, by go_num, by omega, HSZN.out, by omega, HWP2.out, H2.out, .inr ⟨by omega, HX.out⟩⟩
                          case measure => simp [intOf]; omega
                    · have HDN := Lib.hid hdn
                      clear hdn
                      have HC := Lib.hid (dDown H1.out)
                      rw [HDN.out.dn] at HC
                      go_wp2_with fail
                      refine HC.out.mono ?_; rintro e wy ⟨rfl, rfl⟩
                      clear HC
                      have HC := Lib.hid (dDown H1.out)
                      rw [HDN.out.dn] at HC
                      go_wp2_with fail
                      refine HC.out.mono ?_; rintro e wy ⟨rfl, rfl⟩
                      clear HC
                      have HC := Lib.hid (dStart H1.out)
                      go_wp2_with fail
                      refine HC.out.mono ?_; rintro e wa ⟨rfl, hx⟩
                      have H2 := Lib.hid hx; clear hx HC
                      obtain ⟨R, hR1, hR2, hR3, hR4, hR5⟩ := HDN.out.ex
                      have HC := Lib.hid (dRead H2.out 0)
                      rw [hR1] at HC
                      have HR5 := Lib.hid hR5
                      have HR4 := Lib.hid hR4
                      have r1 : (safe.size : Int) ≤ (R.size : Int) := by omega
                      have r2 : (R.size : Int) ≤ (safe.size : Int) + (rest.size : Int) := by omega
                      have r3 : (0 : Int) ≤ (safe.size : Int) := by omega
                      have r4 : ((safe.size : Int)).toNat = safe.size := by omega
                      clear hR1 hR4 hR5
                      go_wp2_with fail
                      refine HC.out.mono ?_; rintro e wb ⟨rfl, hx⟩
                      have H3 := Lib.hid hx; clear hx HC
                      have r5 := HR4.out
                      by_cases hk0 : keep.length = 0
                      · have g7 : decide (0 < (keep.length : Int)) = false := by rw [decide_eq_false_iff_not]; omega
                        have g8 : decide ((keep.length : Int) > 0) = false := by rw [decide_eq_false_iff_not]; omega
                        obtain rfl := HR5.out (List.eq_nil_of_length_eq_zero hk0)
                        go_wp2_with fail
                        go_ret
                        exact ⟨by first | rfl | simp, H3.out.2⟩
                      · have g7 : decide (0 < (keep.length : Int)) = true := by rw [decide_eq_true_iff]; omega
                        have g8 : decide ((keep.length : Int) > 0) = true := by rw [decide_eq_true_iff]; omega
                        go_wp2_with fail
                        go_ret
                        exact ⟨by first | rfl | simp, H3.out.2⟩
                  · obtain rfl : k = l.length := by omega
                    rcases hcase with hup | ⟨rfl, hdn⟩
                    · have HUP := Lib.hid hup
                      have hcw := hup.cn
                      have f2 : decide ((c : Int) < (N : Int)) = true := by rw [decide_eq_true_iff]; omega
                      have e2 := fun w => run_string_add_sum (P := Try.prog) (w := w) safe rest (by omega)
                      clear hup
                      have HC := Lib.hid (dDown H1.out)
                      rw [HUP.out.dn] at HC
                      go_wp2_with fail
                      refine HC.out.mono ?_; rintro e wy ⟨rfl, rfl⟩
                      clear HC
                      have HC := Lib.hid (dRead H1.out 0)
                      rw [arm_read HUP.out] at HC
                      go_wp2_with fail
                      refine HC.out.mono ?_; rintro e wa ⟨rfl, hx⟩
                      have H2 := Lib.hid hx; clear hx HC
                      go_wp2_with fail
                      go_ret
                      exact ⟨rfl, H2.out.2⟩
                    · have HDN := Lib.hid hdn
                      clear hdn
                      have HC := Lib.hid (dDown H1.out)
                      rw [HDN.out.dn] at HC
                      go_wp2_with fail
                      refine HC.out.mono ?_; rintro e wy ⟨rfl, rfl⟩
                      clear HC
                      have HC := Lib.hid (dStart H1.out)
                      go_wp2_with fail
                      refine HC.out.mono ?_; rintro e wa ⟨rfl, hx⟩
                      have H2 := Lib.hid hx; clear hx HC
                      obtain ⟨R, hR1, hR2, hR3, hR4, hR5⟩ := HDN.out.ex
                      have HC := Lib.hid (dRead H2.out 0)
                      rw [hR1] at HC
                      have HR5 := Lib.hid hR5
                      have HR4 := Lib.hid hR4
                      have r1 : (safe.size : Int) ≤ (R.size : Int) := by omega
                      have r2 : (R.size : Int) ≤ (safe.size : Int) + (rest.size : Int) := by omega
                      have r3 : (0 : Int) ≤ (safe.size : Int) := by omega
                      have r4 : ((safe.size : Int)).toNat = safe.size := by omega
                      clear hR1 hR4 hR5
                      go_wp2_with fail
                      refine HC.out.mono ?_; rintro e wb ⟨rfl, hx⟩
                      have H3 := Lib.hid hx; clear hx HC
                      have r5 := HR4.out
                      by_cases hk0 : keep.length = 0
                      · have g7 : decide (0 < (keep.length : Int)) = false := by rw [decide_eq_false_iff_not]; omega
                        have g8 : decide ((keep.length : Int) > 0) = false := by rw [decide_eq_false_iff_not]; omega
                        obtain rfl := HR5.out (List.eq_nil_of_length_eq_zero hk0)
                        go_wp2_with fail
                        go_ret
                        exact ⟨by first | rfl | simp, H3.out.2⟩
                      · have g7 : decide (0 < (keep.length : Int)) = true := by rw [decide_eq_true_iff]; omega
                        have g8 : decide ((keep.length : Int) > 0) = true := by rw [decide_eq_true_iff]; omega
                        go_wp2_with fail
                        go_ret
                        exact ⟨by first | rfl | simp, H3.out.2⟩
end Go.Proofs.Ytkhmaaneekdifaa.diskArms
