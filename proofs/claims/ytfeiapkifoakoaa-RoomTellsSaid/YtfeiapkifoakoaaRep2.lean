/-
  slices.Replace of spans: in the middle.
-/
import Derived.Test.YtfeiapkifoakoaaRep
namespace Go.Proofs.Ytfeiapkifoakoaa
set_option linter.unusedVariables false
set_option linter.unusedSimpArgs false
open Go.RowKit

set_option maxRecDepth 100000 in
set_option maxHeartbeats 0 in
/-- There is room, and what is put in fits into what is taken out. -/
theorem replace_fits (base g cap cu i j m d : Nat) (B : Option Addr) (cur : List Value) (l q : List Sp) (w : World) (hwl : ∀ s ∈ l, s.wf) (hwq : ∀ s ∈ q, s.wf) (hn : l.length = j + d) (hm : q.length = m) (hn2 : j + d ≤ 500) (hm2 : m ≤ 300) (hi : i < j) (hd : 0 < d)
    (hb : base ≤ g) (hbs : base ≤ w.heap.size) (hc : Cells w g cur) (h2 : cap ≤ maxLen) (h3 : cur.length = cap * 2) (h4 : cur.take ((j + d) * 2) = sc l) (hnc : j + d ≤ cap) (hfit : i + m ≤ j) (hu : USrc w g B q) :
    Calls Try.prog 25 #[.slice (some ⟨g, 0, none⟩) (j + d) cap, .int .i64 i, .int .i64 ((j : Nat) : Int), .slice B m cu] w (SplPost base (l.take i ++ q ++ l.drop j) w) := by
  have HU := Lib.hid hu
  have hlq : (sc q).length = m * 2 := by rw [sc_length]; omega
  have hlx : (sc (l.drop j)).length = d * 2 := by rw [sc_length, List.length_drop]; omega
  have hSrc : ∀ w', Cells w' g (splice cur (i * 2) (sc q)) → ∀ x v, (sc (l.drop j))[x]? = some v → w'.cell? ((⟨g, j * 2, none⟩ : Addr).add x) = some v := fun w' hc' x v hx => by
    rw [Addr.add_lit, hc'.cell, getElem?_splice (by omega), if_neg (by omega), if_neg (by omega)]
    rw [← sc_drop, List.getElem?_drop, ← h4, List.getElem?_take] at hx
    split at hx
    · exact hx
    · cases hx
  have HF : Hid ((splice (splice cur (i * 2) (sc q)) (i * 2 + m * 2) (sc (l.drop j))).take ((i + m + d) * 2) = sc (l.take i ++ q ++ l.drop j)) := by
    show _ = _
    rw [show (i + m + d) * 2 = i * 2 + m * 2 + (sc (l.drop j)).length by rw [hlx]; omega, spl_b hlq (by rw [hlx]; omega), sc_append, sc_append]
    congr 2
    rw [← sc_take, ← h4, List.take_take, show min (i * 2) ((j + d) * 2) = i * 2 by omega]
  have HLEN : Hid ((l.take i ++ q ++ l.drop j).length = i + m + d) := by show _ = _; simp; omega
  have HWF : Hid (∀ s ∈ l.take i ++ q ++ l.drop j, s.wf) := fun s hs => by
    rcases List.mem_append.1 hs with h | h
    · rcases List.mem_append.1 h with h | h
      · exact hwl s (List.mem_of_mem_take h)
      · exact hwq s h
    · exact hwl s (List.mem_of_mem_drop h)
  have ho1 := sc_one (l.drop j)
  have ho2 := sc_one q
  unfold USrc at HU
  obtain ⟨X, hX⟩ : ∃ X, sc (l.drop j) = X := ⟨_, rfl⟩
  obtain ⟨Y, hY⟩ : ∃ Y, sc q = Y := ⟨_, rfl⟩
  rw [hX] at hSrc hlx ho1 HF
  rw [hY] at HU hSrc hlq ho2 HF
  obtain ⟨r, hr⟩ : ∃ r, l.take i ++ q ++ l.drop j = r := ⟨_, rfl⟩
  rw [hr] at HF HLEN HWF ⊢
  have HS := Lib.hid hSrc
  have HLX := Lib.hid hlx; have HLQ := Lib.hid hlq; have HO1 := Lib.hid ho1; have HO2 := Lib.hid ho2
  have HC := Lib.hid hc; have H3 := Lib.hid h3
  have h2' : cap ≤ 9223372036854775807 := by unfold maxLen at h2; omega
  clear hX hY hr hwl hwq hn hm h4 hlx hlq ho1 ho2 hc h3 hu hSrc
  have z1 : ¬ ((i : Int) = (j : Int)) := by omega
  have z2 : ¬ ((j : Int) = (j : Int) + (d : Int)) := by omega
  have z3 : (i : Int) ≤ (j : Int) := by omega
  have z4 : (j : Int) ≤ (j : Int) + (d : Int) := by omega
  have y7 : ¬ (cap = i) := by omega
  have y8 : ¬ (cap = j) := by omega
  have y9 : ¬ (cap = i + m) := by omega
  have s1 : IntKind.i64.wrap ((i : Int) + (m : Int)) = (i : Int) + (m : Int) := IntWalk.i64_in _ (by omega)
  have s2 : IntKind.i64.wrap ((i : Int) + (m : Int) + (d : Int)) = (i : Int) + (m : Int) + (d : Int) := IntWalk.i64_in _ (by omega)
  have s3 : (0 : Int) ≤ (i : Int) + (m : Int) := by omega
  have s4 : ((i : Int) + (m : Int)).toNat = i + m := by omega
  have s5 : (0 : Int) ≤ (i : Int) + (m : Int) + (d : Int) := by omega
  have s6 : ((i : Int) + (m : Int) + (d : Int)).toNat = i + m + d := by omega
  have s7 : (i : Int) + (m : Int) ≤ (j : Int) := by omega
  have s8 : ¬ ((cap : Int) < (i : Int) + (m : Int) + (d : Int)) := by omega
  have s9 : (i : Int) ≤ (j : Int) + (d : Int) := by omega
  have t1 : (i : Int) + (m : Int) ≤ (i : Int) + (m : Int) + (d : Int) := by omega
  have t2 : (i : Int) ≤ (i : Int) + (m : Int) + (d : Int) := by omega
  by_cases hct : cap = i + m + d
  · have y10 : (i : Int) + (m : Int) + (d : Int) ≤ (j : Int) + (d : Int) := by omega
    have y12 : (i : Int) + (m : Int) ≤ (j : Int) + (d : Int) := by omega
    have y13 : j ≤ i + m := by omega
    subst hct
    go_enter Try.func25, Try.ntmps25
    go_wp2_with fail
    go_quiet (fail)
    go_wp2_with (refine wpList_copy_sp _ rfl _ _ rfl (some ⟨g, i * 2, none⟩) B (i + m + d - i) (i + m + d - i) m cu g (i * 2) cur Y HC.out rfl rfl (by rw [HLQ.out]; show _ = min _ _ * 2; omega) (fun h0 => ⟨rfl, HU.out _ ⟨rfl, rfl, rfl, Nat.le_refl _, fun _ _ _ => rfl⟩ h0⟩) (by rw [HLQ.out, H3.out]; omega) HO2.out ?_; intro w1 HD1 hG1; have HG1 : Hid (w.grownBy w1 (some g)) := ⟨hG1.os, hG1.tape, hG1.output, hG1.size, hG1.block⟩; clear hG1)
    go_region_law (refine step_copy_sp rfl _ _ rfl (some ⟨g, (i + m) * 2, none⟩) (some ⟨g, j * 2, none⟩) (i + m + d - (i + m)) (i + m + d - (i + m)) d (i + m + d - j) g (i * 2 + m * 2) _ X HD1.out (by simp [Act.eval, Act.put]; omega) (by first | (simp [Act.eval, Act.put]; done) | (simp [Act.eval, Act.put]; omega)) (by rw [HLX.out]; show _ = min _ _ * 2; omega) (fun _ => ⟨by rw [Nat.add_mul], _, rfl, HS.out _ HD1.out⟩) (by rw [length_splice _ _ _ (by rw [HLQ.out, H3.out]; omega), HLX.out, H3.out]; omega) HO1.out ?_; intro w2 HD2 hG2)
    have HG2 : Hid (w1.grownBy w2 (some g)) := ⟨hG2.os, hG2.tape, hG2.output, hG2.size, hG2.block⟩
    clear hG2
    have HL2 : Hid ((splice (splice cur (i * 2) Y) (i * 2 + m * 2) X).length = (i + m + d) * 2) := by
      show _ = _
      rw [length_splice _ _ _ ?_, length_splice _ _ _ ?_]
      · exact H3.out
      · rw [HLQ.out, H3.out]; omega
      · rw [length_splice _ _ _ (by rw [HLQ.out, H3.out]; omega), HLX.out, H3.out]; omega
    go_wp2_with (refine wpList_clear_sp _ (by rfl) _ (by rfl) (some ⟨g, 0, none⟩) g ((i + m + d) * 2) (j + d - (i + m + d)) 0 _ HD2.out (by first | rfl | (simp [Act.eval, Act.put]; done) | (simp [Act.eval, Act.put]; omega)) (fun h0 => by first | rfl | (exfalso; omega)) (by rw [HL2.out]; omega) ?_; intro w3 zs HZ HD3 hG3; have HG3 := Lib.hid hG3; clear hG3)
    go_ret
    refine ⟨_, rfl, Own.mkN HLEN.out HWF.out (by omega) hb HD3.out (by omega) h2 ?_ ?_, ?_⟩
    · rw [length_splice _ _ _ (by rw [HZ.out, HL2.out]; omega)]; exact HL2.out
    · rw [spl_c (Nat.le_refl _) (by rw [HZ.out, HL2.out]; omega)]; exact HF.out
    · exact below_grown (grown_trans (grown_trans HG1.out HG2.out) HG3.out) hbs hb
  · have y10 : ¬ (cap = i + m + d) := hct
    have y11 : (i : Int) + (m : Int) + (d : Int) ≤ (j : Int) + (d : Int) := by omega
    have y12 : (i : Int) + (m : Int) ≤ (j : Int) + (d : Int) := by omega
    clear hct
    go_enter Try.func25, Try.ntmps25
    go_wp2_with fail
    go_quiet (fail)
    go_wp2_with (refine wpList_copy_sp _ rfl _ _ rfl (some ⟨g, i * 2, none⟩) B (i + m + d - i) (cap - i) m cu g (i * 2) cur Y HC.out rfl rfl (by rw [HLQ.out]; show _ = min _ _ * 2; omega) (fun h0 => ⟨rfl, HU.out _ ⟨rfl, rfl, rfl, Nat.le_refl _, fun _ _ _ => rfl⟩ h0⟩) (by rw [HLQ.out, H3.out]; omega) HO2.out ?_; intro w1 HD1 hG1; have HG1 : Hid (w.grownBy w1 (some g)) := ⟨hG1.os, hG1.tape, hG1.output, hG1.size, hG1.block⟩; clear hG1)
    go_region_law (refine step_copy_sp rfl _ _ rfl (some ⟨g, (i + m) * 2, none⟩) (some ⟨g, j * 2, none⟩) (i + m + d - (i + m)) (cap - (i + m)) d (cap - j) g (i * 2 + m * 2) _ X HD1.out (by simp [Act.eval, Act.put]) (by simp [Act.eval, Act.put]) (by rw [HLX.out]; show _ = min _ _ * 2; omega) (fun _ => ⟨by rw [Nat.add_mul], _, rfl, HS.out _ HD1.out⟩) (by rw [length_splice _ _ _ (by rw [HLQ.out, H3.out]; omega), HLX.out, H3.out]; omega) HO1.out ?_; intro w2 HD2 hG2)
    have HG2 : Hid (w1.grownBy w2 (some g)) := ⟨hG2.os, hG2.tape, hG2.output, hG2.size, hG2.block⟩
    clear hG2
    have HL2 : Hid ((splice (splice cur (i * 2) Y) (i * 2 + m * 2) X).length = cap * 2) := by
      show _ = _
      rw [length_splice _ _ _ ?_, length_splice _ _ _ ?_]
      · exact H3.out
      · rw [HLQ.out, H3.out]; omega
      · rw [length_splice _ _ _ (by rw [HLQ.out, H3.out]; omega), HLX.out, H3.out]; omega
    go_wp2_with (refine wpList_clear_sp _ (by rfl) _ (by rfl) (some ⟨g, (i + m + d) * 2, none⟩) g ((i + m + d) * 2) (j + d - (i + m + d)) (cap - (i + m + d)) _ HD2.out (by first | rfl | simp [Act.eval, Act.put]) (fun h0 => by first | rfl | (exfalso; omega)) (by rw [HL2.out]; omega) ?_; intro w3 zs HZ HD3 hG3; have HG3 := Lib.hid hG3; clear hG3)
    go_ret
    refine ⟨_, rfl, Own.mkN HLEN.out HWF.out (by omega) hb HD3.out (by omega) h2 ?_ ?_, ?_⟩
    · rw [length_splice _ _ _ (by rw [HZ.out, HL2.out]; omega)]; exact HL2.out
    · rw [spl_c (Nat.le_refl _) (by rw [HZ.out, HL2.out]; omega)]; exact HF.out
    · exact below_grown (grown_trans (grown_trans HG1.out HG2.out) HG3.out) hbs hb
end Go.Proofs.Ytfeiapkifoakoaa
