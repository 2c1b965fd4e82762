/-
  slices.Replace of spans: in the middle, more than is taken out.
-/
import Derived.Test.YtfeiapkifoakoaaRep
namespace Go.Proofs.Ytfeiapkifoakoaa
set_option linter.unusedVariables false
set_option linter.unusedSimpArgs false
open Go.RowKit

set_option maxRecDepth 100000 in
set_option maxHeartbeats 0 in
/-- There is no room: a new row. -/
theorem replace_grow (base g cap g2 cap2 i j m d : Nat) (cur cur2 : List Value) (l q : List Sp) (w : World) (hwl : ∀ s ∈ l, s.wf) (hwq : ∀ s ∈ q, s.wf) (hn : l.length = j + d) (hm : q.length = m) (hn2 : j + d ≤ 500) (hm2 : m ≤ 300) (hm0 : 0 < m) (hi : i < j) (hd : 0 < d)
    (hb : base ≤ g) (hbs : base ≤ w.heap.size) (hc : Cells w g cur) (h2 : cap ≤ maxLen) (h3 : cur.length = cap * 2) (h4 : cur.take ((j + d) * 2) = sc l) (hnc : j + d ≤ cap) (hroom : cap < i + m + d)
    (hc2 : Cells w g2 cur2) (h6 : m * 2 ≤ cur2.length) (h5 : cur2.take (m * 2) = sc q) (hne : g2 ≠ g) :
    Calls Try.prog 25 #[.slice (some ⟨g, 0, none⟩) (j + d) cap, .int .i64 i, .int .i64 ((j : Nat) : Int), .slice (some ⟨g2, 0, none⟩) m cap2] w (SplPost base (l.take i ++ q ++ l.drop j) w) := by
  have hlq : (sc q).length = m * 2 := by rw [sc_length]; omega
  have hlx : (sc (l.drop j)).length = d * 2 := by rw [sc_length, List.length_drop]; omega
  have HX1 := Lib.hid (fun w' (h : Cells w' g cur) => src_drop h h4 j)
  have HX2 := Lib.hid (fun w' (h : Cells w' g2 cur2) => src_all h h5)
  have HF : Hid (∀ cur' : List Value, i * 2 + m * 2 + d * 2 ≤ cur'.length → cur'.take (i * 2) = cur.take (i * 2) → (splice (splice cur' (i * 2) (sc q)) (i * 2 + m * 2) (sc (l.drop j))).take ((i + m + d) * 2) = sc (l.take i ++ q ++ l.drop j)) := fun cur' hc1 hc2 => by
    rw [show (i + m + d) * 2 = i * 2 + m * 2 + (sc (l.drop j)).length by rw [hlx]; omega, spl_b hlq (by rw [hlx]; omega), sc_append, sc_append]
    congr 2
    rw [← sc_take, ← h4, List.take_take, show min (i * 2) ((j + d) * 2) = i * 2 by omega, hc2]
  have HLEN : Hid ((l.take i ++ q ++ l.drop j).length = i + m + d) := by show _ = _; simp; omega
  have HWF : Hid (∀ s ∈ l.take i ++ q ++ l.drop j, s.wf) := fun s hs => by
    rcases List.mem_append.1 hs with h | h
    · rcases List.mem_append.1 h with h | h
      · exact hwl s (List.mem_of_mem_take h)
      · exact hwq s h
    · exact hwl s (List.mem_of_mem_drop h)
  have ho1 := sc_one (l.drop j)
  have ho2 := sc_one q
  obtain ⟨X, hX⟩ : ∃ X, sc (l.drop j) = X := ⟨_, rfl⟩
  obtain ⟨Y, hY⟩ : ∃ Y, sc q = Y := ⟨_, rfl⟩
  rw [hX] at HX1 hlx ho1 HF
  rw [hY] at HX2 hlq ho2 HF
  obtain ⟨r, hr⟩ : ∃ r, l.take i ++ q ++ l.drop j = r := ⟨_, rfl⟩
  rw [hr] at HF HLEN HWF ⊢
  have HLX := Lib.hid hlx; have HLQ := Lib.hid hlq; have HO1 := Lib.hid ho1; have HO2 := Lib.hid ho2
  have HC := Lib.hid hc; have HC2 := Lib.hid hc2; have H3 := Lib.hid h3
  have h2' : cap ≤ 9223372036854775807 := by unfold maxLen at h2; omega
  clear hX hY hr hwl hwq hn hm h4 hlx hlq ho1 ho2 hc hc2 h3 h5 h6
  have z1 : ¬ ((i : Int) = (j : Int)) := by omega
  have z2 : ¬ ((j : Int) = (j : Int) + (d : Int)) := by omega
  have z3 : (i : Int) ≤ (j : Int) := by omega
  have z4 : (j : Int) ≤ (j : Int) + (d : Int) := by omega
  have y7 : ¬ (cap = i) := by omega
  have y8 : ¬ (cap = j) := by omega
  have s1 : IntKind.i64.wrap ((i : Int) + (m : Int)) = (i : Int) + (m : Int) := IntWalk.i64_in _ (by omega)
  have s2 : IntKind.i64.wrap ((i : Int) + (m : Int) + (d : Int)) = (i : Int) + (m : Int) + (d : Int) := IntWalk.i64_in _ (by omega)
  have s3 : (0 : Int) ≤ (i : Int) + (m : Int) := by omega
  have s4 : ((i : Int) + (m : Int)).toNat = i + m := by omega
  have s5 : (0 : Int) ≤ (i : Int) + (m : Int) + (d : Int) := by omega
  have s6 : ((i : Int) + (m : Int) + (d : Int)).toNat = i + m + d := by omega
  have s8 : (cap : Int) < (i : Int) + (m : Int) + (d : Int) := by omega
  have s10 : IntKind.i64.wrap ((i : Int) + (m : Int) + (d : Int) - (i : Int)) = (i : Int) + (m : Int) + (d : Int) - (i : Int) := IntWalk.i64_in _ (by omega)
  have s9 : (i : Int) ≤ (j : Int) + (d : Int) := by omega
  have t1 : (i : Int) + (m : Int) ≤ (i : Int) + (m : Int) + (d : Int) := by omega
  have t2 : (i : Int) ≤ (i : Int) + (m : Int) + (d : Int) := by omega
  go_enter Try.func25, Try.ntmps25
  go_wp2_with fail
  go_quiet (fail)
  obtain ⟨w1, cap', rest, hrun, hc1, hl1, hge, hle, hg1⟩ := run_zeros_sp (w.drewN nq) 22 g i cap (m + d) cur HC.out (by omega) (by omega) (by rw [H3.out]; omega) (by omega)
  rw [show i + (m + d) = i + m + d by omega] at hrun hge
  rw [show ((m + d : Nat) : Int) = (i : Int) + m + d - i by omega] at hrun
  obtain ⟨G, hG⟩ : ∃ G, w.heap.size = G := ⟨_, rfl⟩
  have hgG : g < G := by have := HC.out.lt; omega
  have hg2G : g2 < G := by have := HC2.out.lt; omega
  have hG' : (w.drewN nq).heap.size = G := hG
  rw [hG'] at hrun hc1
  rw [hG] at hbs
  obtain ⟨cur', hcur⟩ : ∃ cur', cur.take (i * 2) ++ rest = cur' := ⟨_, rfl⟩
  rw [hcur] at hc1
  have HL : Hid (cur'.length = cap' * 2) := by show _ = _; rw [← hcur, List.length_append, List.length_take, H3.out]; omega
  have HF2 := Lib.hid (HF.out cur' (by rw [HL.out]; omega) (by rw [← hcur, List.take_append_of_le_length (by simp [H3.out]; omega), List.take_take, show min (i * 2) (i * 2) = i * 2 by omega]))
  have HG0 : Hid (w.grownBy w1 none) := ⟨hg1.os, hg1.tape, hg1.output, hg1.size, hg1.block⟩
  have HCo : Hid (Cells w1 g cur) := HC.out.grow HG0.out (by simp)
  have HCo2 : Hid (Cells w1 g2 cur2) := HC2.out.grow HG0.out (by simp)
  have HD := Lib.hid hc1
  have HGS := Lib.hid hG
  have HR := Lib.hid hrun
  have hle' : cap' ≤ 9223372036854775807 := by unfold maxLen at hle; omega
  clear hcur hc1 hg1 hG hG' hrun hl1
  have x1 : ¬ (cap' = i) := by omega
  have x2 : ¬ (cap' = i + m) := by omega
  go_wp2_with (first
    | (refine wpList_copy_sp _ rfl _ _ rfl (some ⟨G, i * 2, none⟩) (some ⟨g2, 0, none⟩) (i + m + d - i) (cap' - i) m cap2 G (i * 2) _ Y HD.out rfl rfl (by rw [HLQ.out]; show _ = min _ _ * 2; omega) (fun _ => ⟨rfl, _, rfl, HX2.out _ HCo2.out⟩) (by rw [HLQ.out, HL.out]; omega) HO2.out ?_; intro w2 HD2 hG2; have HG2 := Lib.hid hG2; clear hG2)
    | (at_builtin; refine Lib.wpList_append_run _ rfl _ _ _ _ rfl (.slice (some ⟨g, 0, none⟩) i cap) (.int .i64 ((i : Int) + m + d - i)) rfl rfl _ _ HR.out ?_))
  have HE2 : Hid (Cells w2 g cur) := HCo.out.grow HG2.out (by intro h; injection h with h; omega)
  go_region_law (refine step_copy_sp rfl _ _ rfl (some ⟨G, (i + m) * 2, none⟩) (some ⟨g, j * 2, none⟩) (i + m + d - (i + m)) (cap' - (i + m)) d (cap - j) G (i * 2 + m * 2) _ X HD2.out (by simp [Act.eval, Act.put]) (by simp [Act.eval, Act.put]) (by rw [HLX.out]; show _ = min _ _ * 2; omega) (fun _ => ⟨by rw [Nat.add_mul], _, rfl, HX1.out _ HE2.out⟩) (by rw [length_splice _ _ _ (by rw [HLQ.out, HL.out]; omega), HLX.out, HL.out]; omega) HO1.out ?_; intro w3 HD3 hG3)
  have HG3 : Hid (w2.grownBy w3 (some G)) := ⟨hG3.os, hG3.tape, hG3.output, hG3.size, hG3.block⟩
  clear hG3
  go_wp2_with fail
  go_ret
  refine ⟨_, rfl, Own.mkN HLEN.out HWF.out (by omega) hbs HD3.out (by omega) hle ?_ HF2.out, ?_⟩
  · rw [length_splice _ _ _ ?_, length_splice _ _ _ ?_]
    · exact HL.out
    · rw [HLQ.out, HL.out]; omega
    · rw [length_splice _ _ _ (by rw [HLQ.out, HL.out]; omega), HLX.out, HL.out]; omega
  · have hb0 : base ≤ w.heap.size := by rw [HGS.out]; exact hbs
    exact ((below_grown0 HG0.out hb0).trans (below_grown HG2.out (Nat.le_trans hb0 HG0.out.size) hbs)).trans (below_grown HG3.out (Nat.le_trans (Nat.le_trans hb0 HG0.out.size) HG2.out.size) hbs)
end Go.Proofs.Ytfeiapkifoakoaa
