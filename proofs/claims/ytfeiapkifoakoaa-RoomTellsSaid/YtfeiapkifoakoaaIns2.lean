/-
  slices.Insert of spans: the other ways, and all of them together.
-/
import Derived.Test.YtfeiapkifoakoaaIns
namespace Go.Proofs.Ytfeiapkifoakoaa
set_option linter.unusedVariables false
set_option linter.unusedSimpArgs false
open Go.RowKit

set_option maxRecDepth 100000 in
set_option maxHeartbeats 0 in
/-- There is no room: a new row. -/
theorem insert_grow (base g cap g2 cap2 i m n : Nat) (cur cur2 : List Value) (l q : List Sp) (w : World) (hwl : ∀ s ∈ l, s.wf) (hwq : ∀ s ∈ q, s.wf) (hn : l.length = n) (hm : q.length = m) (hn2 : n ≤ 500) (hm2 : m ≤ 300) (hm0 : 0 < m) (hi : i < n)
    (hb : base ≤ g) (hbs : base ≤ w.heap.size) (hc : Cells w g cur) (h2 : cap ≤ maxLen) (h3 : cur.length = cap * 2) (h4 : cur.take (n * 2) = sc l) (hnc : n ≤ cap) (hroom : cap < n + m)
    (hc2 : Cells w g2 cur2) (h6 : m * 2 ≤ cur2.length) (h5 : cur2.take (m * 2) = sc q) (hne : g2 ≠ g) :
    Calls Try.prog 36 #[.slice (some ⟨g, 0, none⟩) n cap, .int .i64 i, .slice (some ⟨g2, 0, none⟩) m cap2] w (SplPost base (l.take i ++ q ++ l.drop i) w) := by
  have HX1 := Lib.hid (fun w' (h : Cells w' g cur) => src_drop h h4 i)
  have HX2 := Lib.hid (fun w' (h : Cells w' g2 cur2) => src_all h h5)
  have hlx : (sc (l.drop i)).length = (n - i) * 2 := by rw [sc_length, List.length_drop]; omega
  have hlq : (sc q).length = m * 2 := by rw [sc_length]; omega
  have ho1 := sc_one (l.drop i)
  have ho2 := sc_one q
  obtain ⟨w1, cap', rest, hrun, hc1, hl1, hge, hle, hg1⟩ := run_zeros_sp w 22 g i cap (n + m - i) cur hc (by omega) (by omega) (by omega) (by omega)
  rw [show i + (n + m - i) = n + m by omega] at hrun hge
  rw [show ((n + m - i : Nat) : Int) = (n : Int) + m - i by omega] at hrun
  obtain ⟨cur', hcur⟩ : ∃ cur', cur.take (i * 2) ++ rest = cur' := ⟨_, rfl⟩
  have hlc : cur'.length = cap' * 2 := by rw [← hcur, List.length_append, List.length_take]; omega
  have HF : Hid ((splice (splice cur' (i * 2) (sc q)) (i * 2 + m * 2) (sc (l.drop i))).take ((n + m) * 2) = sc (l.take i ++ q ++ l.drop i)) := by
    show _ = _
    rw [show (n + m) * 2 = i * 2 + m * 2 + (sc (l.drop i)).length by rw [hlx]; omega, spl_b hlq (by rw [hlx]; omega), sc_append, sc_append]
    congr 2
    rw [← hcur, List.take_append_of_le_length (by simp; omega), List.take_take, show min (i * 2) (i * 2) = i * 2 by omega, ← sc_take, ← h4, List.take_take, show min (i * 2) (n * 2) = i * 2 by omega]
  have HLEN : Hid ((l.take i ++ q ++ l.drop i).length = n + m) := by show _ = _; simp; omega
  have HWF : Hid (∀ s ∈ l.take i ++ q ++ l.drop i, s.wf) := fun s hs => by
    rcases List.mem_append.1 hs with h | h
    · rcases List.mem_append.1 h with h | h
      · exact hwl s (List.mem_of_mem_take h)
      · exact hwq s h
    · exact hwl s (List.mem_of_mem_drop h)
  rw [hcur] at hc1
  obtain ⟨X, hX⟩ : ∃ X, sc (l.drop i) = X := ⟨_, rfl⟩
  obtain ⟨Y, hY⟩ : ∃ Y, sc q = Y := ⟨_, rfl⟩
  rw [hX] at HX1 hlx ho1 HF
  rw [hY] at HX2 hlq ho2 HF
  obtain ⟨r, hr⟩ : ∃ r, l.take i ++ q ++ l.drop i = r := ⟨_, rfl⟩
  rw [hr] at HF HLEN HWF ⊢
  obtain ⟨G, hG⟩ : ∃ G, w.heap.size = G := ⟨_, rfl⟩
  have hgG : g < G := by have := hc.lt; omega
  have hg2G : g2 < G := by have := hc2.lt; omega
  rw [hG] at hrun hc1 hbs
  have HG1 := Lib.hid hg1
  have HCo : Hid (Cells w1 g cur) := hc.grow hg1 (by simp)
  have HC2 : Hid (Cells w1 g2 cur2) := hc2.grow hg1 (by simp)
  have HC := Lib.hid hc1
  have HLX := Lib.hid hlx; have HLQ := Lib.hid hlq; have HO1 := Lib.hid ho1; have HO2 := Lib.hid ho2
  have H3 := Lib.hid hlc
  have HGS := Lib.hid hG
  have HR := Lib.hid hrun
  have h2' : cap ≤ 9223372036854775807 := by unfold maxLen at h2; omega
  have hle' : cap' ≤ 9223372036854775807 := by unfold maxLen at hle; omega
  clear hX hY hr hwl hwq hn hm h4 h5 hlx hlq ho1 ho2 hc hc2 h3 hcur hc1 hlc hg1 hG hrun hl1 h6
  have z1 : ¬ ((m : Int) = 0) := by omega
  have z2 : ¬ ((i : Int) = (n : Int)) := by omega
  have y1 : IntKind.i64.wrap ((i : Int) + (m : Int)) = (i : Int) + (m : Int) := IntWalk.i64_in _ (by omega)
  have y2 : (0 : Int) ≤ (i : Int) + (m : Int) := by omega
  have y3 : i ≤ n := by omega
  have y4 : ((i : Int) + (m : Int)).toNat = i + m := by omega
  have y5 : ¬ (cap' = i + m) := by omega
  have y6 : (i : Int) ≤ (n : Int) + (m : Int) := by omega
  have y7 : ¬ (cap = i) := by omega
  have y8 : ¬ (cap' = i) := by omega
  have y9 : i ≤ n + m := by omega
  go_enter Try.func36, Try.ntmps36
  go_wp2_with (first
    | (refine wpList_copy_sp _ rfl _ _ rfl (some ⟨G, i * 2, none⟩) (some ⟨g2, 0, none⟩) (n + m - i) (cap' - i) m cap2 G (i * 2) _ Y HC.out rfl rfl (by rw [HLQ.out]; show _ = min _ _ * 2; omega) (fun _ => ⟨rfl, _, rfl, HX2.out _ HC2.out⟩) (by rw [HLQ.out, H3.out]; omega) HO2.out ?_; intro w2 HD2 hG2)
    | (at_builtin; refine Lib.wpList_append_run _ rfl _ _ _ _ rfl (.slice (some ⟨g, 0, none⟩) i cap) (.int .i64 ((n : Int) + m - i)) rfl rfl _ _ HR.out ?_))
  have HG2 := Lib.hid hG2
  have HE2 : Hid (Cells w2 g cur) := HCo.out.grow hG2 (by intro h; injection h with h; omega)
  clear hG2
  go_region_law (refine step_copy_sp rfl _ _ rfl (some ⟨G, (i + m) * 2, none⟩) (some ⟨g, i * 2, none⟩) (n + m - (i + m)) (cap' - (i + m)) (n - i) (cap - i) G (i * 2 + m * 2) _ X HD2.out (by simp [Act.eval, Act.put]) (by simp [Act.eval, Act.put]) (by rw [HLX.out]; show _ = min _ _ * 2; omega) (fun _ => ⟨by rw [Nat.add_mul], _, rfl, HX1.out _ HE2.out⟩) (by rw [length_splice _ _ _ (by rw [HLQ.out, H3.out]; omega), HLX.out, H3.out]; omega) HO1.out ?_; intro w3 HD3 hG3)
  have hG3' : w2.grownBy w3 (some G) := ⟨hG3.os, hG3.tape, hG3.output, hG3.size, hG3.block⟩
  clear hG3
  go_wp2_with fail
  go_ret
  refine ⟨_, rfl, Own.mkN HLEN.out HWF.out (by omega) hbs HD3.out (by omega) hle ?_ HF.out, ?_⟩
  · rw [length_splice _ _ _ ?_, length_splice _ _ _ ?_]
    · exact H3.out
    · rw [HLQ.out, H3.out]; omega
    · rw [length_splice _ _ _ (by rw [HLQ.out, H3.out]; omega), HLX.out, H3.out]; omega
  · have hb0 : base ≤ w.heap.size := by rw [HGS.out]; exact hbs
    exact ((below_grown0 HG1.out hb0).trans (below_grown HG2.out (Nat.le_trans hb0 HG1.out.size) hbs)).trans (below_grown hG3' (Nat.le_trans (Nat.le_trans hb0 HG1.out.size) HG2.out.size) hbs)
end Go.Proofs.Ytfeiapkifoakoaa
