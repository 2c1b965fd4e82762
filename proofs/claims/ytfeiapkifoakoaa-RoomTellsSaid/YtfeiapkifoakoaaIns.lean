/-
  slices.Insert of spans, on a row that the call owns.
-/
import Derived.Test.YtfeiapkifoakoaaRow2
namespace Go.Proofs.Ytfeiapkifoakoaa
set_option linter.unusedVariables false
set_option linter.unusedSimpArgs false
open Go.RowKit

theorem Own.form {w : World} {base : Nat} {v : Value} {l : List Sp} (h : Own w base v l) : (v = .slice none 0 0 ∧ l = []) ∨
    ∃ g cap cur, v = .slice (some ⟨g, 0, none⟩) l.length cap ∧ base ≤ g ∧ Cells w g cur ∧ l.length ≤ cap ∧ cap ≤ maxLen ∧ cur.length = cap * 2 ∧ cur.take (l.length * 2) = sc l := by
  rcases h.row.2 with ⟨rfl, h0⟩ | ⟨g, cap, cur, rfl, hb, hg, h1, h2, h3, h4⟩
  · exact .inl ⟨rfl, List.eq_nil_of_length_eq_zero h0⟩
  · exact .inr ⟨g, cap, cur.toList, rfl, hb, by unfold Cells; simpa using hg, h1, h2, by simpa using h3, h4⟩
theorem Own.mk' {w : World} {base : Nat} {l : List Sp} {g cap : Nat} {cur : List Value} (hwf : ∀ s ∈ l, s.wf) (hlen : l.length ≤ 1000) (hb : base ≤ g) (hc : Cells w g cur) (h1 : l.length ≤ cap) (h2 : cap ≤ maxLen) (h3 : cur.length = cap * 2) (h4 : cur.take (l.length * 2) = sc l) :
    Own w base (.slice (some ⟨g, 0, none⟩) l.length cap) l :=
  ⟨⟨by rw [sc_length]; omega, .inr ⟨g, cap, cur.toArray, rfl, hb, hc, h1, h2, by simpa using h3, by simpa using h4⟩⟩, hwf, hlen⟩
theorem Own.mkN {w : World} {base : Nat} {l : List Sp} {g cap N : Nat} {cur : List Value} (hN : l.length = N) (hwf : ∀ s ∈ l, s.wf) (hlen : N ≤ 1000) (hb : base ≤ g) (hc : Cells w g cur) (h1 : N ≤ cap) (h2 : cap ≤ maxLen) (h3 : cur.length = cap * 2) (h4 : cur.take (N * 2) = sc l) :
    Own w base (.slice (some ⟨g, 0, none⟩) N cap) l := by
  subst hN; exact Own.mk' hwf hlen hb hc h1 h2 h3 h4
theorem spl_a {cur X Y : List Value} {a b : Nat} (hY : Y.length = b) (hfit : a + b + X.length ≤ cur.length) : (splice (splice cur (a + b) X) a Y).take (a + b + X.length) = cur.take a ++ Y ++ X := by
  have hl : (splice cur (a + b) X).length = cur.length := length_splice _ _ _ (by omega)
  apply List.ext_getElem?
  intro k
  rw [List.getElem?_take]
  by_cases h1 : k < a
  · rw [if_pos (by omega), getElem?_splice (by omega), if_pos h1, getElem?_splice (by omega), if_pos (by omega), List.append_assoc, List.getElem?_append_left (by simp; omega), List.getElem?_take, if_pos h1]
  · by_cases h2 : k < a + b
    · rw [if_pos (by omega), getElem?_splice (by omega), if_neg h1, if_pos (by omega), List.append_assoc, List.getElem?_append_right (by simp; omega), List.getElem?_append_left (by simp; omega)]
      congr 1; simp; omega
    · rw [List.getElem?_append_right (by simp; omega)]
      by_cases h3 : k < a + b + X.length
      · rw [if_pos h3, getElem?_splice (by omega), if_neg h1, if_neg (by omega), getElem?_splice (by omega), if_neg (by omega), if_pos (by omega)]
        congr 1; simp; omega
      · rw [if_neg h3, eq_comm, List.getElem?_eq_none_iff]; simp; omega
theorem spl_b {cur X Y : List Value} {a b : Nat} (hY : Y.length = b) (hfit : a + b + X.length ≤ cur.length) : (splice (splice cur a Y) (a + b) X).take (a + b + X.length) = cur.take a ++ Y ++ X := by
  have hl : (splice cur a Y).length = cur.length := length_splice _ _ _ (by omega)
  apply List.ext_getElem?
  intro k
  rw [List.getElem?_take]
  by_cases h1 : k < a
  · rw [if_pos (by omega), getElem?_splice (by omega), if_pos (by omega), getElem?_splice (by omega), if_pos (by omega), List.append_assoc, List.getElem?_append_left (by simp; omega), List.getElem?_take, if_pos h1]
  · by_cases h2 : k < a + b
    · rw [if_pos (by omega), getElem?_splice (by omega), if_pos (by omega), getElem?_splice (by omega), if_neg h1, if_pos (by omega), List.append_assoc, List.getElem?_append_right (by simp; omega), List.getElem?_append_left (by simp; omega)]
      congr 1; simp; omega
    · rw [List.getElem?_append_right (by simp; omega)]
      by_cases h3 : k < a + b + X.length
      · rw [if_pos h3, getElem?_splice (by omega), if_neg (by omega), if_pos (by omega)]
        congr 1; simp; omega
      · rw [if_neg h3, eq_comm, List.getElem?_eq_none_iff]; simp; omega
theorem spl_c {cur X : List Value} {a k : Nat} (hk : k ≤ a) (hfit : a + X.length ≤ cur.length) : (splice cur a X).take k = cur.take k := by
  apply List.ext_getElem?
  intro j
  rw [List.getElem?_take, List.getElem?_take]
  split
  · rw [getElem?_splice hfit, if_pos (by omega)]
  · rfl
theorem src_drop {w : World} {g n : Nat} {cur : List Value} {l : List Sp} (h : Cells w g cur) (ht : cur.take (n * 2) = sc l) (k : Nat) : ∀ j v, (sc (l.drop k))[j]? = some v → w.cell? ((⟨g, k * 2, none⟩ : Addr).add j) = some v := fun j v hj => by
  rw [Addr.add_lit, h.cell]
  rw [← sc_drop, List.getElem?_drop, ← ht, List.getElem?_take] at hj
  split at hj
  · exact hj
  · cases hj
theorem src_all {w : World} {g n : Nat} {cur : List Value} {l : List Sp} (h : Cells w g cur) (ht : cur.take (n * 2) = sc l) : ∀ j v, (sc l)[j]? = some v → w.cell? ((⟨g, 0, none⟩ : Addr).add j) = some v := fun j v hj => by
  have := src_drop h ht 0 j v (by simpa using hj)
  simpa using this

/-- The result is a slice that the call owns, which reads as r. -/
def SplPost (base : Nat) (r : List Sp) (w : World) (e : Ending) (w' : World) : Prop := ∃ x, e = .returned x ∧ Own w' base x r ∧ Below base w w'
theorem below_grown {w w' : World} {base g : Nat} (h : w.grownBy w' (some g)) (hb : base ≤ w.heap.size) (hg : base ≤ g) : Below base w w' := Below.of_grown h hb hg
theorem below_grown0 {w w' : World} {base : Nat} (h : w.grownBy w' none) (hb : base ≤ w.heap.size) : Below base w w' := ⟨h.os, h.tape, h.output, h.size, fun k hk => h.block k (by omega) (by simp)⟩

set_option maxRecDepth 100000 in
set_option maxHeartbeats 0 in
/-- There is room. -/
theorem insert_room (base g cap g2 cap2 i m n : Nat) (cur cur2 : List Value) (l q : List Sp) (w : World) (hwl : ∀ s ∈ l, s.wf) (hwq : ∀ s ∈ q, s.wf) (hn : l.length = n) (hm : q.length = m) (hn2 : n ≤ 500) (hm2 : m ≤ 300) (hm0 : 0 < m) (hi : i < n)
    (hb : base ≤ g) (hbs : base ≤ w.heap.size) (hc : Cells w g cur) (h2 : cap ≤ maxLen) (h3 : cur.length = cap * 2) (h4 : cur.take (n * 2) = sc l) (hroom : n + m ≤ cap)
    (hc2 : Cells w g2 cur2) (h6 : m * 2 ≤ cur2.length) (h5 : cur2.take (m * 2) = sc q) (hne : g2 ≠ g) :
    Calls Try.prog 36 #[.slice (some ⟨g, 0, none⟩) n cap, .int .i64 i, .slice (some ⟨g2, 0, none⟩) m cap2] w (SplPost base (l.take i ++ q ++ l.drop i) w) := by
  have hov := fun o la ca lb cb => apart w g2 g 0 o la ca lb cb cur2 cur hc2 hc hne (by intro h; rw [h] at h3; simp at h3; omega)
  have HX1 := Lib.hid (fun w' (h : Cells w' g cur) => src_drop h h4 i)
  have HX2 := Lib.hid (fun w' (h : Cells w' g2 cur2) => src_all h h5)
  have hlx : (sc (l.drop i)).length = (n - i) * 2 := by rw [sc_length, List.length_drop]; omega
  have hlq : (sc q).length = m * 2 := by rw [sc_length]; omega
  have ho1 := sc_one (l.drop i)
  have ho2 := sc_one q
  have HF : Hid ((splice (splice cur (i * 2 + m * 2) (sc (l.drop i))) (i * 2) (sc q)).take ((n + m) * 2) = sc (l.take i ++ q ++ l.drop i)) := by
    show _ = _
    rw [show (n + m) * 2 = i * 2 + m * 2 + (sc (l.drop i)).length by rw [hlx]; omega, spl_a hlq (by rw [hlx]; omega), sc_append, sc_append]
    congr 2
    rw [← sc_take, ← h4, List.take_take, show min (i * 2) (n * 2) = i * 2 by omega]
  have HLEN : Hid ((l.take i ++ q ++ l.drop i).length = n + m) := by show _ = _; simp; omega
  have HWF : Hid (∀ s ∈ l.take i ++ q ++ l.drop i, s.wf) := fun s hs => by
    rcases List.mem_append.1 hs with h | h
    · rcases List.mem_append.1 h with h | h
      · exact hwl s (List.mem_of_mem_take h)
      · exact hwq s h
    · exact hwl s (List.mem_of_mem_drop h)
  obtain ⟨X, hX⟩ : ∃ X, sc (l.drop i) = X := ⟨_, rfl⟩
  obtain ⟨Y, hY⟩ : ∃ Y, sc q = Y := ⟨_, rfl⟩
  rw [hX] at HX1 hlx ho1 HF
  rw [hY] at HX2 hlq ho2 HF
  obtain ⟨r, hr⟩ : ∃ r, l.take i ++ q ++ l.drop i = r := ⟨_, rfl⟩
  rw [hr] at HF HLEN HWF ⊢
  have HLX := Lib.hid hlx; have HLQ := Lib.hid hlq; have HO1 := Lib.hid ho1; have HO2 := Lib.hid ho2
  have HC := Lib.hid hc; have HC2 := Lib.hid hc2; have H3 := Lib.hid h3
  have h2' : cap ≤ 9223372036854775807 := by unfold maxLen at h2; omega
  clear hX hY hr hwl hwq hn hm h4 h5 hlx hlq ho1 ho2 hc hc2 h3
  have z1 : ¬ ((m : Int) = 0) := by omega
  have z2 : ¬ ((i : Int) = (n : Int)) := by omega
  have y1 : IntKind.i64.wrap ((i : Int) + (m : Int)) = (i : Int) + (m : Int) := IntWalk.i64_in _ (by omega)
  have y2 : (0 : Int) ≤ (i : Int) + (m : Int) := by omega
  have y3 : i ≤ n := by omega
  have y4 : ((i : Int) + (m : Int)).toNat = i + m := by omega
  have y5 : ¬ (cap = i + m) := by omega
  have y6 : (i : Int) ≤ (n : Int) + (m : Int) := by omega
  have y7 : ¬ (cap = i) := by omega
  go_enter Try.func36, Try.ntmps36
  go_wp2_with (simp only [hov])
  go_region_law (refine step_copy_sp rfl _ _ rfl (some ⟨g, (i + m) * 2, none⟩) (some ⟨g, i * 2, none⟩) (n + m - (i + m)) (cap - (i + m)) (n + m - i) (cap - i) g (i * 2 + m * 2) cur X HC.out (by simp [Act.eval, Act.put]) (by simp [Act.eval, Act.put]) (by rw [HLX.out]; show _ = min _ _ * 2; omega) (fun _ => ⟨by rw [Nat.add_mul], _, rfl, HX1.out _ HC.out⟩) (by rw [HLX.out, H3.out]; omega) HO1.out ?_; intro w2 HD2 hG2)
  have hG2' : w.grownBy w2 (some g) := ⟨hG2.os, hG2.tape, hG2.output, hG2.size, hG2.block⟩
  have HE2 : Hid (Cells w2 g2 cur2) := HC2.out.grow hG2' (by intro h; injection h with h; exact hne h)
  have HG2 := Lib.hid hG2'
  clear hG2 hG2'
  go_wp2_with (refine wpList_copy_sp _ rfl _ _ rfl (some ⟨g, i * 2, none⟩) (some ⟨g2, 0, none⟩) (n + m - i) (cap - i) m cap2 g (i * 2) _ Y HD2.out rfl rfl (by rw [HLQ.out]; show _ = min _ _ * 2; omega) (fun _ => ⟨rfl, _, rfl, HX2.out _ HE2.out⟩) (by rw [length_splice _ _ _ (by rw [HLX.out, H3.out]; omega), HLQ.out, H3.out]; omega) HO2.out ?_; intro w3 HD3 hG3)
  go_ret
  refine ⟨_, rfl, Own.mkN HLEN.out HWF.out (by omega) hb HD3.out (by omega) h2 ?_ HF.out, ?_⟩
  · rw [length_splice _ _ _ ?_, length_splice _ _ _ ?_]
    · exact H3.out
    · rw [HLX.out, H3.out]; omega
    · rw [length_splice _ _ _ (by rw [HLX.out, H3.out]; omega), HLQ.out, H3.out]; omega
  · exact (below_grown HG2.out hbs hb).trans (below_grown hG3 (Nat.le_trans hbs HG2.out.size) hb)
end Go.Proofs.Ytfeiapkifoakoaa
