/-
  slices.Replace of spans: nothing replaced, and up to the end.
-/
import Derived.Test.YtfeiapkifoakoaaIns3
namespace Go.Proofs.Ytfeiapkifoakoaa
set_option linter.unusedVariables false
set_option linter.unusedSimpArgs false
open Go.RowKit

set_option maxRecDepth 100000 in
set_option maxHeartbeats 0 in
theorem replace_ins (base i : Nat) (v u : Value) (l q : List Sp) (w : World) (hv : Own w base v l) (hu : Own w base u q) (hne : ∀ g, v.ownBlock = some g → u.ownBlock ≠ some g) (hbs : base ≤ w.heap.size) (hi : i ≤ l.length) (hl : l.length ≤ 500) (hq : q.length ≤ 300) :
    Calls Try.prog 25 #[v, .int .i64 i, .int .i64 i, u] w (SplPost base (l.take i ++ q ++ l.drop i) w) := by
  have HI := Lib.hid (insertP base i v u l q w hv hu hne hbs hi hl hq)
  rcases hv.form with ⟨rfl, rfl⟩ | ⟨g, cap, cur, rfl, _, _, h1, h2, _⟩
  · obtain rfl : i = 0 := by simpa using hi
    have HI2 : Hid (Calls Try.prog 36 #[.slice none 0 0, .int .i64 0, u] w (SplPost base (([] : List Sp).take 0 ++ q ++ ([] : List Sp).drop 0) w)) := HI.out
    clear hv hu hne HI
    go_enter Try.func25, Try.ntmps25
    go_wp2_with fail
    refine HI2.out.mono ?_; rintro e w1 ⟨x, rfl, hx, hb⟩
    have HX := Lib.hid hx; have HB := Lib.hid hb
    clear hx hb
    go_wp2_with fail
    go_ret
    exact ⟨_, rfl, HX.out, HB.out⟩
  · have h2' : cap ≤ 9223372036854775807 := by unfold maxLen at h2; omega
    have hii : (i : Int) ≤ l.length := by omega
    clear hv hu hne h2
    by_cases hci : cap = i
    · subst hci
      go_enter Try.func25, Try.ntmps25
      go_wp2_with fail
      refine HI.out.mono ?_; rintro e w1 ⟨x, rfl, hx, hb⟩
      have HX := Lib.hid hx; have HB := Lib.hid hb
      clear hx hb
      go_wp2_with fail
      go_ret
      exact ⟨_, rfl, HX.out, HB.out⟩
    · go_enter Try.func25, Try.ntmps25
      go_wp2_with fail
      refine HI.out.mono ?_; rintro e w1 ⟨x, rfl, hx, hb⟩
      have HX := Lib.hid hx; have HB := Lib.hid hb
      clear hx hb
      go_wp2_with fail
      go_ret
      exact ⟨_, rfl, HX.out, HB.out⟩

theorem own_slice {w : World} {base n : Nat} {e : TypeId} {v : Value} {xs : List Value} (h : w.ownsRow base e 2 v n xs) (h0 : 0 < n) : ∃ A c, v = .slice A n c := by
  rcases h.2 with ⟨_, h1⟩ | ⟨g', cap', cur', hv', _⟩
  · exact absurd h1 (by omega)
  · exact ⟨_, _, hv'⟩
/-- What u holds stays what it is when block g is written. -/
def USrc (w : World) (g : Nat) (B : Option Addr) (q : List Sp) : Prop := ∀ w', w.grownBy w' (some g) → 0 < (sc q).length → ∃ ad, B = some ad ∧ ∀ j v, (sc q)[j]? = some v → w'.cell? (ad.add j) = some v
theorem grown_refl (w : World) (row : Option Nat) : w.grownBy w row := ⟨rfl, rfl, rfl, Nat.le_refl _, fun _ _ _ => rfl⟩
theorem grown_trans {w w1 w2 : World} {row : Option Nat} (h : w.grownBy w1 row) (k : w1.grownBy w2 row) : w.grownBy w2 row :=
  ⟨k.os.trans h.os, k.tape.trans h.tape, k.output.trans h.output, Nat.le_trans h.size k.size, fun x hx hne => (k.block x (Nat.lt_of_lt_of_le hx h.size) hne).trans (h.block x hx hne)⟩

set_option maxRecDepth 100000 in
set_option maxHeartbeats 0 in
/-- Up to the end, with room. -/
theorem replace_end_room (base g cap cu i m n : Nat) (B : Option Addr) (cur : List Value) (l q : List Sp) (w : World) (hwl : ∀ s ∈ l, s.wf) (hwq : ∀ s ∈ q, s.wf) (hn : l.length = n) (hm : q.length = m) (hn2 : n ≤ 500) (hm2 : m ≤ 300) (hi : i < n)
    (hb : base ≤ g) (hbs : base ≤ w.heap.size) (hc : Cells w g cur) (h2 : cap ≤ maxLen) (h3 : cur.length = cap * 2) (h4 : cur.take (n * 2) = sc l) (hnc : n ≤ cap) (hroom : i + m ≤ cap) (hu : USrc w g B q) :
    Calls Try.prog 25 #[.slice (some ⟨g, 0, none⟩) n cap, .int .i64 i, .int .i64 n, .slice B m cu] w (SplPost base (l.take i ++ q) w) := by
  have HU := Lib.hid (hu w (grown_refl w _))
  have hlq : (sc q).length = m * 2 := by rw [sc_length]; omega
  have HF : Hid ((splice cur (i * 2) (sc q)).take ((i + m) * 2) = sc (l.take i ++ q)) := by
    show _ = _
    have := spl_b (cur := cur) (X := []) (Y := sc q) (a := i * 2) (b := m * 2) hlq (by simp; omega)
    rw [List.append_nil, List.length_nil, Nat.add_zero] at this
    rw [spl_c (by omega) (by rw [List.length_nil, length_splice _ _ _ (by omega)]; omega)] at this
    rw [show (i + m) * 2 = i * 2 + m * 2 by omega, this, sc_append]
    congr 1
    rw [← sc_take, ← h4, List.take_take, show min (i * 2) (n * 2) = i * 2 by omega]
  have HLEN : Hid ((l.take i ++ q).length = i + m) := by show _ = _; simp; omega
  have HWF : Hid (∀ s ∈ l.take i ++ q, s.wf) := fun s hs => by
    rcases List.mem_append.1 hs with h | h
    · exact hwl s (List.mem_of_mem_take h)
    · exact hwq s h
  have ho2 := sc_one q
  obtain ⟨Y, hY⟩ : ∃ Y, sc q = Y := ⟨_, rfl⟩
  rw [hY] at HU hlq HF ho2
  obtain ⟨r, hr⟩ : ∃ r, l.take i ++ q = r := ⟨_, rfl⟩
  rw [hr] at HF HLEN HWF ⊢
  have HLQ := Lib.hid hlq; have HO2 := Lib.hid ho2; have HC := Lib.hid hc; have H3 := Lib.hid h3
  have h2' : cap ≤ 9223372036854775807 := by unfold maxLen at h2; omega
  clear hY hr hwl hwq hn hm h4 hlq ho2 hc h3 hu
  have z2 : ¬ ((i : Int) = (n : Int)) := by omega
  have z3 : (i : Int) ≤ (n : Int) := by omega
  have y7 : ¬ (cap = i) := by omega
  by_cases hcl : i + m < n
  · have y5 : ¬ (cap = i + m) := by omega
    have y8 : (i : Int) + (m : Int) < n := by omega
    have y9 : (0 : Int) ≤ (i : Int) + (m : Int) := by omega
    have y10 : ((i : Int) + (m : Int)).toNat = i + m := by omega
    go_enter Try.func25, Try.ntmps25
    go_wp2_with (first | (at_builtin; refine wpList_append_sp _ rfl _ _ rfl B g i cap m cu cur Y HC.out rfl rfl HLQ.out HU.out hroom (by rw [HLQ.out, H3.out]; omega) HO2.out ?_; intro w1 HD1 hG1; have HG1 := Lib.hid hG1; clear hG1) | (refine wpList_clear_sp _ (by rfl) _ (by rfl) (some ⟨g, (i + m) * 2, none⟩) g ((i + m) * 2) (n - (i + m)) (cap - (i + m)) _ HD1.out (by rfl) (fun _ => rfl) (by rw [length_splice _ _ _ (by rw [HLQ.out, H3.out]; omega), H3.out]; omega) ?_; intro w2 zs HZ HD2 hG2; have HG2 := Lib.hid hG2; clear hG2))
    go_ret
    refine ⟨_, rfl, Own.mkN HLEN.out HWF.out (by omega) hb HD2.out (by omega) h2 ?_ ?_, ?_⟩
    · rw [length_splice _ _ _ ?_, length_splice _ _ _ ?_]
      · exact H3.out
      · rw [HLQ.out, H3.out]; omega
      · rw [length_splice _ _ _ (by rw [HLQ.out, H3.out]; omega), HZ.out, H3.out]; omega
    · rw [spl_c (Nat.le_refl _) (by rw [length_splice _ _ _ (by rw [HLQ.out, H3.out]; omega), HZ.out, H3.out]; omega)]
      exact HF.out
    · exact below_grown (grown_trans HG1.out HG2.out) hbs hb
  · have y8 : ¬ ((i : Int) + (m : Int) < n) := by omega
    go_enter Try.func25, Try.ntmps25
    go_wp2_with (at_builtin; refine wpList_append_sp _ rfl _ _ rfl B g i cap m cu cur Y HC.out rfl rfl HLQ.out HU.out hroom (by rw [HLQ.out, H3.out]; omega) HO2.out ?_; intro w1 HD1 hG1; have HG1 := Lib.hid hG1; clear hG1)
    go_ret
    refine ⟨_, rfl, Own.mkN HLEN.out HWF.out (by omega) hb HD1.out (by omega) h2 ?_ HF.out, ?_⟩
    · rw [length_splice _ _ _ ?_]
      · exact H3.out
      · rw [HLQ.out, H3.out]; omega
    · exact below_grown HG1.out hbs hb

set_option maxRecDepth 100000 in
set_option maxHeartbeats 0 in
/-- Up to the end, without room. -/
theorem replace_end_grow (base g cap g2 cap2 i m n : Nat) (cur cur2 : List Value) (l q : List Sp) (w : World) (hwl : ∀ s ∈ l, s.wf) (hwq : ∀ s ∈ q, s.wf) (hn : l.length = n) (hm : q.length = m) (hn2 : n ≤ 500) (hm2 : m ≤ 300) (hm0 : 0 < m) (hi : i < n)
    (hb : base ≤ g) (hbs : base ≤ w.heap.size) (hc : Cells w g cur) (h2 : cap ≤ maxLen) (h3 : cur.length = cap * 2) (h4 : cur.take (n * 2) = sc l) (hnc : n ≤ cap) (hroom : cap < i + m)
    (hc2 : Cells w g2 cur2) (h6 : m * 2 ≤ cur2.length) (h5 : cur2.take (m * 2) = sc q) :
    Calls Try.prog 25 #[.slice (some ⟨g, 0, none⟩) n cap, .int .i64 i, .int .i64 n, .slice (some ⟨g2, 0, none⟩) m cap2] w (SplPost base (l.take i ++ q) w) := by
  have HX2 := Lib.hid (src_all hc2 h5)
  have hlq : (sc q).length = m * 2 := by rw [sc_length]; omega
  have hown : Own w base (.slice (some ⟨g, 0, none⟩) i cap) (l.take i) :=
    Own.mkN (by simp; omega) (fun s hs => hwl s (List.mem_of_mem_take hs)) (by omega) hb hc (by omega) h2 h3 (by rw [← sc_take, ← h4, List.take_take, show min (i * 2) (n * 2) = i * 2 by omega])
  have hrow := hown.row
  have hli : (l.take i).length = i := by simp; omega
  rw [hli] at hrow
  have HROW := Lib.hid hrow
  have HLEN : Hid ((l.take i ++ q).length = i + m) := by show _ = _; simp; omega
  have HWF : Hid (∀ s ∈ l.take i ++ q, s.wf) := fun s hs => by
    rcases List.mem_append.1 hs with h | h
    · exact hwl s (List.mem_of_mem_take h)
    · exact hwq s h
  have ho2 := sc_one q
  have HSC : Hid (sc (l.take i ++ q) = sc (l.take i) ++ sc q) := sc_append _ _
  obtain ⟨i0, hi0, hz0, hz1, hz2⟩ := info_parts infoSp
  have HLQ := Lib.hid hlq; have HO2 := Lib.hid ho2
  have h2' : cap ≤ 9223372036854775807 := by unfold maxLen at h2; omega
  clear hwl hwq hn hm h4 hlq ho2 hc h3 hc2 h5 hown hrow hli h2
  have z2 : ¬ ((i : Int) = (n : Int)) := by omega
  have z3 : (i : Int) ≤ (n : Int) := by omega
  have y7 : ¬ (cap = i) := by omega
  have y8 : ¬ ((i : Int) + (m : Int) < n) := by omega
  go_enter Try.func25, Try.ntmps25
  go_wp2_with (at_builtin; refine wpList_append_own _ rfl _ _ 22 rfl base 24 i0 (.agg #[.int .i64 0, .int .i64 0]) 2 16 Try.underlying22 hi0 hz0 hz1 hz2 rfl (by decide) _ i (sc (l.take i)) rfl HROW.out ⟨g2, 0, none⟩ m cap2 (sc q) rfl HLQ.out HX2.out HO2.out (by unfold maxLen; omega) (by omega) hbs ?_; intro v' w1 h1 hg1 _; have H1 := Lib.hid h1; have HG1 := Lib.hid hg1; clear hg1; obtain ⟨A, c, rfl⟩ := own_slice h1 (by omega); clear h1)
  go_ret
  refine ⟨_, rfl, ⟨?_, HWF.out, by rw [HLEN.out]; omega⟩, below_grown HG1.out hbs hb⟩
  rw [HLEN.out, HSC.out]; exact H1.out
end Go.Proofs.Ytfeiapkifoakoaa
