/-
  slices.Insert of spans: nothing to insert, at the end, and all ways together.
-/
import Derived.Test.YtfeiapkifoakoaaIns2
namespace Go.Proofs.Ytfeiapkifoakoaa
set_option linter.unusedVariables false
set_option linter.unusedSimpArgs false
open Go.RowKit

set_option maxRecDepth 100000 in
set_option maxHeartbeats 0 in
theorem insert_nil (B : Option Addr) (cu : Nat) (w : World) (P : Ending → World → Prop) (hP : P (.returned (.slice none 0 0)) w) :
    Calls Try.prog 36 #[.slice none 0 0, .int .i64 (0 : Nat), .slice B 0 cu] w P := by
  have HP := Lib.hid hP; clear hP
  go_enter Try.func36, Try.ntmps36
  go_wp2_with fail
  first | exact HP.out | (go_ret; exact HP.out)
set_option maxRecDepth 100000 in
set_option maxHeartbeats 0 in
theorem insert_zero (g : Nat) (B : Option Addr) (n cap cu i : Nat) (w : World) (P : Ending → World → Prop) (hi : i ≤ n) (hnc : n ≤ cap) (h2 : cap ≤ maxLen) (hP : P (.returned (.slice (some ⟨g, 0, none⟩) n cap)) w) :
    Calls Try.prog 36 #[.slice (some ⟨g, 0, none⟩) n cap, .int .i64 i, .slice B 0 cu] w P := by
  have h2' : cap ≤ 9223372036854775807 := by unfold maxLen at h2; omega
  have hii : (i : Int) ≤ n := by omega
  have HP := Lib.hid hP; clear hP h2
  by_cases hci : cap = i
  · subst hci
    obtain rfl : n = cap := by omega
    go_enter Try.func36, Try.ntmps36
    go_wp2_with fail
    first | exact HP.out | (go_ret; exact HP.out)
  · go_enter Try.func36, Try.ntmps36
    go_wp2_with fail
    first | exact HP.out | (go_ret; exact HP.out)

set_option maxRecDepth 100000 in
set_option maxHeartbeats 0 in
theorem insert_end (base g2 cap2 m n : Nat) (A : Option Addr) (cap : Nat) (cur2 : List Value) (l q : List Sp) (w : World) (hv : Own w base (.slice A n cap) l) (hwq : ∀ s ∈ q, s.wf) (hn : l.length = n) (hnc : n ≤ cap) (h2 : cap ≤ maxLen)
    (hm : q.length = m) (hn2 : n ≤ 500) (hm2 : m ≤ 300) (hm0 : 0 < m) (hbs : base ≤ w.heap.size)
    (hc2 : Cells w g2 cur2) (h6 : m * 2 ≤ cur2.length) (h5 : cur2.take (m * 2) = sc q) :
    Calls Try.prog 36 #[.slice A n cap, .int .i64 n, .slice (some ⟨g2, 0, none⟩) m cap2] w (SplPost base (l ++ q) w) := by
  have HX2 := Lib.hid (src_all hc2 h5)
  have hlq : (sc q).length = m * 2 := by rw [sc_length]; omega
  have HLQ := Lib.hid hlq
  have HWF : Hid (∀ s ∈ l ++ q, s.wf) := fun s hs => (List.mem_append.1 hs).elim (hv.wf s) (hwq s)
  have hbk : ∀ k, (Value.slice A n cap).ownBlock = some k → base ≤ k := fun k hk => (hv.row.lt k hk).1
  have HBK := Lib.hid hbk
  have hrow := hv.row
  rw [hn] at hrow
  have HROW := Lib.hid hrow
  obtain ⟨i0, hi, hz0, hz1, hz2⟩ := info_parts infoSp
  have h2' : cap ≤ 9223372036854775807 := by unfold maxLen at h2; omega
  have HN := Lib.hid hn; have HM := Lib.hid hm
  clear hc2 h5 h6 hwq hv hrow hbk hlq hn hm h2
  have z1 : ¬ ((m : Int) = 0) := by omega
  by_cases hci : cap = n
  · subst hci
    cases A
    all_goals
      go_enter Try.func36, Try.ntmps36
      go_wp2_with (at_builtin; refine wpList_append_own _ rfl _ _ 22 rfl base 24 i0 (.agg #[.int .i64 0, .int .i64 0]) 2 16 Try.underlying22 hi hz0 hz1 hz2 rfl (by decide) _ cap (sc l) rfl HROW.out ⟨g2, 0, none⟩ m cap2 (sc q) rfl HLQ.out HX2.out (sc_one q) (by unfold maxLen; omega) (by omega) hbs ?_; intro v' w1 h1 hg1 _)
      have H1 := Lib.hid h1; have HG1 := Lib.hid hg1
      clear h1 hg1
      go_wp2_with fail
      go_ret
      refine ⟨_, rfl, ⟨?_, HWF.out, by rw [List.length_append, HN.out, HM.out]; omega⟩, (Below.refl _ _).grown HG1.out hbs HBK.out⟩
      rw [List.length_append, HN.out, HM.out, sc_append]; exact H1.out
  · cases A
    all_goals
      go_enter Try.func36, Try.ntmps36
      go_wp2_with (at_builtin; refine wpList_append_own _ rfl _ _ 22 rfl base 24 i0 (.agg #[.int .i64 0, .int .i64 0]) 2 16 Try.underlying22 hi hz0 hz1 hz2 rfl (by decide) _ n (sc l) rfl HROW.out ⟨g2, 0, none⟩ m cap2 (sc q) rfl HLQ.out HX2.out (sc_one q) (by unfold maxLen; omega) (by omega) hbs ?_; intro v' w1 h1 hg1 _)
      have H1 := Lib.hid h1; have HG1 := Lib.hid hg1
      clear h1 hg1
      go_wp2_with fail
      go_ret
      refine ⟨_, rfl, ⟨?_, HWF.out, by rw [List.length_append, HN.out, HM.out]; omega⟩, (Below.refl _ _).grown HG1.out hbs HBK.out⟩
      rw [List.length_append, HN.out, HM.out, sc_append]; exact H1.out

theorem insertP (base i : Nat) (v u : Value) (l q : List Sp) (w : World) (hv : Own w base v l) (hu : Own w base u q) (hne : ∀ g, v.ownBlock = some g → u.ownBlock ≠ some g) (hbs : base ≤ w.heap.size) (hi : i ≤ l.length) (hl : l.length ≤ 500) (hq : q.length ≤ 300) :
    Calls Try.prog 36 #[v, .int .i64 i, u] w (SplPost base (l.take i ++ q ++ l.drop i) w) := by
  have hvs : ∃ A cap, v = .slice A l.length cap ∧ l.length ≤ cap ∧ cap ≤ maxLen := by
    rcases hv.form with ⟨rfl, rfl⟩ | ⟨g, cap, cur, rfl, _, _, h1, h2, _⟩
    · exact ⟨none, 0, rfl, Nat.le_refl _, by decide⟩
    · exact ⟨_, _, rfl, h1, h2⟩
  rcases Nat.eq_zero_or_pos q.length with h0 | h0
  · obtain rfl : q = [] := List.eq_nil_of_length_eq_zero h0
    have hus : ∃ B cu, u = .slice B 0 cu := by
      rcases hu.form with ⟨rfl, _⟩ | ⟨g, cap, cur, rfl, _⟩
      · exact ⟨_, _, rfl⟩
      · exact ⟨_, _, rfl⟩
    obtain ⟨B, cu, rfl⟩ := hus
    rw [List.append_nil, List.take_append_drop]
    rcases hv.form with ⟨rfl, rfl⟩ | ⟨g, cap, cur, rfl, _, _, h1, h2, _⟩
    · obtain rfl : i = 0 := by simpa using hi
      exact insert_nil B cu w _ ⟨_, rfl, hv, Below.refl _ _⟩
    · exact insert_zero g B l.length cap cu i w _ hi h1 h2 ⟨_, rfl, hv, Below.refl _ _⟩
  · rcases hu.form with ⟨_, rfl⟩ | ⟨g2, cap2, cur2, rfl, hb2, hc2, k1, k2, k3, k4⟩
    · simp at h0
    rcases Nat.lt_or_eq_of_le hi with hi1 | hi1
    · rcases hv.form with ⟨_, rfl⟩ | ⟨g, cap, cur, rfl, hb, hc, h1, h2, h3, h4⟩
      · simp at hi1
      have hne' : g2 ≠ g := fun e => hne g rfl (by rw [← e]; rfl)
      by_cases hroom : l.length + q.length ≤ cap
      · exact insert_room base g cap g2 cap2 i q.length l.length cur cur2 l q w hv.wf hu.wf rfl rfl hl hq h0 hi1 hb hbs hc h2 h3 h4 hroom hc2 (by omega) k4 hne'
      · exact insert_grow base g cap g2 cap2 i q.length l.length cur cur2 l q w hv.wf hu.wf rfl rfl hl hq h0 hi1 hb hbs hc h2 h3 h4 h1 (by omega) hc2 (by omega) k4 hne'
    · obtain ⟨A, cap, rfl, h1, h2⟩ := hvs
      have := insert_end base g2 cap2 q.length l.length A cap cur2 l q w hv hu.wf rfl h1 h2 rfl hl hq h0 hbs hc2 (by omega) k4
      rw [hi1, List.take_length, List.drop_length, List.append_nil]
      exact this
end Go.Proofs.Ytfeiapkifoakoaa
