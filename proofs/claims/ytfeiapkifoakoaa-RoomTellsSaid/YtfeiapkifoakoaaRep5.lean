/-
  slices.Replace of spans: all ways together.
-/
import Derived.Test.YtfeiapkifoakoaaRep2
import Derived.Test.YtfeiapkifoakoaaRep3
import Derived.Test.YtfeiapkifoakoaaRep4
namespace Go.Proofs.Ytfeiapkifoakoaa
set_option linter.unusedVariables false
set_option linter.unusedSimpArgs false
open Go.RowKit

theorem usrc_of {w : World} {g base : Nat} {u : Value} {q : List Sp} (hu : Own w base u q) (hne : u.ownBlock ≠ some g) : ∃ B cu, u = .slice B q.length cu ∧ USrc w g B q := by
  rcases hu.form with ⟨rfl, rfl⟩ | ⟨g2, cap2, cur2, rfl, hb2, hc2, k1, k2, k3, k4⟩
  · exact ⟨none, 0, rfl, fun w' _ h => by simp [sc] at h⟩
  · refine ⟨_, _, rfl, fun w' hg h0 => ⟨_, rfl, src_all (hc2.grow hg (by intro h; exact hne (by rw [← h]; rfl))) k4⟩⟩

theorem replaceP (base i j : Nat) (v u : Value) (l q : List Sp) (w : World) (hv : Own w base v l) (hu : Own w base u q) (hne : ∀ g, v.ownBlock = some g → u.ownBlock ≠ some g) (hbs : base ≤ w.heap.size) (hij : i ≤ j) (hj : j ≤ l.length) (hl : l.length ≤ 500) (hq : q.length ≤ 300) :
    Calls Try.prog 25 #[v, .int .i64 i, .int .i64 j, u] w (SplPost base (l.take i ++ q ++ l.drop j) w) := by
  rcases Nat.lt_or_eq_of_le hij with h1 | h1
  · rcases hv.form with ⟨_, rfl⟩ | ⟨g, cap, cur, rfl, hb, hc, c1, c2, c3, c4⟩
    · simp at hj; omega
    have hne' : u.ownBlock ≠ some g := hne g rfl
    rcases Nat.lt_or_eq_of_le hj with h2 | h2
    · obtain ⟨d, hd⟩ : ∃ d, l.length = j + d := ⟨l.length - j, by omega⟩
      rw [hd] at c1 c4 hl ⊢
      by_cases hfit : i + q.length ≤ j
      · obtain ⟨B, cu, rfl, hs⟩ := usrc_of hu hne'
        exact replace_fits base g cap cu i j q.length d B cur l q w hv.wf hu.wf hd rfl hl hq h1 (by omega) hb hbs hc c2 c3 c4 c1 hfit hs
      · rcases hu.form with ⟨_, rfl⟩ | ⟨g2, cap2, cur2, rfl, hb2, hc2, k1, k2, k3, k4⟩
        · simp at hfit; omega
        have hgg : g2 ≠ g := fun e => hne' (by rw [← e]; rfl)
        by_cases hroom : i + q.length + d ≤ cap
        · exact replace_wide base g cap g2 cap2 i j q.length d cur cur2 l q w hv.wf hu.wf hd rfl hl hq (by omega) h1 (by omega) hb hbs hc c2 c3 c4 c1 hroom (by omega) hc2 (by omega) k4 hgg
        · exact replace_grow base g cap g2 cap2 i j q.length d cur cur2 l q w hv.wf hu.wf hd rfl hl hq (by omega) h1 (by omega) hb hbs hc c2 c3 c4 c1 (by omega) hc2 (by omega) k4 hgg
    · subst h2
      rw [List.drop_length, List.append_nil]
      by_cases hroom : i + q.length ≤ cap
      · obtain ⟨B, cu, rfl, hs⟩ := usrc_of hu hne'
        exact replace_end_room base g cap cu i q.length l.length B cur l q w hv.wf hu.wf rfl rfl hl hq h1 hb hbs hc c2 c3 c4 c1 hroom hs
      · rcases hu.form with ⟨_, rfl⟩ | ⟨g2, cap2, cur2, rfl, hb2, hc2, k1, k2, k3, k4⟩
        · simp at hroom; omega
        exact replace_end_grow base g cap g2 cap2 i q.length l.length cur cur2 l q w hv.wf hu.wf rfl rfl hl hq (by omega) h1 hb hbs hc c2 c3 c4 c1 (by omega) hc2 (by omega) k4
  · subst h1
    exact replace_ins base i v u l q w hv hu hne hbs hj hl hq
end Go.Proofs.Ytfeiapkifoakoaa
