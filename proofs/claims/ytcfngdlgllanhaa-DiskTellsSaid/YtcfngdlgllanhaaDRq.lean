/-
  Layer 6: the reference's Write and Turn tell what the disk's tell.
-/
import Derived.Test.YtcfngdlgllanhaaDRy
namespace Go.Proofs.Ytcfngdlgllanhaa
set_option linter.unusedVariables false
set_option linter.unusedSimpArgs false
open Go.RowKit

theorem raw_radd (s : Dk) (f a : Int) (t : ByteArray) (hd : s.down = false) : (s.raw f a t).2 = s.radd f a t := by
  unfold Dk.raw Dk.radd
  rw [if_neg (by rw [hd]; simp)]
  by_cases hf : isF f = false
  · rw [if_pos hf, if_neg (by rw [hf]; simp)]
  · have hf2 : isF f = true := by cases h : isF f; exact absurd h hf; rfl
    rw [if_neg hf]
    by_cases h1 : a < 0
    · rw [if_pos h1, if_neg (by omega)]
    · rw [if_neg h1]
      by_cases h2 : 16777216 - (t.size : Int) < a
      · rw [if_pos h2, if_neg (by omega)]
      · rw [if_neg h2, if_pos ⟨hf2, by omega, by omega⟩]
theorem wk_radd (s : Dk) (K : List Int) (f a : Int) (t : ByteArray) : (s.wk K).radd f a t = (s.radd f a t).wk K := by
  unfold Dk.radd
  split <;> rfl
theorem wk_write1 (s : Dk) (K : List Int) (f a : Int) (t : ByteArray) (hd : s.down = false) : (s.wk K).rwrite1 f a t = ((s.raw f a t).1, (s.raw f a t).2.wk K) := by
  rw [raw_radd s f a t hd]
  unfold Dk.rwrite1
  rw [wk_chk, wk_radd]
  unfold Dk.raw Dk.chk
  rw [if_neg (show ¬ s.down = true by rw [hd]; simp), if_neg (show ¬ s.down = true by rw [hd]; simp)]
  by_cases hf : isF f = false
  · rw [if_pos hf, if_pos (by decide), if_pos hf]
    unfold Dk.radd
    rw [if_neg (by rw [hf]; simp)]
  · rw [if_neg hf, if_neg (by simp), if_neg hf]
    by_cases h1 : a < 0
    · rw [if_pos h1, if_pos h1]
      unfold Dk.radd
      rw [if_neg (by omega)]
    · rw [if_neg h1, if_neg h1]
      by_cases h2 : 16777216 - (t.size : Int) < a
      · rw [if_pos (by omega), if_pos h2]
        unfold Dk.radd
        rw [if_neg (by omega)]
      · rw [if_neg (by omega), if_neg h2]
theorem wk_write (s : Dk) (K : List Int) (f a : Int) (t : ByteArray) (hK : s.calls ≠ 0 → K = s.keep) : ∃ K', (s.wk K).rwrite f a t = ((s.write f a t).1, (s.write f a t).2.wk K') ∧ ((s.write f a t).2.calls ≠ 0 → K' = (s.write f a t).2.keep) := by
  refine ⟨K, ?_⟩
  unfold Dk.rwrite Dk.write Dk.due
  cases hd : s.down
  · by_cases h1 : s.calls = 1
    · rw [if_pos (by rw [h1]; rfl)]
      have ht : s.tick = { s with calls := 0 } := by unfold Dk.tick; rw [if_neg (by rw [hd]; simp), h1]
      have htd : s.tick.down = false := by rw [ht]; exact hd
      have e : (s.wk K).rcomes f a t = (((s.tick.raw f a t).2).crash s.keep).wk K := by
        unfold Dk.rcomes
        rw [if_neg (show ¬ ((s.wk K).down = true ∨ (s.wk K).calls = 0) from fun h => h.elim (fun h => by rw [show (s.wk K).down = s.down from rfl, hd] at h; cases h) (fun h => by rw [show (s.wk K).calls = s.calls from rfl, h1] at h; cases h)), if_neg (show ¬ (s.wk K).calls ≠ 1 from fun h => h h1)]
        rw [show ({ s.wk K with calls := 0 } : Dk) = s.tick.wk K by rw [ht]; rfl, wk_radd, wk_rcrash, raw_radd _ f a t htd, show (s.wk K).keep = s.keep from hK (by omega)]
      rw [e]
      have hdn := crash_down (s.tick.raw f a t).2 s.keep
      constructor
      · unfold Dk.rwrite1
        rw [wk_chk]
        have hc : ((s.tick.raw f a t).2.crash s.keep).chk f = 10 := by unfold Dk.chk; rw [if_pos hdn]
        rw [hc, if_pos (by decide)]
      · intro h
        exfalso
        apply h
        have hdr : (s.tick.raw f a t).2.down = false := by
          rw [raw_radd _ f a t htd]
          unfold Dk.radd
          split <;> exact htd
        rw [Calm.crash hdr]
    · rw [if_neg (by simp; exact h1)]
      have htd : s.tick.down = false := by unfold Dk.tick; rw [if_neg (by rw [hd]; simp)]; exact hd
      have e : (s.wk K).rcomes f a t = s.tick.wk K := by
        by_cases h0 : s.calls = 0
        · unfold Dk.rcomes Dk.tick
          rw [if_pos (.inr (show (s.wk K).calls = 0 from h0)), if_neg (by rw [hd]; simp)]
          unfold Dk.wk
          rw [h0]
        · exact wk_rcomes s K f a t hd h0 h1
      rw [e, wk_write1 _ K f a t htd]
      refine ⟨rfl, fun h => ?_⟩
      have hcc : (s.tick.raw f a t).2.calls = s.calls - 1 ∧ (s.tick.raw f a t).2.keep = s.keep := by
        rw [raw_radd _ f a t htd]
        unfold Dk.radd Dk.tick
        rw [if_neg (show ¬ s.down = true by rw [hd]; simp)]
        split <;> exact ⟨rfl, rfl⟩
      rw [hcc.2]
      exact hK (fun h0 => h (by rw [hcc.1, h0]))
  · rw [if_neg (by simp)]
    have ht : s.tick = s := by unfold Dk.tick; rw [if_pos hd]
    have e : (s.wk K).rcomes f a t = s.wk K := by unfold Dk.rcomes; rw [if_pos (.inl (show (s.wk K).down = true from hd))]
    have hraw : s.raw f a t = (10, s) := by unfold Dk.raw; rw [if_pos hd]
    rw [e, ht, hraw]
    refine ⟨?_, hK⟩
    unfold Dk.rwrite1
    rw [wk_chk]
    have hc : s.chk f = 10 := by unfold Dk.chk; rw [if_pos hd]
    rw [hc, if_pos (by decide)]
theorem wk_turn (s : Dk) (K : List Int) (f g : Int) (hK : s.calls ≠ 0 → K = s.keep) : ∃ K', (s.wk K).rturn f g = ((s.turn f g).1, (s.turn f g).2.wk K') ∧ ((s.turn f g).2.calls ≠ 0 → K' = (s.turn f g).2.keep) := by
  obtain ⟨K', h1, h2⟩ := wk_enter s K hK
  refine ⟨K', ?_, ?_⟩
  · unfold Dk.rturn
    rw [h1]
    unfold Dk.rturn1 Dk.turn
    rw [wk_chk, wk_chk]
    generalize s.enter = s1
    unfold Dk.chk
    by_cases hd : s1.down = true
    · have e : s1.turn0 f g = (10, s1) := by unfold Dk.turn0; rw [if_pos hd]
      rw [e, if_pos hd, if_pos (by decide)]
    · rw [if_neg hd, if_neg hd]
      by_cases hf : isF f = false
      · have e : s1.turn0 f g = (1, s1) := by unfold Dk.turn0; rw [if_neg hd, if_pos (.inl hf)]
        rw [e, if_pos hf, if_pos (by decide)]
      · rw [if_neg hf, if_neg (by simp)]
        by_cases hg : isF g = false
        · have e : s1.turn0 f g = (1, s1) := by unfold Dk.turn0; rw [if_neg hd, if_pos (.inr hg)]
          rw [e, if_pos hg, if_pos (by decide)]
        · rw [if_neg hg, if_neg (by simp)]
          have hfg2 : ¬ (isF f = false ∨ isF g = false) := fun h => h.elim hf hg
          by_cases hfg : f = g
          · have e : s1.turn0 f g = (1, s1) := by unfold Dk.turn0; rw [if_neg hd, if_neg hfg2, if_pos hfg]
            rw [e, if_pos hfg]
          · rw [if_neg hfg]
            by_cases hp : s1.pending g.toNat = true
            · have e : s1.turn0 f g = (11, s1) := by unfold Dk.turn0; rw [if_neg hd, if_neg hfg2, if_neg hfg, if_pos hp]
              rw [e, if_pos (show (s1.wk K').pending g.toNat = true from hp)]
            · have e : s1.turn0 f g = (0, (s1.settle f.toNat (s1.d g.toNat)).settle g.toNat (bs [])) := by unfold Dk.turn0; rw [if_neg hd, if_neg hfg2, if_neg hfg, if_neg hp]
              rw [e, if_neg (show ¬ (s1.wk K').pending g.toNat = true from hp)]
              have hf' : 0 ≤ f ∧ f < 8 := by
                unfold isF at hf; simpa using hf
              have hg' : 0 ≤ g ∧ g < 8 := by
                unfold isF at hg; simpa using hg
              have hne : f.toNat ≠ g.toNat := by omega
              rw [turn_same s1 f.toNat g.toNat hne (by cases h : s1.pending g.toNat; rfl; exact absurd h hp)]
              rfl
  · unfold Dk.turn Dk.turn0
    split
    · exact h2
    · split
      · exact h2
      · split
        · exact h2
        · split
          · exact h2
          · exact h2
theorem crash_calls (s : Dk) (keep : List Int) (h : (s.crash keep).calls ≠ 0) : s.calls ≠ 0 ∧ (s.crash keep).keep = s.keep := by
  unfold Dk.crash at h ⊢
  split at h
  · rename_i hd
    rw [if_pos hd]
    exact ⟨h, rfl⟩
  · exact absurd rfl h
/-- One operation on both. -/
theorem wk_act (s : Dk) (K : List Int) (a : Ac) (hK : s.calls ≠ 0 → K = s.keep) : ∃ K', (s.wk K).ract a = ((s.act a).1, (s.act a).2.1, (s.act a).2.2.wk K') ∧ ((s.act a).2.2.calls ≠ 0 → K' = (s.act a).2.2.keep) := by
  unfold Dk.ract Dk.act
  split
  · obtain ⟨K', h1, h2⟩ := wk_write s K a.f a.n a.s hK
    exact ⟨K', by rw [h1], h2⟩
  split
  · obtain ⟨K', h1, h2⟩ := wk_flush s K a.f hK
    exact ⟨K', by rw [h1], h2⟩
  split
  · obtain ⟨K', h1, h2⟩ := wk_cut s K a.f a.n hK
    exact ⟨K', by rw [h1], h2⟩
  split
  · obtain ⟨K', h1, h2⟩ := wk_turn s K a.f a.g hK
    exact ⟨K', by rw [h1], h2⟩
  split
  · exact ⟨K, by rw [wk_rcrash], fun h => by
      have := crash_calls s a.keep h
      rw [show ((bs [], 0, s.crash a.keep) : ByteArray × Int × Dk).2.2.keep = s.keep from this.2]
      exact hK this.1⟩
  split
  · exact ⟨K, rfl, hK⟩
  split
  · exact ⟨K, rfl, hK⟩
  split
  · exact ⟨K, rfl, hK⟩
  split
  · exact ⟨a.keep, rfl, fun _ => rfl⟩
  · exact ⟨K, rfl, hK⟩
end Go.Proofs.Ytcfngdlgllanhaa
