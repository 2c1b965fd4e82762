/-
  Layer 6: what the reference's state tells, and the disk's: the same but for the list that is kept.
-/
import Derived.Test.YtcfngdlgllanhaaDRx
namespace Go.Proofs.Ytcfngdlgllanhaa
set_option linter.unusedVariables false
set_option linter.unusedSimpArgs false
open Go.RowKit

/-- The same state with another list kept. -/
def Dk.wk (s : Dk) (K : List Int) : Dk := { s with keep := K }
theorem wk_rcrash (s : Dk) (K keep : List Int) : (s.wk K).rcrash keep = (s.crash keep).wk K := by
  unfold Dk.rcrash
  by_cases h : s.down = true
  · rw [if_pos (show (s.wk K).down = true from h)]
    unfold Dk.crash; rw [if_pos h]
  · rw [if_neg (show ¬ (s.wk K).down = true from h)]
    unfold Dk.crash
    rw [if_neg h, if_neg (show ¬ (s.wk K).down = true from h)]
    rfl
theorem wk_settle (s : Dk) (K : List Int) (f : Nat) (b : ByteArray) : (s.wk K).settle f b = (s.settle f b).wk K := rfl
theorem wk_chk (s : Dk) (K : List Int) (f : Int) : (s.wk K).chk f = s.chk f := rfl
theorem wk_bytes (s : Dk) (K : List Int) (f : Nat) : (s.wk K).bytes f = s.bytes f := rfl
theorem wk_read (s : Dk) (K : List Int) (f : Int) : (s.wk K).read f = s.read f := rfl
theorem wk_size (s : Dk) (K : List Int) (f : Int) : (s.wk K).size f = s.size f := rfl
/-- Behind the count: enter, up to the list kept. -/
theorem wk_enter (s : Dk) (K : List Int) (hK : s.calls ≠ 0 → K = s.keep) : ∃ K', (s.wk K).rcomes 0 0 { data := #[] } = s.enter.wk K' ∧ (s.enter.calls ≠ 0 → K' = s.enter.keep) := by
  refine ⟨K, ?_, ?_⟩
  · unfold Dk.rcomes Dk.enter Dk.due Dk.tick
    by_cases h : s.down = true
    · rw [if_pos (.inl (show (s.wk K).down = true from h)), if_neg (by rw [h]; simp), if_pos h]
    · by_cases h0 : s.calls = 0
      · rw [if_pos (.inr (show (s.wk K).calls = 0 from h0)), if_neg (by rw [h0]; simp), if_neg h]
        unfold Dk.wk
        rw [h0]
      · rw [if_neg (show ¬ ((s.wk K).down = true ∨ (s.wk K).calls = 0) from fun h' => h'.elim h h0)]
        have hd : s.down = false := by cases hs : s.down; rfl; exact absurd hs h
        by_cases h1 : s.calls = 1
        · rw [if_neg (show ¬ (s.wk K).calls ≠ 1 from fun h' => h' h1), if_pos (by rw [hd, h1]; rfl), if_neg h]
          have e : ({ s.wk K with calls := 0 } : Dk).radd 0 0 { data := #[] } = ({ s with calls := s.calls - 1 } : Dk).wk K := by
            unfold Dk.radd
            rw [if_pos ⟨rfl, by decide, by decide⟩, h1]
            show ({ s.wk K with calls := 0, pend := s.pend ++ pcs 0 0 0 { data := #[] } } : Dk) = _
            rw [pcs, List.append_nil]
            rfl
          rw [e, wk_rcrash]
          rw [show (s.wk K).keep = s.keep from hK h0]
        · rw [if_pos (show (s.wk K).calls ≠ 1 from h1), if_neg (by rw [hd]; simp; exact h1), if_neg h]
          rfl
  · intro hc
    have h0 : s.calls ≠ 0 := fun h0 => hc (by
      unfold Dk.enter Dk.due Dk.tick
      rw [if_neg (by rw [h0]; simp)]
      split
      · exact h0
      · show s.calls - 1 = 0; omega)
    rw [hK h0]
    unfold Dk.enter at hc ⊢
    split at hc
    · exfalso
      rename_i hd
      apply hc
      unfold Dk.due at hd
      rw [Bool.and_eq_true] at hd
      have h1 := hd.1
      unfold Dk.crash Dk.tick
      cases hs : s.down
      · simp [hs]
      · rw [hs] at h1; cases h1
    · rename_i hd
      rw [if_neg hd]
      unfold Dk.tick
      split <;> rfl
theorem wk_flush (s : Dk) (K : List Int) (f : Int) (hK : s.calls ≠ 0 → K = s.keep) : ∃ K', (s.wk K).rflush f = ((s.flush f).1, (s.flush f).2.wk K') ∧ ((s.flush f).2.calls ≠ 0 → K' = (s.flush f).2.keep) := by
  obtain ⟨K', h1, h2⟩ := wk_enter s K hK
  refine ⟨K', ?_, ?_⟩
  · unfold Dk.rflush
    rw [h1]
    unfold Dk.rflush1 Dk.flush Dk.flush0
    rw [wk_chk]
    split
    · rfl
    · show (if 0 < s.enter.lost then _ else _) = _
      split <;> rfl
  · unfold Dk.flush Dk.flush0
    split
    · exact h2
    · split
      · exact h2
      · exact h2
theorem wk_cut (s : Dk) (K : List Int) (f n : Int) (hK : s.calls ≠ 0 → K = s.keep) : ∃ K', (s.wk K).rcut f n = ((s.cut f n).1, (s.cut f n).2.wk K') ∧ ((s.cut f n).2.calls ≠ 0 → K' = (s.cut f n).2.keep) := by
  obtain ⟨K', h1, h2⟩ := wk_enter s K hK
  refine ⟨K', ?_, ?_⟩
  · unfold Dk.rcut
    rw [h1]
    unfold Dk.rcut1 Dk.cut Dk.cut0
    rw [wk_chk, wk_bytes]
    split
    · rfl
    · split <;> rfl
  · unfold Dk.cut Dk.cut0
    split
    · exact h2
    · split
      · exact h2
      · exact h2
theorem wk_rcomes (s : Dk) (K : List Int) (f a : Int) (t : ByteArray) (hd : s.down = false) (h0 : s.calls ≠ 0) (h1 : s.calls ≠ 1) : (s.wk K).rcomes f a t = s.tick.wk K := by
  unfold Dk.rcomes Dk.tick
  rw [if_neg (show ¬ ((s.wk K).down = true ∨ (s.wk K).calls = 0) from fun h => h.elim (fun h => by rw [show (s.wk K).down = s.down from rfl, hd] at h; cases h) h0), if_pos (show (s.wk K).calls ≠ 1 from h1), if_neg (by rw [hd]; simp)]
  rfl
theorem turn_same (s : Dk) (F G : Nat) (hne : F ≠ G) (hp : s.pending G = false) : (s.settle F (s.d G)).settle G (bs []) = { s with dur := (s.dur.set F (s.d G)).set G (bs []), pend := s.pend.filter fun p => !decide (p.f = F) } := by
  unfold Dk.settle
  simp only
  congr 1
  rw [List.filter_eq_self]
  intro p hp2
  have hm := (List.mem_filter.1 hp2).1
  unfold Dk.pending at hp
  have := List.any_eq_false.1 hp p hm
  simpa using this
end Go.Proofs.Ytcfngdlgllanhaa
