/-
  The reference of layer 6: Arm.
  Layer 6: what the reference's state tells, and the disk's: the same but for the list that is kept.
  Layer 6: the reference's Write and Turn tell what the disk's tell.
  The reference of layer 6: New.
-/
import Derived.Test.YthdmcjiccbgknaaZRa
import Derived.Test.YthdmcjiccbgknaaZRd
import Derived.Test.YthdmcjiccbgknaaDp
namespace Go.Proofs.Ythdmcjiccbgknaa
set_option linter.unusedVariables false
set_option linter.unusedSimpArgs false
open Go.RowKit

set_option maxRecDepth 100000 in
theorem own_form {w : World} {base sz n : Nat} {e : TypeId} {v : Value} {xs : List Value} (h : w.ownsRow base e sz v n xs) : ∃ A cap, v = .slice A n cap := by
  rcases h.2 with ⟨rfl, h0⟩ | ⟨g, cap, cur, hv, _⟩
  · exact ⟨none, 0, by rw [h0]⟩
  · exact ⟨_, cap, hv⟩
end Go.Proofs.Ythdmcjiccbgknaa

namespace Go.Proofs.Ythdmcjiccbgknaa
set_option linter.unusedVariables false
set_option linter.unusedSimpArgs false
open Go.RowKit

/-- The same state with another list kept. -/
def Dk.wk (s : Dk) (K : List Int) : Dk := { s with keep := K }
set_option maxRecDepth 100000 in
theorem wk_rcrash (s : Dk) (K keep : List Int) : (s.wk K).rcrash keep = (s.crash keep).wk K := by
  unfold Dk.rcrash
  by_cases h : s.down = true
  · rw [if_pos (show (s.wk K).down = true from h)]
    unfold Dk.crash; rw [if_pos h]
  · rw [if_neg (show ¬ (s.wk K).down = true from h)]
    unfold Dk.crash
    rw [if_neg h, if_neg (show ¬ (s.wk K).down = true from h)]
    rfl
set_option maxRecDepth 100000 in
theorem wk_settle (s : Dk) (K : List Int) (f : Nat) (b : ByteArray) : (s.wk K).settle f b = (s.settle f b).wk K := rfl
set_option maxRecDepth 100000 in
theorem wk_chk (s : Dk) (K : List Int) (f : Int) : (s.wk K).chk f = s.chk f := rfl
set_option maxRecDepth 100000 in
theorem wk_bytes (s : Dk) (K : List Int) (f : Nat) : (s.wk K).bytes f = s.bytes f := rfl
set_option maxRecDepth 100000 in
theorem wk_read (s : Dk) (K : List Int) (f : Int) : (s.wk K).read f = s.read f := rfl
set_option maxRecDepth 100000 in
theorem wk_size (s : Dk) (K : List Int) (f : Int) : (s.wk K).size f = s.size f := rfl
set_option maxRecDepth 100000 in
/-- Behind the count: enter, up to the list kept. -/
theorem wk_enter (s : Dk) (K : List Int) (hK : s.calls ≠ 0 → K = s.keep) : ∃ K', (s.wk K).rcomes 0 0 { data := #[] } = s.enter.wk K' ∧ (s.enter.calls ≠ 0 → K' = s.enter.keep) := by
  refine ⟨K, ?_, ?_⟩
  · unfold Dk.rcomes Dk.enter Dk.due Dk.tick
    by_cases h : s.down = true
    · rw [if_pos (.inl (show (s.wk K).down = true from h)), if_neg (by rw [h]; simp), if_pos h]
    · by_cases h0 : s.calls = 0
      · rw [if_pos (.inr (show (s.wk K).calls = 0 from h0)), if_neg (by rw [h0]; simp), if_neg h]
        unfold Dk.wk
        rw [h0]
      · rw [if_neg (show ¬ ((s.wk K).down = true ∨ (s.wk K).calls = 0) from fun h' => h'.elim h h0)]
        have hd : s.down = false := by cases hs : s.down; rfl; exact absurd hs h
        by_cases h1 : s.calls = 1
        · rw [if_neg (show ¬ (s.wk K).calls ≠ 1 from fun h' => h' h1), if_pos (by rw [hd, h1]; rfl), if_neg h]
          have e : ({ s.wk K with calls := 0 } : Dk).radd 0 0 { data := #[] } = ({ s with calls := s.calls - 1 } : Dk).wk K := by
            unfold Dk.radd
            rw [if_pos ⟨rfl, by decide, by decide⟩, h1]
            show ({ s.wk K with calls := 0, pend := s.pend ++ pcs 0 0 0 { data := #[] } } : Dk) = _
            rw [pcs, List.append_nil]
            rfl
          rw [e, wk_rcrash]
          rw [show (s.wk K).keep = s.keep from hK h0]
        · rw [if_pos (show (s.wk K).calls ≠ 1 from h1), if_neg (by rw [hd]; simp; exact h1), if_neg h]
          rfl
  · intro hc
    have h0 : s.calls ≠ 0 := fun h0 => hc (by
      unfold Dk.enter Dk.due Dk.tick
      rw [if_neg (by rw [h0]; simp)]
      split
      · exact h0
      · show s.calls - 1 = 0; omega)
    rw [hK h0]
    unfold Dk.enter at hc ⊢
    split at hc
    · exfalso
      rename_i hd
      apply hc
      unfold Dk.due at hd
      rw [Bool.and_eq_true] at hd
      have h1 := hd.1
      unfold Dk.crash Dk.tick
      cases hs : s.down
      · simp [hs]
      · rw [hs] at h1; cases h1
    · rename_i hd
      rw [if_neg hd]
      unfold Dk.tick
      split <;> rfl
set_option maxRecDepth 100000 in
theorem wk_flush (s : Dk) (K : List Int) (f : Int) (hK : s.calls ≠ 0 → K = s.keep) : ∃ K', (s.wk K).rflush f = ((s.flush f).1, (s.flush f).2.wk K') ∧ ((s.flush f).2.calls ≠ 0 → K' = (s.flush f).2.keep) := by
  obtain ⟨K', h1, h2⟩ := wk_enter s K hK
  refine ⟨K', ?_, ?_⟩
  · unfold Dk.rflush
    rw [h1]
    unfold Dk.rflush1 Dk.flush Dk.flush0
    rw [wk_chk]
    split
    · rfl
    · show (if 0 < s.enter.lost then _ else _) = _
      split <;> rfl
  · unfold Dk.flush Dk.flush0
    split
    · exact h2
    · split
      · exact h2
      · exact h2
set_option maxRecDepth 100000 in
theorem wk_cut (s : Dk) (K : List Int) (f n : Int) (hK : s.calls ≠ 0 → K = s.keep) : ∃ K', (s.wk K).rcut f n = ((s.cut f n).1, (s.cut f n).2.wk K') ∧ ((s.cut f n).2.calls ≠ 0 → K' = (s.cut f n).2.keep) := by
  obtain ⟨K', h1, h2⟩ := wk_enter s K hK
  refine ⟨K', ?_, ?_⟩
  · unfold Dk.rcut
    rw [h1]
    unfold Dk.rcut1 Dk.cut Dk.cut0
    rw [wk_chk, wk_bytes]
    split
    · rfl
    · split <;> rfl
  · unfold Dk.cut Dk.cut0
    split
    · exact h2
    · split
      · exact h2
      · exact h2
set_option maxRecDepth 100000 in
theorem wk_rcomes (s : Dk) (K : List Int) (f a : Int) (t : ByteArray) (hd : s.down = false) (h0 : s.calls ≠ 0) (h1 : s.calls ≠ 1) : (s.wk K).rcomes f a t = s.tick.wk K := by
  unfold Dk.rcomes Dk.tick
  rw [if_neg (show ¬ ((s.wk K).down = true ∨ (s.wk K).calls = 0) from fun h => h.elim (fun h => by rw [show (s.wk K).down = s.down from rfl, hd] at h; cases h) h0), if_pos (show (s.wk K).calls ≠ 1 from h1), if_neg (by rw [hd]; simp)]
  rfl
set_option maxRecDepth 100000 in
theorem turn_same (s : Dk) (F G : Nat) (hne : F ≠ G) (hp : s.pending G = false) : (s.settle F (s.d G)).settle G (bs []) = { s with dur := (s.dur.set F (s.d G)).set G (bs []), pend := s.pend.filter fun p => !decide (p.f = F) } := by
  unfold Dk.settle
  simp only
  congr 1
  rw [List.filter_eq_self]
  intro p hp2
  have hm := (List.mem_filter.1 hp2).1
  unfold Dk.pending at hp
  have := List.any_eq_false.1 hp p hm
  simpa using this
end Go.Proofs.Ythdmcjiccbgknaa

namespace Go.Proofs.Ythdmcjiccbgknaa
set_option linter.unusedVariables false
set_option linter.unusedSimpArgs false
open Go.RowKit

set_option maxRecDepth 100000 in
theorem raw_radd (s : Dk) (f a : Int) (t : ByteArray) (hd : s.down = false) : (s.raw f a t).2 = s.radd f a t := by
  unfold Dk.raw Dk.radd
  rw [if_neg (by rw [hd]; simp)]
  by_cases hf : isF f = false
  · rw [if_pos hf, if_neg (by rw [hf]; simp)]
  · have hf2 : isF f = true := by cases h : isF f; exact absurd h hf; rfl
    rw [if_neg hf]
    by_cases h1 : a < 0
    · rw [if_pos h1, if_neg (by omega)]
    · rw [if_neg h1]
      by_cases h2 : 16777216 - (t.size : Int) < a
      · rw [if_pos h2, if_neg (by omega)]
      · rw [if_neg h2, if_pos ⟨hf2, by omega, by omega⟩]
set_option maxRecDepth 100000 in
theorem wk_radd (s : Dk) (K : List Int) (f a : Int) (t : ByteArray) : (s.wk K).radd f a t = (s.radd f a t).wk K := by
  unfold Dk.radd
  split <;> rfl
set_option maxRecDepth 100000 in
theorem wk_write1 (s : Dk) (K : List Int) (f a : Int) (t : ByteArray) (hd : s.down = false) : (s.wk K).rwrite1 f a t = ((s.raw f a t).1, (s.raw f a t).2.wk K) := by
  rw [raw_radd s f a t hd]
  unfold Dk.rwrite1
  rw [wk_chk, wk_radd]
  unfold Dk.raw Dk.chk
  rw [if_neg (show ¬ s.down = true by rw [hd]; simp), if_neg (show ¬ s.down = true by rw [hd]; simp)]
  by_cases hf : isF f = false
  · rw [if_pos hf, if_pos (by decide), if_pos hf]
    unfold Dk.radd
    rw [if_neg (by rw [hf]; simp)]
  · rw [if_neg hf, if_neg (by simp), if_neg hf]
    by_cases h1 : a < 0
    · rw [if_pos h1, if_pos h1]
      unfold Dk.radd
      rw [if_neg (by omega)]
    · rw [if_neg h1, if_neg h1]
      by_cases h2 : 16777216 - (t.size : Int) < a
      · rw [if_pos (by omega), if_pos h2]
        unfold Dk.radd
        rw [if_neg (by omega)]
      · rw [if_neg (by omega), if_neg h2]
set_option maxRecDepth 100000 in
theorem wk_write (s : Dk) (K : List Int) (f a : Int) (t : ByteArray) (hK : s.calls ≠ 0 → K = s.keep) : ∃ K', (s.wk K).rwrite f a t = ((s.write f a t).1, (s.write f a t).2.wk K') ∧ ((s.write f a t).2.calls ≠ 0 → K' = (s.write f a t).2.keep) := by
  refine ⟨K, ?_⟩
  unfold Dk.rwrite Dk.write Dk.due
  cases hd : s.down
  · by_cases h1 : s.calls = 1
    · rw [if_pos (by rw [h1]; rfl)]
      have ht : s.tick = { s with calls := 0 } := by unfold Dk.tick; rw [if_neg (by rw [hd]; simp), h1]
      have htd : s.tick.down = false := by rw [ht]; exact hd
      have e : (s.wk K).rcomes f a t = (((s.tick.raw f a t).2).crash s.keep).wk K := by
        unfold Dk.rcomes
        rw [if_neg (show ¬ ((s.wk K).down = true ∨ (s.wk K).calls = 0) from fun h => h.elim (fun h => by rw [show (s.wk K).down = s.down from rfl, hd] at h; cases h) (fun h => by rw [show (s.wk K).calls = s.calls from rfl, h1] at h; cases h)), if_neg (show ¬ (s.wk K).calls ≠ 1 from fun h => h h1)]
        rw [show ({ s.wk K with calls := 0 } : Dk) = s.tick.wk K by rw [ht]; rfl, wk_radd, wk_rcrash, raw_radd _ f a t htd, show (s.wk K).keep = s.keep from hK (by omega)]
      rw [e]
      have hdn := crash_down (s.tick.raw f a t).2 s.keep
      constructor
      · unfold Dk.rwrite1
        rw [wk_chk]
        have hc : ((s.tick.raw f a t).2.crash s.keep).chk f = 10 := by unfold Dk.chk; rw [if_pos hdn]
        rw [hc, if_pos (by decide)]
      · intro h
        exfalso
        apply h
        have hdr : (s.tick.raw f a t).2.down = false := by
          rw [raw_radd _ f a t htd]
          unfold Dk.radd
          split <;> exact htd
        rw [Calm.crash hdr]
    · rw [if_neg (by simp; exact h1)]
      have htd : s.tick.down = false := by unfold Dk.tick; rw [if_neg (by rw [hd]; simp)]; exact hd
      have e : (s.wk K).rcomes f a t = s.tick.wk K := by
        by_cases h0 : s.calls = 0
        · unfold Dk.rcomes Dk.tick
          rw [if_pos (.inr (show (s.wk K).calls = 0 from h0)), if_neg (by rw [hd]; simp)]
          unfold Dk.wk
          rw [h0]
        · exact wk_rcomes s K f a t hd h0 h1
      rw [e, wk_write1 _ K f a t htd]
      refine ⟨rfl, fun h => ?_⟩
      have hcc : (s.tick.raw f a t).2.calls = s.calls - 1 ∧ (s.tick.raw f a t).2.keep = s.keep := by
        rw [raw_radd _ f a t htd]
        unfold Dk.radd Dk.tick
        rw [if_neg (show ¬ s.down = true by rw [hd]; simp)]
        split <;> exact ⟨rfl, rfl⟩
      rw [hcc.2]
      exact hK (fun h0 => h (by rw [hcc.1, h0]))
  · rw [if_neg (by simp)]
    have ht : s.tick = s := by unfold Dk.tick; rw [if_pos hd]
    have e : (s.wk K).rcomes f a t = s.wk K := by unfold Dk.rcomes; rw [if_pos (.inl (show (s.wk K).down = true from hd))]
    have hraw : s.raw f a t = (10, s) := by unfold Dk.raw; rw [if_pos hd]
    rw [e, ht, hraw]
    refine ⟨?_, hK⟩
    unfold Dk.rwrite1
    rw [wk_chk]
    have hc : s.chk f = 10 := by unfold Dk.chk; rw [if_pos hd]
    rw [hc, if_pos (by decide)]
set_option maxRecDepth 100000 in
theorem wk_turn (s : Dk) (K : List Int) (f g : Int) (hK : s.calls ≠ 0 → K = s.keep) : ∃ K', (s.wk K).rturn f g = ((s.turn f g).1, (s.turn f g).2.wk K') ∧ ((s.turn f g).2.calls ≠ 0 → K' = (s.turn f g).2.keep) := by
  obtain ⟨K', h1, h2⟩ := wk_enter s K hK
  refine ⟨K', ?_, ?_⟩
  · unfold Dk.rturn
    rw [h1]
    unfold Dk.rturn1 Dk.turn
    rw [wk_chk, wk_chk]
    generalize s.enter = s1
    unfold Dk.chk
    by_cases hd : s1.down = true
    · have e : s1.turn0 f g = (10, s1) := by unfold Dk.turn0; rw [if_pos hd]
      rw [e, if_pos hd, if_pos (by decide)]
    · rw [if_neg hd, if_neg hd]
      by_cases hf : isF f = false
      · have e : s1.turn0 f g = (1, s1) := by unfold Dk.turn0; rw [if_neg hd, if_pos (.inl hf)]
        rw [e, if_pos hf, if_pos (by decide)]
      · rw [if_neg hf, if_neg (by simp)]
        by_cases hg : isF g = false
        · have e : s1.turn0 f g = (1, s1) := by unfold Dk.turn0; rw [if_neg hd, if_pos (.inr hg)]
          rw [e, if_pos hg, if_pos (by decide)]
        · rw [if_neg hg, if_neg (by simp)]
          have hfg2 : ¬ (isF f = false ∨ isF g = false) := fun h => h.elim hf hg
          by_cases hfg : f = g
          · have e : s1.turn0 f g = (1, s1) := by unfold Dk.turn0; rw [if_neg hd, if_neg hfg2, if_pos hfg]
            rw [e, if_pos hfg]
          · rw [if_neg hfg]
            by_cases hp : s1.pending g.toNat = true
            · have e : s1.turn0 f g = (11, s1) := by unfold Dk.turn0; rw [if_neg hd, if_neg hfg2, if_neg hfg, if_pos hp]
              rw [e, if_pos (show (s1.wk K').pending g.toNat = true from hp)]
            · have e : s1.turn0 f g = (0, (s1.settle f.toNat (s1.d g.toNat)).settle g.toNat (bs [])) := by unfold Dk.turn0; rw [if_neg hd, if_neg hfg2, if_neg hfg, if_neg hp]
              rw [e, if_neg (show ¬ (s1.wk K').pending g.toNat = true from hp)]
              have hf' : 0 ≤ f ∧ f < 8 := by
                unfold isF at hf; simpa using hf
              have hg' : 0 ≤ g ∧ g < 8 := by
                unfold isF at hg; simpa using hg
              have hne : f.toNat ≠ g.toNat := by omega
              rw [turn_same s1 f.toNat g.toNat hne (by cases h : s1.pending g.toNat; rfl; exact absurd h hp)]
              rfl
  · unfold Dk.turn Dk.turn0
    split
    · exact h2
    · split
      · exact h2
      · split
        · exact h2
        · split
          · exact h2
          · exact h2
set_option maxRecDepth 100000 in
theorem crash_calls (s : Dk) (keep : List Int) (h : (s.crash keep).calls ≠ 0) : s.calls ≠ 0 ∧ (s.crash keep).keep = s.keep := by
  unfold Dk.crash at h ⊢
  split at h
  · rename_i hd
    rw [if_pos hd]
    exact ⟨h, rfl⟩
  · exact absurd rfl h
end Go.Proofs.Ythdmcjiccbgknaa

namespace Go.Proofs.Ythdmcjiccbgknaa
set_option linter.unusedVariables false
set_option linter.unusedSimpArgs false
open Go.RowKit

set_option maxRecDepth 100000 in
theorem mkStr8 : ∀ w : World, (Instr.makeSlice 36 (.int .i64 8) (.int .i64 8)).run Try.prog w = .ok (.slice (some ⟨w.heap.size, 0, none⟩) 8 8) (w.alloc (.cells #[.string { data := #[] }, .string { data := #[] }, .string { data := #[] }, .string { data := #[] }, .string { data := #[] }, .string { data := #[] }, .string { data := #[] }, .string { data := #[] }] 9)) := fun w => by kernel_rfl
def RNew (w : World) (s : Dk) (e : Ending) (w2 : World) : Prop := ∃ c, e = .returned (.pointer (some ⟨c, 0, none⟩)) ∧ RefAt (fun k => w.heap.size ≤ k ∧ k < w2.heap.size) w2 c s ∧ Below w.heap.size w w2
set_option maxRecDepth 100000 in
set_option maxHeartbeats 4000000 in
theorem newR (w : World) : Calls Try.prog 11 #[] w (RNew w dk0) := by
  have hm8 := mkStr8
  go_enter Try.func11, Try.ntmps11
  go_wp2_with fail
  go_ret
  have hb0 := below_new w (.cells #[.string { data := #[] }, .string { data := #[] }, .string { data := #[] }, .string { data := #[] }, .string { data := #[] }, .string { data := #[] }, .string { data := #[] }, .string { data := #[] }] 9)
  refine ⟨w.heap.size + 1, rfl, ⟨.slice (some ⟨w.heap.size, 0, none⟩) 8 8, .slice none 0 0, .slice none 0 0, ⟨?_, World.ownsRow.alloc ⟨rfl, .inr ⟨w.heap.size, 8, _, rfl, Nat.zero_le _, heap_alloc_new w _, Nat.le_refl _, by decide, rfl, rfl⟩⟩ _, World.ownsRow_nil _ _ _ _, World.ownsRow_nil _ _ _ _, dk0_ok⟩, ⟨⟨by omega, by simp⟩, fun k hk => ?_, fun k hk => by simp [Value.ownBlock] at hk, fun k hk => by simp [Value.ownBlock] at hk⟩⟩, hb0.trans ((below_new _ _).mono (by simp))⟩
  · have := Blk.new (w.alloc (.cells #[.string { data := #[] }, .string { data := #[] }, .string { data := #[] }, .string { data := #[] }, .string { data := #[] }, .string { data := #[] }, .string { data := #[] }, .string { data := #[] }] 9)) 71 (rcells (.slice (some ⟨w.heap.size, 0, none⟩) 8 8) (.slice none 0 0) (.slice none 0 0) dk0)
    rw [show (w.alloc (.cells #[.string { data := #[] }, .string { data := #[] }, .string { data := #[] }, .string { data := #[] }, .string { data := #[] }, .string { data := #[] }, .string { data := #[] }, .string { data := #[] }] 9)).heap.size = w.heap.size + 1 by simp] at this
    exact this
  · simp [Value.ownBlock] at hk
    subst hk
    exact ⟨Nat.le_refl _, by simp; omega⟩
end Go.Proofs.Ythdmcjiccbgknaa
