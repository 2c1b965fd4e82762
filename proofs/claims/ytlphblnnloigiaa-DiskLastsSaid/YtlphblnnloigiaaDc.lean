/-
  Layer 6: what a crash does, file by file (mathematics).
-/
import Derived.Test.YtlphblnnloigiaaDf7
namespace Go.Proofs.Ytlphblnnloigiaa
set_option linter.unusedVariables false
set_option linter.unusedSimpArgs false
open Go.RowKit

def crashN (s : Dk) (kp : List Pc) (k : Nat) : Dk := { s with dur := (List.range 8).map (fun f => if f < k then bs (fileL (s.d f).data.toList kp f) else s.d f), pend := kp.filter fun p => decide (k ≤ p.f) }
theorem map_d (s : Dk) (h : s.dur.length = 8) : (List.range 8).map (fun f => s.d f) = s.dur := by
  apply List.ext_getElem
  · simp [h]
  · intro i h1 h2
    simp [Dk.d, List.getD_eq_getElem?_getD, h2]
theorem crashN_zero (s : Dk) (h : s.dur.length = 8) (kp : List Pc) : crashN s kp 0 = { s with pend := kp } := by
  unfold crashN
  congr 1
  · rw [← map_d s h]; simp
  · rw [List.filter_eq_self]; intro p _; simp
theorem crashN_d (s : Dk) (kp : List Pc) (k f : Nat) (hf : f < 8) : (crashN s kp k).d f = if f < k then bs (fileL (s.d f).data.toList kp f) else s.d f := by
  have e : (crashN s kp k).d f = ((List.range 8).map fun f => if f < k then bs (fileL (s.d f).data.toList kp f) else s.d f).getD f (bs []) := rfl
  rw [e, List.getD_eq_getElem?_getD, List.getElem?_map, List.getElem?_range hf]
  rfl
theorem crashN_bytes (s : Dk) (kp : List Pc) (k : Nat) (hk : k < 8) : (crashN s kp k).bytes k = bs (fileL (s.d k).data.toList kp k) := by
  unfold Dk.bytes
  rw [crashN_d s kp k k hk, if_neg (Nat.lt_irrefl _)]
  show bs (fileL _ (kp.filter _) k) = _
  rw [fileL_filter _ _ _ _ (fun p _ hp => by simp [hp])]
theorem crashN_step (s : Dk) (kp : List Pc) (k : Nat) (hk : k < 8) : (crashN s kp k).settle k (bs (fileL (s.d k).data.toList kp k)) = crashN s kp (k + 1) := by
  unfold Dk.settle crashN
  simp only [Dk.mk.injEq, and_true, true_and, List.filter_filter]
  constructor
  · apply List.ext_getElem
    · simp
    · intro i h1 h2
      rw [List.getElem_set]
      simp only [List.getElem_map, List.getElem_range]
      by_cases e : k = i
      · subst e
        rw [if_pos rfl, if_pos (by omega)]
      · rw [if_neg e]
        by_cases e2 : i < k
        · rw [if_pos e2, if_pos (by omega)]
        · rw [if_neg e2, if_neg (by omega)]
  · congr 1
    funext p
    rw [Bool.eq_iff_iff]
    simp only [Bool.and_eq_true, Bool.not_eq_true', decide_eq_true_iff, decide_eq_false_iff_not]
    omega
theorem crash_eq (s : Dk) (keep : List Int) (hd : s.down = false) (h : s.ok) : (({ crashN s (kept keep s.pend) 8 with down := true } : Dk).arm 0 []) = s.crash keep := by
  unfold Dk.crash
  rw [hd, if_neg (by simp)]
  unfold Dk.arm crashN
  simp only [Dk.mk.injEq, and_true, true_and]
  refine ⟨?_, ?_, rfl⟩
  · apply List.map_congr_left
    intro f hf
    rw [if_pos (by simpa using hf)]
  · rw [List.filter_eq_nil_iff]
    intro p hp
    obtain ⟨q, hq, h1, _⟩ := keptN_mem keep s.pend _ (Nat.le_refl _) p hp
    have := (h.ps q hq).1
    simp; omega
theorem kept_ok (s : Dk) (h : s.ok) (keep : List Int) (k : Nat) (hk : k ≤ s.pend.length) : (∀ p ∈ keptN keep s.pend k, p.f < 8 ∧ p.a + p.t.size ≤ 16777216 ∧ 0 < p.t.size ∧ p.t.size ≤ 32) ∧ (keptN keep s.pend k).length ≤ 1000000 := by
  refine ⟨fun p hp => ?_, ?_⟩
  · obtain ⟨q, hq, h1, h2, h3, h4⟩ := keptN_mem keep s.pend k hk p hp
    have := h.ps q hq
    omega
  · have := keptN_length keep s.pend k
    have := h.pn
    omega
theorem keptN_snoc (keep : List Int) (l : List Pc) (k xf xa : Nat) (xt : ByteArray) (h : gp l k = ⟨xf, xa, xt⟩) : keptN keep l (k + 1) = keptN keep l k ++ if surv ⟨xf, xa, xt⟩ k keep = 0 then [] else [⟨xf, xa, xt.extract 0 (surv ⟨xf, xa, xt⟩ k keep)⟩] := by
  rw [keptN, h]; rfl
end Go.Proofs.Ytlphblnnloigiaa
