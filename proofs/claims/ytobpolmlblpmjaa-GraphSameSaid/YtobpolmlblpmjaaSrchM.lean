/-
  A search in breadth: what its list of nodes before says.
-/
import Derived.Test.YtobpolmlblpmjaaBfs
namespace Go.Proofs.Ytobpolmlblpmjaa
set_option linter.unusedVariables false
set_option linter.unusedSimpArgs false

/-- The node before the last one; the last one itself where it is alone. -/
def par (p : List Nat) : Nat := if p.dropLast = [] then lst p else lst p.dropLast
theorem par_one (r : Nat) : par [r] = r := rfl
theorem par_snoc (q : List Nat) (w : Nat) (h : q ≠ []) : par (q ++ [w]) = lst q := by
  unfold par
  rw [List.dropLast_concat, if_neg h]
structure BefOk (n : Nat) (B : List Int) (P : List (List Nat)) : Prop where
  len : B.length = n
  out : ∀ v, v < n → v ∉ P.map lst → B.getD v 0 = -1
  par : ∀ p ∈ P, lst p < n ∧ B.getD (lst p) 0 = (par p : Int)
theorem BefOk.start (n : Nat) : BefOk n (List.replicate n (-1)) [] := by
  refine ⟨by simp, fun v hv _ => ?_, by simp⟩
  rw [List.getD_eq_getElem?_getD, List.getElem?_replicate, if_pos hv]; rfl
theorem BefOk.has {n : Nat} {B : List Int} {P : List (List Nat)} (h : BefOk n B P) {v : Nat} (hv : v < n) : B.getD v 0 = -1 ↔ v ∉ P.map lst := by
  refine ⟨fun h1 h2 => ?_, h.out v hv⟩
  obtain ⟨p, hp, rfl⟩ := List.mem_map.1 h2
  have := (h.par p hp).2
  omega
theorem BefOk.mark {n : Nat} {B : List Int} {P : List (List Nat)} (h : BefOk n B P) {p : List Nat} {v u : Nat} (hv : v < n) (hp : lst p = v) (hu : Go.Proofs.Ytobpolmlblpmjaa.par p = u) (hn : v ∉ P.map lst) : BefOk n (B.set v (u : Int)) (P ++ [p]) := by
  refine ⟨by rw [List.length_set]; exact h.len, fun x hx hxp => ?_, fun r hr => ?_⟩
  · rw [List.map_append, List.mem_append, not_or] at hxp
    have hne : ¬ v = x := fun e => hxp.2 (by simp [hp, e])
    rw [List.getD_eq_getElem?_getD, List.getElem?_set_ne hne, ← List.getD_eq_getElem?_getD]
    exact h.out x hx hxp.1
  · rcases List.mem_append.1 hr with h1 | h1
    · have hne : ¬ v = lst r := fun e => hn (e ▸ List.mem_map_of_mem h1)
      refine ⟨(h.par r h1).1, ?_⟩
      rw [List.getD_eq_getElem?_getD, List.getElem?_set_ne hne, ← List.getD_eq_getElem?_getD]
      exact (h.par r h1).2
    · rw [List.mem_singleton.1 h1, hp, hu]
      refine ⟨hv, ?_⟩
      rw [List.getD_eq_getElem?_getD, List.getElem?_set_self (by rw [h.len]; exact hv)]; rfl
/-- The roots that are nodes. -/
def rootsN (n : Nat) (rs : List Int) : List Nat := (rs.filter fun z : Int => decide (0 ≤ z) && decide (z < (n : Int))).map Int.toNat
theorem mem_rootsN {n : Nat} {rs : List Int} {r : Nat} : r ∈ rootsN n rs ↔ (r : Int) ∈ rs ∧ r < n := by
  unfold rootsN
  simp only [List.mem_map, List.mem_filter, Bool.and_eq_true, decide_eq_true_iff]
  constructor
  · rintro ⟨z, ⟨h1, h2, h3⟩, rfl⟩
    have : ((z.toNat : Nat) : Int) = z := by omega
    rw [this]
    exact ⟨h1, by omega⟩
  · rintro ⟨h1, h2⟩
    exact ⟨(r : Int), ⟨h1, by omega, by omega⟩, by omega⟩
/-- The first k of the sorted roots are entered: L. -/
structure Rt (n : Nat) (rs : List Int) (k : Nat) (L : List Nat) : Prop where
  asc : L.Pairwise (· < ·)
  mem : ∀ r, r ∈ L ↔ (r : Int) ∈ rs.take k ∧ r < n
theorem Rt.start (n : Nat) (rs : List Int) : Rt n rs 0 [] := ⟨by simp, by simp⟩
theorem take_mem {rs : List Int} {k : Nat} (hk : k < rs.length) (z : Int) : z ∈ rs.take (k + 1) ↔ z ∈ rs.take k ∨ z = rs[k] := by
  rw [List.take_succ_eq_append_getElem hk, List.mem_append, List.mem_singleton]
theorem Rt.bad {n : Nat} {rs : List Int} {k : Nat} {L : List Nat} (h : Rt n rs k L) (hk : k < rs.length) (hz : ¬ (0 ≤ rs[k] ∧ rs[k] < n)) : Rt n rs (k + 1) L := by
  refine ⟨h.asc, fun r => ?_⟩
  rw [h.mem, take_mem hk]
  refine ⟨fun h1 => ⟨.inl h1.1, h1.2⟩, fun h1 => ⟨?_, h1.2⟩⟩
  rcases h1.1 with h2 | h2
  · exact h2
  · exact absurd ⟨by omega, by omega⟩ hz
theorem Rt.old {n : Nat} {rs : List Int} {k : Nat} {L : List Nat} (h : Rt n rs k L) (hk : k < rs.length) {r : Nat} (hr : rs[k] = (r : Int)) (hm : r ∈ L) : Rt n rs (k + 1) L := by
  refine ⟨h.asc, fun x => ?_⟩
  rw [h.mem, take_mem hk]
  refine ⟨fun h1 => ⟨.inl h1.1, h1.2⟩, fun h1 => ⟨?_, h1.2⟩⟩
  rcases h1.1 with h2 | h2
  · exact h2
  · have : x = r := by omega
    rw [this]; exact ((h.mem r).1 hm).1
theorem Rt.new {n : Nat} {rs : List Int} {k : Nat} {L : List Nat} (h : Rt n rs k L) (hs : rs.Pairwise (· ≤ ·)) (hk : k < rs.length) {r : Nat} (hr : rs[k] = (r : Int)) (hn : r < n) (hm : r ∉ L) : Rt n rs (k + 1) (L ++ [r]) := by
  refine ⟨?_, fun x => ?_⟩
  · rw [List.pairwise_append]
    refine ⟨h.asc, by simp, fun x hx y hy => ?_⟩
    rw [List.mem_singleton.1 hy]
    have h1 := ((h.mem x).1 hx).1
    obtain ⟨i, hi, h2⟩ := List.getElem_of_mem h1
    rw [List.length_take] at hi
    rw [List.getElem_take] at h2
    have h3 := List.pairwise_iff_getElem.1 hs i k (by omega) hk (by omega)
    have h4 : x ≠ r := fun e => hm (e ▸ hx)
    omega
  · rw [List.mem_append, h.mem, take_mem hk, List.mem_singleton]
    constructor
    · rintro (h1 | h1)
      · exact ⟨.inl h1.1, h1.2⟩
      · subst h1; exact ⟨.inr hr.symm, hn⟩
    · rintro ⟨h1 | h1, h2⟩
      · exact .inl ⟨h1, h2⟩
      · right; omega
def one (r : Nat) : List Nat := [r]
theorem map_one (L : List Nat) : (L.map one).map lst = L := by
  rw [List.map_map]
  have : (lst ∘ one) = id := by funext r; rfl
  rw [this, List.map_id]
theorem Rt.bfs {A : Arcs} {n : Nat} {rs rs0 : List Int} {L : List Nat} (h : Rt n rs rs.length L) (hp : rs.Perm rs0) : Bfs A (rootsN n rs0) (L.map one) 0 [] := by
  refine Bfs.start A (fun r => ?_) h.asc
  rw [h.mem, mem_rootsN, List.take_length, hp.mem_iff]
/-- What a search has found. -/
structure Found (A : Arcs) (R : List Nat) (n : Nat) (B : List Int) (P : List (List Nat)) : Prop where
  ways : Ways A R P
  bef : BefOk n B P
end Go.Proofs.Ytobpolmlblpmjaa
