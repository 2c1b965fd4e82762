/-
  Contract of the reference's ends: the beginnings and ends of spans, ascending, each once.
-/
import Derived.Test.YtfeiapkifoakoaaSpRef2
namespace Go.Proofs.Ytfeiapkifoakoaa
set_option linter.unusedVariables false
set_option linter.unusedSimpArgs false
open Go.RowKit

def iv (xs : List Int) : List Value := xs.map fun x => .int .i64 x
theorem iv_length (xs : List Int) : (iv xs).length = xs.length := by simp [iv]
theorem iv_append (a b : List Int) : iv (a ++ b) = iv a ++ iv b := by simp [iv]
/-- The i-th beginning or end. -/
def ev (l : List Sp) (i : Nat) : Int := if i % 2 = 0 then (gt l (i / 2)).p else (gt l (i / 2)).e
def asc (E : List Int) : Prop := E.Pairwise (· < ·)
/-- E holds the first k of them, ascending, each once. -/
def EndsAt (l : List Sp) (k : Nat) (E : List Int) : Prop := asc E ∧ (∀ x, x ∈ E ↔ ∃ i, i < k ∧ ev l i = x) ∧ E.length ≤ k
theorem EndsAt.zero (l : List Sp) : EndsAt l 0 [] := ⟨List.Pairwise.nil, fun x => ⟨fun h => by simp at h, fun ⟨i, h, _⟩ => by omega⟩, Nat.le_refl _⟩
/-- The next one is there already. -/
theorem EndsAt.same {l : List Sp} {k : Nat} {E : List Int} (h : EndsAt l k E) (hm : ev l k ∈ E) : EndsAt l (k + 1) E := by
  refine ⟨h.1, fun x => ?_, by have := h.2.2; omega⟩
  rw [h.2.1 x]
  constructor
  · rintro ⟨i, hi, rfl⟩; exact ⟨i, by omega, rfl⟩
  · rintro ⟨i, hi, rfl⟩
    by_cases e : i = k
    · rw [e]; exact (h.2.1 _).1 hm
    · exact ⟨i, by omega, rfl⟩
/-- The next one goes in between. -/
theorem EndsAt.put {l : List Sp} {k : Nat} {A B : List Int} (h : EndsAt l k (A ++ B)) (ha : ∀ x ∈ A, x < ev l k) (hb : ∀ x ∈ B, ev l k < x) : EndsAt l (k + 1) (A ++ [ev l k] ++ B) := by
  have h1 := List.pairwise_append.1 h.1
  refine ⟨?_, fun x => ?_, by have := h.2.2; simp at this ⊢; omega⟩
  · rw [List.append_assoc]
    refine List.pairwise_append.2 ⟨h1.1, ?_, fun x hx y hy => ?_⟩
    · refine List.pairwise_append.2 ⟨List.pairwise_singleton _ _, h1.2.1, fun x hx y hy => ?_⟩
      simp at hx; subst hx; exact hb y hy
    · rcases List.mem_append.1 hy with hy | hy
      · simp at hy; subst hy; exact ha x hx
      · exact h1.2.2 x hx y hy
  · have h2 := h.2.1 x
    have e : x ∈ A ++ [ev l k] ++ B ↔ x ∈ A ++ B ∨ x = ev l k := by
      simp only [List.mem_append, List.mem_singleton]
      exact ⟨fun h => h.elim (fun h => h.elim (fun h => .inl (.inl h)) .inr) (fun h => .inl (.inr h)), fun h => h.elim (fun h => h.elim (fun h => .inl (.inl h)) .inr) (fun h => .inl (.inr h))⟩
    rw [e, h2]
    constructor
    · rintro (⟨i, hi, rfl⟩ | rfl)
      · exact ⟨i, by omega, rfl⟩
      · exact ⟨k, by omega, rfl⟩
    · rintro ⟨i, hi, rfl⟩
      by_cases e : i = k
      · rw [e]; exact .inr rfl
      · exact .inl ⟨i, by omega, rfl⟩
theorem asc_split {E : List Int} (h : asc E) (k : Nat) (hk : k < E.length) : ∀ x ∈ E.drop k, E[k] ≤ x := by
  rw [List.drop_eq_getElem_cons hk]
  intro x hx
  rcases List.mem_cons.1 hx with rfl | hx
  · exact Int.le_refl _
  · have h1 : asc (E.drop k) := List.Pairwise.sublist (List.drop_sublist _ _) h
    unfold asc at h1
    rw [List.drop_eq_getElem_cons hk] at h1
    have := (List.pairwise_cons.1 h1).1 x hx
    omega
theorem info3 : (Try.prog.info? 3).map (fun i => (i.zero, i.size, i.bytes)) = some (some (.int .i64 0), 1, 8) := by kernel_rfl
end Go.Proofs.Ytfeiapkifoakoaa
