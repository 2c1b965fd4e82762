/-
  The program's Reach and Way.
-/
import Derived.Test.YtmnhnighlgpjmaaGreatSrch
import Derived.Test.YtmnhnighlgpjmaaGreatSucc
import Derived.Test.YtmnhnighlgpjmaaGreatMathA
namespace Go.Proofs.YtmnhnighlgpjmaaGreat
set_option linter.unusedVariables false
set_option linter.unusedSimpArgs false
open Go.RowKit

theorem nest_lrow {w w' : World} {n g : Nat} {vs : List Value} {N : List (List Nat)} (hN : Succ n N) (h : Nest w' w.heap.size g vs (N.map zi)) (hn : n ≤ 1000) (hl : ∀ v, (N.getD v []).length ≤ 1000000) : LRow w' w'.heap.size (.slice (some ⟨g, 0, none⟩) n n) (N.map zi) := by
  have e : (N.map zi).length = n := by rw [List.length_map, hN.len]
  have := h.lrow (cap := n) (by rw [e]; omega) (fun l hl2 => by
    obtain ⟨x, hx, rfl⟩ := List.mem_map.1 hl2
    rw [zi_length]
    obtain ⟨i, hi, rfl⟩ := List.getElem_of_mem hx
    have := hl i
    rw [List.getD_eq_getElem?_getD, List.getElem?_eq_getElem hi] at this
    exact this)
  rw [e] at this
  exact this
theorem nextOf_len (n : Nat) (A : List (Nat × Nat)) (v : Nat) : ((nextOf n A).getD v []).length ≤ A.length := by
  rw [nextOf_get, srt_len]; exact addA_len n A v
theorem nextOf_asc (n : Nat) (A : List (Nat × Nat)) (v : Nat) : ((nextOf n A).getD v []).Pairwise (· ≤ ·) := by
  rw [nextOf_get]; exact srt_asc _
/-- A graph's search, from its arcs. -/
theorem searchA (l : List Sp) (rv : Value) (rs : List Int) (n g : Nat) (vs : List Value) (w0 w : World) (hri : rightB n l = true) (hn : n ≤ 900) (hl : l.length ≤ 1000) (h : Nest w w0.heap.size g vs ((nextOf n (toA l)).map zi)) (hrr : IRow w w.heap.size rv rs) :
    Calls Tryz.prog 50 #[.slice (some ⟨g, 0, none⟩) n n, rv] w (SrchPost (toA l) n rs w) := by
  have hA := right_toA hri
  have hLen : ∀ v, ((nextOf n (toA l)).getD v []).length ≤ 1000000 := fun v => by
    have h1 := nextOf_len n (toA l) v
    have h2 : (toA l).length = l.length := by simp [toA]
    omega
  exact searchP _ rv (nextOf n (toA l)) (toA l) rs n w (succ_nextOf hA) (fun v hv x => mem_nextOf hv) (nextOf_asc n _) hLen hn (nest_lrow (succ_nextOf hA) h (by omega) hLen) hrr

def NilPost (w : World) (e : Ending) (w' : World) : Prop := e = .returned (.slice none 0 0) ∧ Below w.heap.size w w'
def IPost (l : List Int) (w : World) (e : Ending) (w' : World) : Prop := ∃ u, e = .returned u ∧ OwnI w' w.heap.size u l ∧ Below w.heap.size w w'
theorem IPost.mk {l : List Int} {w w' : World} {e : Ending} (u : Value) (h1 : e = .returned u) (h2 : OwnI w' w.heap.size u l) (h3 : Below w.heap.size w w') : IPost l w e w' := ⟨u, h1, h2, h3⟩
def selTo (B : List Int) (k : Nat) : List Nat := (List.range k).filter fun v => !(B.getD v 0 == -1)
theorem selTo_yes (B : List Int) (k : Nat) (h : B.getD k 0 ≠ -1) : selTo B (k + 1) = selTo B k ++ [k] := by
  unfold selTo
  rw [List.range_succ, List.filter_append]
  congr 1
  rw [List.filter_cons]
  rw [if_pos (by rw [Bool.not_eq_true', beq_eq_false_iff_ne]; exact h)]; rfl
theorem selTo_no (B : List Int) (k : Nat) (h : B.getD k 0 = -1) : selTo B (k + 1) = selTo B k := by
  unfold selTo
  rw [List.range_succ, List.filter_append]
  rw [List.filter_cons, if_neg (by rw [h]; decide)]; simp
theorem selTo_len (B : List Int) (k : Nat) : (selTo B k).length ≤ k := by
  have := List.length_filter_le (fun v => !(B.getD v 0 == -1)) (List.range k)
  rw [List.length_range] at this; exact this
def ReachRel (B : List Int) (n : Nat) (w0 : World) (s i : Value) (wl : World) : Prop := ∃ k : Nat, i = .int .i64 k ∧ k ≤ n ∧ OwnI wl w0.heap.size s (zi (selTo B k)) ∧ Below w0.heap.size w0 wl
end Go.Proofs.YtmnhnighlgpjmaaGreat
