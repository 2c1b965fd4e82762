/-
  What the law GraphWays asks of a way.
-/
import Derived.Test.YtmnhnighlgpjmaaGreatLawZ
namespace Go.Proofs.YtmnhnighlgpjmaaGreat
set_option linter.unusedVariables false
set_option linter.unusedSimpArgs false
open Go.RowKit

def WayTo (A : Arcs) (n : Nat) (rs : List Int) (tt : Int) (p : List Nat) : Prop := (nodeB n tt = true ∧ WayOk A (rootsN n rs) tt.toNat p) ∨ (nodeB n tt = false ∧ p = [])
def WayAny (A : Arcs) (n : Nat) (rs : List Int) (tt : Int) (w : World) (e : Ending) (w' : World) : Prop := ∃ u p, e = .returned u ∧ OwnI w' w.heap.size u (zi p) ∧ WayTo A n rs tt p ∧ p.length ≤ n ∧ Below w.heap.size w w'
theorem way_any (n : Nat) (tt : Int) (v rv : Value) (l : List Sp) (rs : List Int) (w : World) (hri : rightB n l = true) (hn : n ≤ 900) (hl : l.length ≤ 1000) (hr : SRow w w.heap.size v l) (hrr : IRow w w.heap.size rv rs) :
    Calls Tryz.prog 36 #[.int .i64 n, v, rv, .int .i64 tt] w (WayAny (toA l) n rs tt w) := by
  cases hnd : nodeB n tt with
  | true =>
    obtain ⟨h1, h2⟩ := nodeB_iff.1 hnd
    obtain ⟨k, rfl⟩ : ∃ k : Nat, tt = k := ⟨tt.toNat, by omega⟩
    refine (way_ok n k v rv l rs w hri (by omega) hn hl hr hrr).mono ?_
    rintro e w' ⟨u, p, h3, h4, h5, h6⟩
    exact ⟨u, p, h3, h4, .inl ⟨hnd, h5⟩, way_len (right_toA hri) (by omega) h5, h6⟩
  | false =>
    refine (way_bad n tt v rv l w (.inr hnd) hr).mono ?_
    rintro e w' ⟨h3, h6⟩
    exact ⟨_, [], h3, OwnI.nil _ _, .inr ⟨hnd, rfl⟩, by simp, h6⟩
theorem WayTo.arc {l : List Sp} {n : Nat} {rs : List Int} {tt : Int} {p : List Nat} (hri : rightB n l = true) (h : WayTo (toA l) n rs tt p) {i x y : Nat} (hx : p[i]? = some x) (hy : p[i + 1]? = some y) : arcB l x y = true := by
  rcases h with ⟨_, h⟩ | ⟨_, rfl⟩
  · rcases h with ⟨rfl, _⟩ | ⟨_, h2, _⟩
    · simp at hx
    · exact (arcB_mem hri).2 (h2 i x y hx hy)
  · simp at hx
theorem WayTo.first {A : Arcs} {n : Nat} {rs : List Int} {tt : Int} {p : List Nat} (h : WayTo A n rs tt p) {x : Nat} (hx : p[0]? = some x) : inB rs x = true := by
  rw [inB_iff]
  rcases h with ⟨_, h⟩ | ⟨_, rfl⟩
  · rcases h with ⟨rfl, _⟩ | ⟨_, _, ⟨r, h3, h4⟩, _⟩
    · simp at hx
    · rw [hx] at h4; injection h4 with h4
      exact h4 ▸ (mem_rootsN.1 h3).1
  · simp at hx
theorem WayTo.last {A : Arcs} {n : Nat} {rs : List Int} {tt : Int} {p : List Nat} (h : WayTo A n rs tt p) {d x : Nat} (hd : p.length = d + 1) (hx : p[d]? = some x) : (x : Int) = tt := by
  rcases h with ⟨hn, h⟩ | ⟨_, rfl⟩
  · have hn := nodeB_iff.1 hn
    rcases h with ⟨rfl, _⟩ | ⟨_, _, _, h5, _⟩
    · simp at hx
    · rw [lst_get, hd, Nat.add_sub_cancel, List.getD_eq_getElem?_getD, hx] at h5
      simp at h5
      omega
  · simp at hx
theorem lessB_zi : ∀ (a b : List Nat), lessB (zi a) (zi b) = lexLt a b
  | [], [] => rfl
  | [], _ :: _ => rfl
  | _ :: _, [] => rfl
  | x :: a, y :: b => by
    have ih := lessB_zi a b
    unfold zi at ih ⊢
    simp only [List.map_cons, lessB, lexLt, ih]
    by_cases h : x = y
    · rw [if_pos h, if_pos (by omega)]
    · rw [if_neg h, if_neg (by omega)]
      rw [Bool.eq_iff_iff, decide_eq_true_iff, decide_eq_true_iff]; omega
theorem ways_end {l : List Sp} {n : Nat} {rs O : List Int} {tt z : Int} {p : List Nat} (hri : rightB n l = true) (hW : WayTo (toA l) n rs tt p) (hz : O[0]? = some z) (hr : z ∈ rs) (h0 : 0 ≤ z) (h1 : z < n) {d : Nat} (hd : O.length = d + 1) (hl : O[d]? = some tt)
    (hf : ∀ (i : Nat) (x y : Int), O[i]? = some x → O[i + 1]? = some y → arcB l x y = true) : 0 < p.length ∧ p.length ≤ O.length ∧ (p.length = O.length → lessB O (zi p) = false) := by
  have hrange : ∀ (i : Nat) (x : Int), O[i]? = some x → 0 ≤ x ∧ x < (n : Int) := fun i x hx => by
    cases i with
    | zero => rw [hz] at hx; injection hx with hx; omega
    | succ i =>
      have hi := (List.getElem?_eq_some_iff.1 hx).1
      obtain ⟨j, hj, h2, h3⟩ := arcB_iff.1 (hf i _ x (List.getElem?_eq_getElem (by omega)) hx)
      have := right_arc hri j hj
      omega
  obtain ⟨o, ho⟩ : ∃ o : List Nat, O = zi o := ⟨O.map Int.toNat, by
    apply List.ext_getElem?
    intro i
    unfold zi
    rw [List.getElem?_map, List.getElem?_map]
    cases e : O[i]? with
    | none => rfl
    | some x => have := hrange i x e; simp; omega⟩
  subst ho
  rw [zi_length] at hd ⊢
  have hoi : ∀ (i x : Nat), o[i]? = some x → (zi o)[i]? = some (x : Int) := fun i x h => by rw [zi_get, h]; rfl
  have hF : Fol (toA l) o := fun i x y hx hy => (arcB_mem hri).1 (hf i x y (hoi i x hx) (hoi (i + 1) y hy))
  have hne : o ≠ [] := fun e => by rw [e] at hd; simp at hd
  have hf0 : ∃ r ∈ rootsN n rs, o[0]? = some r := by
    refine ⟨z.toNat, mem_rootsN.2 ⟨by rw [Int.toNat_of_nonneg h0]; exact hr, by omega⟩, ?_⟩
    rw [zi_get] at hz
    cases e : o[0]? with
    | none => rw [e] at hz; simp at hz
    | some x => rw [e] at hz; simp at hz; rw [← hz]; simp
  have htt : (lst o : Int) = tt := by
    rw [lst_get, hd, Nat.add_sub_cancel, List.getD_eq_getElem?_getD]
    rw [zi_get] at hl
    cases e : o[d]? with
    | none => rw [e] at hl; simp at hl
    | some x => rw [e] at hl; simpa using hl
  have hnd : nodeB n tt = true := nodeB_iff.2 (hrange d tt hl)
  rcases hW with ⟨_, hW⟩ | ⟨h2, _⟩
  · have hlo : lst o = tt.toNat := by omega
    rcases hW with ⟨_, hn⟩ | ⟨hp, _, _, _, hmin⟩
    · obtain ⟨r, h3, h4⟩ := hf0
      exact absurd (hlo ▸ hF.rtl h4) (hn r h3)
    · have hs := hmin o hne hF hf0 hlo
      unfold sl at hs
      refine ⟨List.length_pos_iff.2 hp, by omega, fun e => ?_⟩
      rw [lessB_zi]
      cases hx : lexLt o p with
      | false => rfl
      | true => exact absurd (.inr ⟨e.symm, hx⟩) hs
  · rw [hnd] at h2; cases h2
end Go.Proofs.YtmnhnighlgpjmaaGreat
