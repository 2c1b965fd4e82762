/-
  What the laws ask of reaching and of ways.
  What the law GraphLoops asks of parts and loops.
  The reference's ways: the mathematics of its rounds.
  The reference's ways: what its loops hold.
-/
import Derived.Test.YtmnhnighlgpjmaaGreatSmall
import Derived.Test.YtmnhnighlgpjmaaGreatWayP
import Derived.Test.YtmnhnighlgpjmaaGreatReachP
namespace Go.Proofs.YtmnhnighlgpjmaaGreat
set_option linter.unusedVariables false
set_option linter.unusedSimpArgs false
open Go.RowKit

theorem mem_zi {l : List Nat} {v : Nat} : (v : Int) ∈ zi l ↔ v ∈ l := by
  unfold zi
  rw [List.mem_map]
  constructor
  · rintro ⟨x, h1, h2⟩
    have : x = v := by omega
    exact this ▸ h1
  · intro h; exact ⟨v, h, rfl⟩
theorem inB_zi {l : List Nat} {v : Nat} : inB (zi l) v = true ↔ v ∈ l := by rw [inB_iff, mem_zi]
theorem inB_false {l : List Nat} {v : Nat} : inB (zi l) v = false ↔ v ∉ l := by rw [Bool.eq_false_iff, ne_eq, inB_zi]
theorem arcB_mem {l : List Sp} {n x y : Nat} (h : rightB n l = true) : arcB l x y = true ↔ (x, y) ∈ toA l := by
  rw [arcB_iff]
  constructor
  · rintro ⟨i, hi, h1, h2⟩
    unfold toA
    refine List.mem_map.2 ⟨l[i], List.getElem_mem hi, ?_⟩
    rw [gt_get l i hi] at h1 h2
    rw [h1, h2]; rfl
  · intro hm
    unfold toA at hm
    obtain ⟨s, hs, he⟩ := List.mem_map.1 hm
    obtain ⟨i, hi, rfl⟩ := List.getElem_of_mem hs
    have hr := right_arc h i hi
    rw [gt_get l i hi] at hr
    injection he with e1 e2
    exact ⟨i, hi, by rw [gt_get l i hi]; omega, by rw [gt_get l i hi]; omega⟩
theorem mem_toA_get {l : List Sp} {n k x y : Nat} (h : rightB n l = true) (hk : k < l.length) (hx : (gt l k).p = x) (hy : (gt l k).n = y) : (x, y) ∈ toA l := (arcB_mem h).1 (arcB_iff.2 ⟨k, hk, hx, hy⟩)
theorem way_nil {A : Arcs} {R p : List Nat} {v : Nat} (h : WayOk A R v p) : p = [] ↔ ¬ ∃ r ∈ R, RT A r v := by
  rcases h with ⟨h1, h2⟩ | ⟨h1, h2, ⟨r, h3, h4⟩, h5, _⟩
  · exact ⟨fun _ ⟨r, h3, h4⟩ => h2 r h3 h4, fun _ => h1⟩
  · exact ⟨fun e => absurd e h1, fun hn => absurd ⟨r, h3, h5 ▸ h2.rtl h4⟩ hn⟩
theorem way_in {A : Arcs} {R p : List Nat} {n v : Nat} (hv : v < n) (h : WayOk A R v p) : inB (zi (reachOf A n R)) v = decide (0 < p.length) := by
  rw [Bool.eq_iff_iff, inB_zi, mem_reachOf, decide_eq_true_iff]
  have h1 := way_nil h
  constructor
  · rintro ⟨_, h2⟩
    apply List.length_pos_iff.2
    intro e
    exact h1.1 e h2
  · intro h2
    exact ⟨hv, Classical.byContradiction fun h3 => absurd (h1.2 h3) (List.length_pos_iff.1 h2)⟩
theorem reach_root {A : Arcs} {n : Nat} {rs : List Int} {z : Int} (h : z ∈ rs) (h0 : 0 ≤ z) (h1 : z < n) : inB (zi (reachOf A n (rootsN n rs))) z = true := by
  obtain ⟨x, rfl⟩ : ∃ x : Nat, z = x := ⟨z.toNat, by omega⟩
  rw [inB_zi, mem_reachOf]
  exact ⟨by omega, x, mem_rootsN.2 ⟨h, by omega⟩, .refl⟩
theorem reach_arc {A : Arcs} {n : Nat} {R : List Nat} (hA : ∀ a ∈ A, a.1 < n ∧ a.2 < n) {x y : Nat} (h : (x, y) ∈ A) (hx : inB (zi (reachOf A n R)) x = true) : inB (zi (reachOf A n R)) y = true := by
  rw [inB_zi, mem_reachOf] at hx ⊢
  obtain ⟨_, r, h1, h2⟩ := hx
  exact ⟨(hA _ h).2, r, h1, h2.trans (.one h)⟩
theorem reachOf_len (A : Arcs) (n : Nat) (R : List Nat) : (reachOf A n R).length ≤ n := by
  unfold reachOf
  have := List.length_filter_le (fun v => R.any fun r => reachB A r v) (List.range n)
  rw [List.length_range] at this; exact this
theorem right_nat {n : Int} {l : List Sp} (h : rightB n l = true) : ∃ N : Nat, n = N := by
  unfold rightB at h
  simp only [Bool.and_eq_true, decide_eq_true_iff] at h
  exact ⟨n.toNat, by omega⟩
end Go.Proofs.YtmnhnighlgpjmaaGreat

namespace Go.Proofs.YtmnhnighlgpjmaaGreat
set_option linter.unusedVariables false
set_option linter.unusedSimpArgs false
open Go.RowKit

def stepC (a : Nat) (s : Nat × Bool) : Nat := if s.2 = true ∧ s.1 < a then s.1 else a
def lstC (m : Nat) (F : List (Nat × Bool)) : Nat := F.foldl stepC m
def flag (l : List Sp) (p : List Nat) (v : Nat) : Nat × Bool := (v, decide (1 < p.length) || arcB l v v)
def FL (l : List Sp) (L : List (List Nat)) : List (Nat × Bool) := L.flatMap fun p => p.map (flag l p)
theorem lstC_snoc (m : Nat) (F : List (Nat × Bool)) (s : Nat × Bool) : lstC m (F ++ [s]) = stepC (lstC m F) s := by simp [lstC]
theorem FL_step (l : List Sp) (p : List Nat) (Y : List (Nat × Bool)) (j : Nat) (hj : j < p.length) : Y ++ (p.take (j + 1)).map (flag l p) = (Y ++ (p.take j).map (flag l p)) ++ [flag l p p[j]] := by
  rw [List.take_succ_eq_append_getElem hj, List.map_append, ← List.append_assoc]; rfl
theorem FL_next (l : List Sp) (L : List (List Nat)) (k : Nat) (hk : k < L.length) : FL l (L.take (k + 1)) = FL l (L.take k) ++ L[k].map (flag l L[k]) := by
  unfold FL
  rw [List.take_succ_eq_append_getElem hk, List.flatMap_append]; simp
theorem lstC_le : ∀ (F : List (Nat × Bool)) (m : Nat), lstC m F ≤ m ∧ (∀ v, (v, true) ∈ F → lstC m F ≤ v) ∧ (lstC m F = m ∨ (lstC m F, true) ∈ F)
  | [], m => ⟨Nat.le_refl _, by simp, .inl rfl⟩
  | s :: F, m => by
    obtain ⟨h1, h2, h3⟩ := lstC_le F (stepC m s)
    have e : lstC m (s :: F) = lstC (stepC m s) F := rfl
    rw [e]
    have h4 : stepC m s ≤ m := by unfold stepC; split <;> omega
    refine ⟨by omega, fun v hv => ?_, ?_⟩
    · rcases List.mem_cons.1 hv with rfl | hv
      · have : stepC m (v, true) ≤ v := by unfold stepC; split <;> simp at * <;> omega
        omega
      · exact h2 v hv
    · rcases h3 with h3 | h3
      · rw [h3]
        unfold stepC
        split
        · rename_i hl
          right
          obtain ⟨a, b⟩ := s
          simp only at hl
          rw [← hl.1]
          exact List.mem_cons_self
        · left; rfl
      · right; exact List.mem_cons_of_mem _ h3
theorem two_of {A : Arcs} {n u v : Nat} (hv : v ∈ partOf A n u) : 1 < (partOf A n u).length ↔ ∃ w, w < n ∧ w ≠ v ∧ eqv A v w := by
  have h3 := mem_partOf.1 hv
  constructor
  · intro h
    have hasc := partOf_asc0 A n u
    have hmem : ∀ x ∈ partOf A n u, x < n ∧ eqv A u x := fun x hx => mem_partOf.1 hx
    generalize partOf A n u = p at *
    match p, h with
    | a :: b :: t, _ =>
      have hab := (List.pairwise_cons.1 hasc).1 b (by simp)
      have ha := hmem a (by simp)
      have hb := hmem b (by simp)
      by_cases e : a = v
      · exact ⟨b, hb.1, by omega, h3.2.symm.trans hb.2⟩
      · exact ⟨a, ha.1, e, h3.2.symm.trans ha.2⟩
  · rintro ⟨w, hw, hwv, he⟩
    have h4 : w ∈ partOf A n u := mem_partOf.2 ⟨hw, h3.2.trans he⟩
    match hl : partOf A n u with
    | [] => rw [hl] at hv; simp at hv
    | [a] => rw [hl] at hv h4; simp at hv h4; omega
    | a :: b :: t => simp
theorem FL_mem {l : List Sp} {n v : Nat} (hri : rightB n l = true) : (v, true) ∈ FL l (partsOf (toA l) n) ↔ v < n ∧ onLoop (toA l) n v := by
  have hP := partsOf_ok (toA l) n
  unfold FL
  rw [List.mem_flatMap]
  constructor
  · rintro ⟨p, hp, hm⟩
    obtain ⟨x, hx, he⟩ := List.mem_map.1 hm
    unfold flag at he
    injection he with e1 e2
    subst e1
    obtain ⟨u, hu, rfl⟩ := hP.each p hp
    refine ⟨(mem_partOf.1 hx).1, ?_⟩
    rw [Bool.or_eq_true, decide_eq_true_iff] at e2
    rcases e2 with e2 | e2
    · exact .inr ((two_of hx).1 e2)
    · exact .inl ((arcB_mem hri).1 e2)
  · rintro ⟨hv, ho⟩
    rcases hP.all v hv with h1 | ⟨p, h1, h2⟩
    · simp at h1
    · refine ⟨p, h1, List.mem_map.2 ⟨v, h2, ?_⟩⟩
      obtain ⟨u, hu, rfl⟩ := hP.each p h1
      unfold flag
      congr 1
      rw [Bool.or_eq_true, decide_eq_true_iff]
      rcases ho with ho | ho
      · exact .inr ((arcB_mem hri).2 ho)
      · exact .inl ((two_of h2).2 ho)
theorem lstC_ok {l : List Sp} {n : Nat} (hri : rightB n l = true) : LeastOn (toA l) n (lstC n (FL l (partsOf (toA l) n))) := by
  obtain ⟨h1, h2, h3⟩ := lstC_le (FL l (partsOf (toA l) n)) n
  refine ⟨h1, fun hm => ?_, fun v hv ho => h2 v ((FL_mem hri).2 ⟨hv, ho⟩)⟩
  rcases h3 with h3 | h3
  · omega
  · exact ((FL_mem hri).1 h3).2
/-- A loop, as the law reads it. -/
structure LoopFit (l : List Sp) (n m : Nat) (p : List Nat) : Prop where
  lt : m < n
  head : p[0]? = some m
  cyc : ∀ (i x y : Nat), p[i]? = some x → p[if i + 1 < p.length then i + 1 else 0]? = some y → arcB l x y = true
  nd : ∀ (i x : Nat), p[i]? = some x → inB (zi (p.take i)) x = false
  len : p.length ≤ n
theorem loop_fit {l : List Sp} {n m : Nat} {p : List Nat} (hri : rightB n l = true) (hm : LeastOn (toA l) n m) (h : LoopOk (toA l) n p) : (m = n ∧ p = []) ∨ LoopFit l n m p := by
  obtain ⟨m', h1, h2⟩ := h
  obtain rfl := hm.unique h1
  rcases h2 with h2 | ⟨h2, q, h3, h4, rfl⟩
  · exact .inl h2
  · right
    have hA := right_toA hri
    have hnd := h3.nodup
    have hq : lst q = m ∧ Fol (toA l) q ∧ ∃ r ∈ succsOf (toA l) m, q[0]? = some r := by
      rcases h3 with ⟨e, _⟩ | ⟨_, g2, g3, g4, _⟩
      · exact absurd e h4
      · exact ⟨g4, g2, g3⟩
    obtain ⟨q1, q2, r, q3, q4⟩ := hq
    have hqe := eq_snoc h4
    rw [q1] at hqe
    obtain ⟨d, hd⟩ : ∃ d, q.dropLast = d := ⟨_, rfl⟩
    rw [hd] at hqe ⊢
    have hF : Fol (toA l) (m :: q) := by
      cases hc : q with
      | nil => exact absurd hc h4
      | cons a t =>
        rw [hc] at q4 q2
        simp at q4
        exact q2.cons (q4 ▸ mem_succsOf.1 q3)
    rw [hqe] at hF hnd
    have hnd2 := List.nodup_append.1 hnd
    have hnp : (m :: d).Nodup := List.nodup_cons.2 ⟨fun h => hnd2.2.2 m h m (by simp) rfl, hnd2.1⟩
    have hget : ∀ (i x : Nat), (m :: d)[i]? = some x → (m :: (d ++ [m]))[i]? = some x := fun i x hx => by
      have : m :: (d ++ [m]) = (m :: d) ++ [m] := rfl
      rw [this, List.getElem?_append_left (List.getElem?_eq_some_iff.1 hx).1]; exact hx
    refine ⟨h2, rfl, fun i x y hx hy => ?_, fun i x hx => ?_, ?_⟩
    · rw [arcB_mem hri]
      have hi := (List.getElem?_eq_some_iff.1 hx).1
      by_cases hl : i + 1 < (m :: d).length
      · rw [if_pos hl] at hy
        exact hF i x y (hget i x hx) (hget (i + 1) y hy)
      · rw [if_neg hl] at hy
        simp at hy
        subst hy
        refine hF i x m (hget i x hx) ?_
        have : m :: (d ++ [m]) = (m :: d) ++ [m] := rfl
        rw [this, List.getElem?_append_right (by omega), show i + 1 - (m :: d).length = 0 by omega]; rfl
    · rw [inB_false]
      intro hm2
      obtain ⟨j, hj, he⟩ := List.getElem_of_mem hm2
      rw [List.length_take] at hj
      rw [List.getElem_take] at he
      have hi := List.getElem?_eq_some_iff.1 hx
      rw [List.nodup_iff_pairwise_ne, List.pairwise_iff_getElem] at hnp
      exact hnp j i (by omega) hi.1 (by omega) (by rw [he, hi.2])
    · have h5 := way_len hA h2 h3
      rw [hqe] at h5
      simpa using h5
theorem IRow.take {w : World} {B n cap : Nat} {A : Option Addr} {l : List Int} (h : IRow w B (.slice A n cap) l) (k : Nat) (hk : k ≤ l.length) : IRow w B (.slice A k cap) (l.take k) := by
  obtain ⟨h1, A2, c2, hv, h2, h3, h4, h5⟩ := h
  injection hv with e1 e2 e3
  subst e1; subst e3
  have hl : (l.take k).length = k := by rw [List.length_take]; omega
  refine ⟨by omega, A, cap, by rw [hl], by omega, h3, h4, fun h0 => ?_⟩
  obtain ⟨b, off, h6, h7, h8⟩ := h5 (by omega)
  exact ⟨b, off, h6, h7, fun i hi => by rw [h8 i (by omega), List.getElem_take]⟩
theorem zi_take (l : List Nat) (k : Nat) : (zi l).take k = zi (l.take k) := by simp [zi, List.map_take]
end Go.Proofs.YtmnhnighlgpjmaaGreat

namespace Go.Proofs.YtmnhnighlgpjmaaGreat
set_option linter.unusedVariables false
set_option linter.unusedSimpArgs false

/-- A way from a root to a node. -/
def IsWay (A : Arcs) (R : List Nat) (v : Nat) (m : List Nat) : Prop := m ≠ [] ∧ Fol A m ∧ (∃ r ∈ R, m[0]? = some r) ∧ lst m = v
theorem IsWay.snoc {A : Arcs} {R m : List Nat} {v w : Nat} (h : IsWay A R v m) (ha : (v, w) ∈ A) : IsWay A R w (m ++ [w]) := by
  obtain ⟨h1, h2, ⟨r, h3, h4⟩, h5⟩ := h
  have he := eq_snoc h1
  rw [h5] at he
  refine ⟨by simp, ?_, ⟨r, h3, ?_⟩, by simp⟩
  · rw [he] at h2 ⊢
    exact h2.snoc ha
  · rw [List.getElem?_append_left (List.length_pos_iff.2 h1)]; exact h4
/-- A way of more than one node goes on from a way. -/
theorem IsWay.pre {A : Arcs} {R m : List Nat} {w : Nat} (h : IsWay A R w m) (hl : 1 < m.length) : ∃ m' v, m = m' ++ [w] ∧ IsWay A R v m' ∧ (v, w) ∈ A ∧ m'.length + 1 = m.length := by
  obtain ⟨h1, h2, ⟨r, h3, h4⟩, h5⟩ := h
  have he := eq_snoc h1
  rw [h5] at he
  have hd : m.dropLast ≠ [] := fun e => by rw [e] at he; rw [he] at hl; simp at hl
  have hld : m.dropLast.length + 1 = m.length := by rw [List.length_dropLast]; omega
  have he2 := eq_snoc hd
  refine ⟨m.dropLast, lst m.dropLast, he, ⟨hd, ?_, ⟨r, h3, ?_⟩, rfl⟩, ?_, hld⟩
  · rw [he] at h2; exact h2.pre
  · rw [he, List.getElem?_append_left (List.length_pos_iff.2 hd)] at h4; exact h4
  · rw [he, he2] at h2; exact h2.last
structure OutOk (A : Arcs) (R : List Nat) (n r : Nat) (out : List (List Nat)) : Prop where
  len : out.length = n
  no : ∀ v, v < n → out.getD v [] = [] → ∀ m, IsWay A R v m → r + 1 < m.length
  yes : ∀ v, v < n → out.getD v [] ≠ [] → WayOk A R v (out.getD v []) ∧ (out.getD v []).length ≤ r + 1
theorem WayOk.isWay {A : Arcs} {R m : List Nat} {v : Nat} (h : WayOk A R v m) (hm : m ≠ []) : IsWay A R v m ∧ ∀ p, IsWay A R v p → ¬ sl p m := by
  rcases h with ⟨e, _⟩ | ⟨h1, h2, h3, h4, h5⟩
  · exact absurd e hm
  · exact ⟨⟨h1, h2, h3, h4⟩, fun p hp => h5 p hp.1 hp.2.1 hp.2.2.1 hp.2.2.2⟩
theorem IsWay.ok {A : Arcs} {R m : List Nat} {v : Nat} (h : IsWay A R v m) (hm : ∀ p, IsWay A R v p → ¬ sl p m) : WayOk A R v m :=
  .inr ⟨h.1, h.2.1, h.2.2.1, h.2.2.2, fun p h1 h2 h3 h4 => hm p ⟨h1, h2, h3, h4⟩⟩
/-- A candidate of the next round. -/
def Cand (A : Arcs) (out : List (List Nat)) (w : Nat) (c : List Nat) : Prop := ∃ v, (v, w) ∈ A ∧ out.getD v [] ≠ [] ∧ c = out.getD v [] ++ [w]
theorem sl_of_snoc {a b : List Nat} {x : Nat} (h : ¬ sl a b) (hl : a.length = b.length) : ¬ sl (a ++ [x]) (b ++ [x]) := by
  rcases sl_tri a b with h1 | h1 | h1
  · exact absurd h1 h
  · rw [h1]; intro h2
    rcases h2 with h2 | ⟨_, h2⟩
    · omega
    · rcases sl_tri (b ++ [x]) (b ++ [x]) with h3 | h3 | h3
      · exact absurd h3 (sl_irr _)
      · exact absurd (.inr ⟨rfl, h2⟩) (sl_irr (b ++ [x]))
      · exact absurd h3 (sl_irr _)
  · have h2 := sl_snoc x x h1
    intro h3
    exact sl_irr _ (sl_trans h3 h2)
/-- The candidates that no other is less than are the least ways. -/
theorem OutOk.cand {A : Arcs} {R : List Nat} {n r w : Nat} {out : List (List Nat)} (h : OutOk A R n r out) (hA : ∀ a ∈ A, a.1 < n ∧ a.2 < n) (hw : w < n) (he : out.getD w [] = []) {c : List Nat} (hc : Cand A out w c) :
    IsWay A R w c ∧ c.length = r + 2 := by
  obtain ⟨v, h1, h2, rfl⟩ := hc
  have hv := (hA _ h1).1
  obtain ⟨h3, h4⟩ := h.yes v hv h2
  have h5 := (h3.isWay h2).1.snoc h1
  have h6 := h.no w hw he _ h5
  rw [List.length_append, List.length_singleton] at h6 ⊢
  exact ⟨h5, by omega⟩
theorem OutOk.least {A : Arcs} {R : List Nat} {n r w : Nat} {out : List (List Nat)} (h : OutOk A R n r out) (hA : ∀ a ∈ A, a.1 < n ∧ a.2 < n) (hw : w < n) (he : out.getD w [] = []) {m : List Nat} (hm : IsWay A R w m) (hl : m.length ≤ r + 2) :
    ∃ c, Cand A out w c ∧ ¬ sl m c := by
  have h1 := h.no w hw he m hm
  obtain ⟨m', v, rfl, h2, h3, h4⟩ := hm.pre (by omega)
  have hv := (hA _ h3).1
  have hne : out.getD v [] ≠ [] := fun e => by
    have := h.no v hv e m' h2
    rw [List.length_append, List.length_singleton] at hl
    omega
  have hc : Cand A out w (out.getD v [] ++ [w]) := ⟨v, h3, hne, rfl⟩
  have hcl := (h.cand hA hw he hc).2
  obtain ⟨h5, _⟩ := h.yes v hv hne
  refine ⟨_, hc, sl_of_snoc ((h5.isWay hne).2 m' h2) ?_⟩
  rw [List.length_append, List.length_singleton] at hcl hl h1
  omega
/-- The next round. -/
theorem OutOk.next {A : Arcs} {R : List Nat} {n r : Nat} {out out' : List (List Nat)} (h : OutOk A R n r out) (hA : ∀ a ∈ A, a.1 < n ∧ a.2 < n) (hl : out'.length = n) (h1 : ∀ v, v < n → out.getD v [] ≠ [] → out'.getD v [] = out.getD v [])
    (h2 : ∀ v, v < n → out.getD v [] = [] → (out'.getD v [] = [] ∧ ∀ c, ¬ Cand A out v c) ∨ (Cand A out v (out'.getD v []) ∧ ∀ c, Cand A out v c → ¬ sl c (out'.getD v []))) : OutOk A R n (r + 1) out' := by
  refine ⟨hl, fun v hv he m hm => ?_, fun v hv he => ?_⟩
  · have he0 : out.getD v [] = [] := Classical.byContradiction fun hn => hn (by rw [← h1 v hv hn]; exact he)
    rcases h2 v hv he0 with ⟨_, h3⟩ | ⟨⟨u, _, _, h4⟩, _⟩
    · apply Classical.byContradiction
      intro hn
      obtain ⟨c, hc, _⟩ := h.least hA hv he0 hm (by omega)
      exact h3 c hc
    · rw [he] at h4; simp at h4
  · by_cases he0 : out.getD v [] = []
    · rcases h2 v hv he0 with ⟨h3, _⟩ | ⟨h3, h4⟩
      · exact absurd h3 he
      · obtain ⟨h5, h6⟩ := h.cand hA hv he0 h3
        refine ⟨h5.ok fun p hp hs => ?_, by omega⟩
        have hpl : p.length ≤ r + 2 := by
          rcases hs with hs | ⟨hs, _⟩ <;> omega
        obtain ⟨c, hc, hn⟩ := h.least hA hv he0 hp hpl
        have hcl := (h.cand hA hv he0 hc).2
        rcases sl_tri p c with h7 | h7 | h7
        · exact hn h7
        · exact h4 c hc (h7 ▸ hs)
        · exact h4 c hc (sl_trans h7 hs)
    · rw [h1 v hv he0]
      have := h.yes v hv he0
      exact ⟨this.1, by omega⟩
theorem IsWay.lt {A : Arcs} {R m : List Nat} {n v : Nat} (hA : ∀ a ∈ A, a.1 < n ∧ a.2 < n) (hv : v < n) (h : IsWay A R v m) : ∀ x ∈ m, x < n := by
  obtain ⟨h1, h2, _, h5⟩ := h
  intro x hx
  obtain ⟨i, hi, rfl⟩ := List.getElem_of_mem hx
  by_cases hl : i + 1 < m.length
  · exact (hA _ (h2 i _ _ (List.getElem?_eq_getElem hi) (List.getElem?_eq_getElem hl))).1
  · rw [lst_get, List.getD_eq_getElem?_getD, show m.length - 1 = i by omega, List.getElem?_eq_getElem hi] at h5
    simp at h5
    omega
theorem IsWay.cut {A : Arcs} {R l : List Nat} {v : Nat} (h : IsWay A R v l) {i j : Nat} (hij : i < j) (hj : j < l.length) (e : l[i]? = l[j]?) : IsWay A R v (l.take (i + 1) ++ l.drop (j + 1)) ∧ (l.take (i + 1) ++ l.drop (j + 1)).length < l.length := by
  obtain ⟨h1, h2, ⟨r, h3, h4⟩, h5⟩ := h
  have hg := cut_get l hij hj
  have hlen : (l.take (i + 1) ++ l.drop (j + 1)).length = l.length - (j - i) := by rw [List.length_append, List.length_take, List.length_drop]; omega
  refine ⟨⟨fun h0 => ?_, fun k x y hx hy => ?_, ⟨r, h3, ?_⟩, ?_⟩, by omega⟩
  · rw [h0] at hlen; simp at hlen; omega
  · rw [hg] at hx hy
    by_cases hk : k + 1 ≤ i
    · rw [if_pos (by omega)] at hx
      rw [if_pos hk] at hy
      exact h2 k x y hx hy
    · rw [if_neg hk] at hy
      by_cases hk2 : k ≤ i
      · rw [if_pos hk2, show k = i by omega, e] at hx
        exact h2 j x y hx (by rw [← hy]; congr 1; omega)
      · rw [if_neg hk2] at hx
        exact h2 _ x y hx (by rw [← hy]; congr 1; omega)
  · rw [hg, if_pos (Nat.zero_le _)]; exact h4
  · rw [← h5, lst_get, lst_get, List.getD_eq_getElem?_getD, List.getD_eq_getElem?_getD, hg, hlen]
    by_cases hk : l.length - (j - i) - 1 ≤ i
    · rw [if_pos hk, show l.length - (j - i) - 1 = i by omega, e]
      congr 2; omega
    · rw [if_neg hk]
      congr 2; omega
theorem IsWay.short {A : Arcs} {R : List Nat} {n v : Nat} (hA : ∀ a ∈ A, a.1 < n ∧ a.2 < n) (hv : v < n) : ∀ (k : Nat) (m : List Nat), m.length ≤ k → IsWay A R v m → ∃ p, IsWay A R v p ∧ p.length ≤ n
  | 0, m, hk, h => absurd (List.length_pos_iff.2 h.1) (by omega)
  | k + 1, m, hk, h => by
    by_cases hl : m.length ≤ n
    · exact ⟨m, h, hl⟩
    · have hnn : ¬ m.Nodup := fun hd => hl (nodup_le n m hd (h.lt hA hv))
      rw [List.nodup_iff_pairwise_ne, List.pairwise_iff_getElem] at hnn
      have hex : ∃ (i j : Nat) (hi : i < m.length) (hj : j < m.length), i < j ∧ m[i] = m[j] := by
        apply Classical.byContradiction
        intro hc
        exact hnn (fun i j hi hj hij e => hc ⟨i, j, hi, hj, hij, e⟩)
      obtain ⟨i, j, hi, hj, hij, e⟩ := hex
      obtain ⟨h1, h2⟩ := h.cut hij hj (by rw [List.getElem?_eq_getElem hi, List.getElem?_eq_getElem hj, e])
      exact IsWay.short hA hv k _ (by omega) h1
theorem OutOk.over {A : Arcs} {R : List Nat} {n : Nat} {out : List (List Nat)} (h : OutOk A R n n out) (hA : ∀ a ∈ A, a.1 < n ∧ a.2 < n) (v : Nat) (hv : v < n) : WayOk A R v (out.getD v []) := by
  by_cases he : out.getD v [] = []
  · rw [he]
    refine .inl ⟨rfl, fun r hr ht => ?_⟩
    obtain ⟨m, h1, h2⟩ := ht.way
    obtain ⟨p, h3, h4⟩ := IsWay.short hA hv _ _ (Nat.le_refl _) (⟨by simp, h1, ⟨r, hr, h2⟩, by simp⟩ : IsWay A R v (m ++ [v]))
    have := h.no v hv he p h3
    omega
  · exact (h.yes v hv he).1
/-- What the reference's Loop has found out of a node with none, and of one with a loop. -/
def NoLoop (A : Arcs) (u : Nat) : Prop := (u, u) ∉ A ∧ ∀ w, w ≠ u → (w, u) ∈ A → ¬ RT A u w
def HasLoop (A : Arcs) (v : Nat) (p : List Nat) : Prop := ((v, v) ∈ A ∧ p = [v]) ∨ ((v, v) ∉ A ∧ p ≠ [] ∧ (∃ w, w ≠ v ∧ (w, v) ∈ A ∧ WayOk A [v] w p) ∧ ∀ w, w ≠ v → (w, v) ∈ A → ∃ x, WayOk A [v] w x ∧ (x = [] ∨ ¬ sl x p))
theorem RT.last {A : Arcs} {v w : Nat} (h : RT A v w) : v = w ∨ ∃ u, RT A v u ∧ (u, w) ∈ A := by
  cases h with
  | refl => exact .inl rfl
  | step h1 h2 => exact .inr ⟨_, h1, h2⟩
theorem NoLoop.off {A : Arcs} {n u : Nat} (h : NoLoop A u) : ¬ onLoop A n u := by
  rintro (h1 | ⟨w, _, hw, he⟩)
  · exact h.1 h1
  · rcases he.2.last with h2 | ⟨x, h2, h3⟩
    · exact hw h2
    · by_cases hx : x = u
      · exact h.1 (hx ▸ h3)
      · exact h.2 x hx h3 (he.1.trans h2)
theorem sl_cons {v : Nat} {a b : List Nat} : sl (v :: a) (v :: b) ↔ sl a b := by
  unfold sl
  simp [lexLt]
theorem HasLoop.ok {A : Arcs} {n v : Nat} {p : List Nat} (hA : ∀ a ∈ A, a.1 < n ∧ a.2 < n) (hv : v < n) (h : HasLoop A v p) (hu : ∀ u, u < v → NoLoop A u) : LoopOk A n p := by
  have hon : onLoop A n v := by
    rcases h with ⟨h, _⟩ | ⟨_, hp, ⟨w, hw, ha, hq⟩, _⟩
    · exact .inl h
    · obtain ⟨⟨h1, h2, ⟨r, h3, h4⟩, h5⟩, _⟩ := hq.isWay hp
      simp only [List.mem_singleton] at h3
      subst h3
      exact .inr ⟨w, (hA _ ha).1, hw, h5 ▸ h2.rtl h4, .one ha⟩
  have hl : LeastOn A n v := ⟨by omega, fun _ => hon, fun u hun ho => Classical.byContradiction fun hc => (hu u (by omega)).off ho⟩
  refine ⟨v, hl, .inr ⟨hv, ?_⟩⟩
  rcases h with ⟨h, rfl⟩ | ⟨hvv, hp, ⟨w, hw, ha, hq⟩, hmin⟩
  · refine ⟨[v], IsWay.ok ⟨by simp, Fol.one A v, ⟨v, mem_succsOf.2 h, rfl⟩, rfl⟩ (fun m hm hs => ?_), by simp, rfl⟩
    obtain ⟨h1, _, _, h4⟩ := hm
    rcases hs with hs | ⟨hs, hs2⟩
    · have := List.length_pos_iff.2 h1
      rw [List.length_singleton] at hs; omega
    · match m, hs with
      | [a], _ =>
        simp at h4
        subst h4
        rw [lex_irr] at hs2; cases hs2
  · obtain ⟨⟨h1, h2, ⟨r, h3, h4⟩, h5⟩, _⟩ := hq.isWay hp
    simp only [List.mem_singleton] at h3
    subst h3
    obtain ⟨t, rfl⟩ : ∃ t, p = r :: t := by
      cases p with
      | nil => exact absurd rfl h1
      | cons a t => simp at h4; exact ⟨t, by rw [h4]⟩
    have ht : t ≠ [] := fun e => by rw [e] at h5; exact hw h5.symm
    have hlt : lst (r :: t) = lst t := by
      have := eq_snoc ht
      rw [this]
      show lst ((r :: t.dropLast) ++ [lst t]) = lst (t.dropLast ++ [lst t])
      rw [lst_snoc, lst_snoc]
    rw [hlt] at h5
    have hte := eq_snoc ht
    rw [h5] at hte
    refine ⟨t ++ [r], IsWay.ok ⟨by simp, ?_, ?_, by simp⟩ (fun m hm hs => ?_), by simp, by simp⟩
    · have hF : Fol A t := Fol.post (q := [r]) h2
      rw [hte] at hF ⊢
      exact hF.snoc ha
    · cases t with
      | nil => exact absurd rfl ht
      | cons b t => exact ⟨b, mem_succsOf.2 (h2 0 r b rfl rfl), rfl⟩
    · by_cases hm1 : 1 < m.length
      · obtain ⟨m', x, rfl, g1, g2, _⟩ := hm.pre hm1
        have hxr : x ≠ r := fun e => hvv (e ▸ g2)
        obtain ⟨g3, g4, ⟨s, g5, g6⟩, g7⟩ := g1
        have hcw : IsWay A [r] x (r :: m') := by
          refine ⟨by simp, ?_, ⟨r, by simp, rfl⟩, ?_⟩
          · cases m' with
            | nil => exact absurd rfl g3
            | cons a t2 =>
              simp at g6
              exact g4.cons (g6 ▸ mem_succsOf.1 g5)
          · have := eq_snoc g3
            rw [g7] at this
            rw [this]
            show lst ((r :: m'.dropLast) ++ [x]) = x
            rw [lst_snoc]
        obtain ⟨y, hy, hy2⟩ := hmin x hxr g2
        have hyn : y ≠ [] := fun e => (way_nil hy).1 e ⟨r, by simp, hcw.2.2.2 ▸ hcw.2.1.rtl rfl⟩
        have hy3 := hy2.resolve_left hyn
        have hy4 := (hy.isWay hyn).2 _ hcw
        have hsm : sl m' t := Classical.byContradiction fun hn => sl_le_snoc r hn hs
        have hsc := (sl_cons (v := r)).2 hsm
        rcases sl_tri (r :: m') y with h6 | h6 | h6
        · exact hy4 h6
        · exact hy3 (h6 ▸ hsc)
        · exact hy3 (sl_trans h6 hsc)
      · have h6 := List.length_pos_iff.2 hm.1
        obtain ⟨a, rfl⟩ := List.length_eq_one_iff.1 (by omega : m.length = 1)
        obtain ⟨_, _, ⟨s, g5, g6⟩, g7⟩ := hm
        simp at g6 g7
        subst g7; subst g6
        exact hvv (mem_succsOf.1 g5)
end Go.Proofs.YtmnhnighlgpjmaaGreat

namespace Go.Proofs.YtmnhnighlgpjmaaGreat
set_option linter.unusedVariables false
set_option linter.unusedSimpArgs false
open Go.RowKit

/-- The first loop: the roots, each a list of one. -/
structure Beg (N : Nat) (R : List Nat) (L : List (List Nat)) : Prop where
  len : L.length = N
  yes : ∀ v, v < N → v ∈ R → L.getD v [] = [v]
  no : ∀ v, v < N → v ∉ R → L.getD v [] = []
theorem getL {L : List (List Nat)} {x y : Nat} {l : List Nat} (hx : x < L.length) : (L.set x l).getD y [] = if y = x then l else L.getD y [] := by
  rw [List.getD_eq_getElem?_getD, List.getD_eq_getElem?_getD, List.getElem?_set]
  by_cases h : x = y
  · subst h; simp [hx]
  · rw [if_neg h, if_neg (fun e => h e.symm)]
theorem Beg.start (N : Nat) : Beg N [] (List.replicate N []) := ⟨by simp, fun v _ h => by simp at h, fun v hv _ => by rw [List.getD_eq_getElem?_getD, List.getElem?_replicate, if_pos hv]; rfl⟩
theorem Beg.old {N r : Nat} {R : List Nat} {L : List (List Nat)} (h : Beg N R L) (hr : r ∈ R) : Beg N (R ++ [r]) L := by
  have hm : ∀ v, v ∈ R ++ [r] ↔ v ∈ R := fun v => by
    rw [List.mem_append, List.mem_singleton]
    exact ⟨fun h => h.elim id (fun e => e ▸ hr), .inl⟩
  exact ⟨h.len, fun v hv h1 => h.yes v hv ((hm v).1 h1), fun v hv h1 => h.no v hv (fun h2 => h1 ((hm v).2 h2))⟩
theorem Beg.new {N r : Nat} {R : List Nat} {L : List (List Nat)} (h : Beg N R L) (hr : r < N) : Beg N (R ++ [r]) (L.set r [r]) := by
  refine ⟨by rw [List.length_set]; exact h.len, fun v hv h1 => ?_, fun v hv h1 => ?_⟩
  · rw [getL (by rw [h.len]; exact hr)]
    by_cases e : v = r
    · rw [if_pos e, e]
    · rw [if_neg e]
      exact h.yes v hv ((List.mem_append.1 h1).resolve_right (fun h2 => e (List.mem_singleton.1 h2)))
  · rw [getL (by rw [h.len]; exact hr), if_neg (fun e => h1 (by rw [e]; simp))]
    exact h.no v hv (fun h2 => h1 (List.mem_append_left _ h2))
theorem OutOk.start {A : Arcs} {R : List Nat} {N : Nat} {L : List (List Nat)} (h : Beg N R L) : OutOk A R N 0 L := by
  refine ⟨h.len, fun v hv he m hm => ?_, fun v hv he => ?_⟩
  · have hvR : v ∉ R := fun h2 => by rw [h.yes v hv h2] at he; cases he
    obtain ⟨h1, _, ⟨r, h3, h4⟩, h5⟩ := hm
    have hp := List.length_pos_iff.2 h1
    apply Classical.byContradiction
    intro hn
    obtain ⟨a, rfl⟩ := List.length_eq_one_iff.1 (by omega : m.length = 1)
    simp at h4 h5
    exact hvR (by rw [← h5, h4]; exact h3)
  · have hvR : v ∈ R := Classical.byContradiction fun h2 => he (h.no v hv h2)
    rw [h.yes v hv hvR]
    refine ⟨IsWay.ok ⟨by simp, Fol.one A v, ⟨v, hvR, rfl⟩, rfl⟩ (fun p hp hs => ?_), by simp⟩
    obtain ⟨h1, _, _, h4⟩ := hp
    have hp := List.length_pos_iff.2 h1
    rcases hs with hs | ⟨hs, hs2⟩
    · rw [List.length_singleton] at hs; omega
    · rw [List.length_singleton] at hs
      obtain ⟨a, rfl⟩ := List.length_eq_one_iff.1 hs
      simp at h4
      subst h4
      rw [lex_irr] at hs2; cases hs2
/-- The third loop, after k arcs: the least candidates. -/
structure Nx (A : Arcs) (N k : Nat) (L M : List (List Nat)) : Prop where
  len : M.length = N
  off : ∀ w, w < N → L.getD w [] ≠ [] → M.getD w [] = []
  on : ∀ w, w < N → L.getD w [] = [] → (M.getD w [] = [] ∧ ∀ c, ¬ Cand (A.take k) L w c) ∨ (Cand (A.take k) L w (M.getD w []) ∧ ∀ c, Cand (A.take k) L w c → ¬ sl c (M.getD w []))
theorem Nx.start (A : Arcs) (N : Nat) (L : List (List Nat)) : Nx A N 0 L (List.replicate N []) :=
  ⟨by simp, fun w hw _ => by rw [List.getD_eq_getElem?_getD, List.getElem?_replicate, if_pos hw]; rfl, fun w hw _ => .inl ⟨by rw [List.getD_eq_getElem?_getD, List.getElem?_replicate, if_pos hw]; rfl, fun c hc => by obtain ⟨v, h1, _⟩ := hc; simp at h1⟩⟩
theorem cand_snoc {A : Arcs} {k v w : Nat} {L : List (List Nat)} (hk : A.take (k + 1) = A.take k ++ [(v, w)]) (u : Nat) (c : List Nat) : Cand (A.take (k + 1)) L u c ↔ Cand (A.take k) L u c ∨ (u = w ∧ L.getD v [] ≠ [] ∧ c = L.getD v [] ++ [w]) := by
  unfold Cand
  rw [hk]
  constructor
  · rintro ⟨x, h1, h2, h3⟩
    rcases List.mem_append.1 h1 with h1 | h1
    · exact .inl ⟨x, h1, h2, h3⟩
    · rw [List.mem_singleton] at h1
      injection h1 with e1 e2
      subst e1; subst e2
      exact .inr ⟨rfl, h2, h3⟩
  · rintro (⟨x, h1, h2, h3⟩ | ⟨rfl, h2, h3⟩)
    · exact ⟨x, List.mem_append_left _ h1, h2, h3⟩
    · exact ⟨v, by simp, h2, h3⟩
theorem Nx.skip {A : Arcs} {N k v w : Nat} {L M : List (List Nat)} (h : Nx A N k L M) (hk : A.take (k + 1) = A.take k ++ [(v, w)]) (hs : L.getD v [] = [] ∨ L.getD w [] ≠ []) : Nx A N (k + 1) L M := by
  refine ⟨h.len, h.off, fun u hu he => ?_⟩
  have hc : ∀ c, Cand (A.take (k + 1)) L u c ↔ Cand (A.take k) L u c := fun c => by
    rw [cand_snoc hk]
    refine ⟨fun h => h.resolve_right (fun ⟨e, h2, _⟩ => ?_), .inl⟩
    rcases hs with hs | hs
    · exact h2 hs
    · exact hs (by rw [← e]; exact he)
  simp only [hc]
  exact h.on u hu he
theorem Nx.keep {A : Arcs} {N k v w : Nat} {L M : List (List Nat)} (h : Nx A N k L M) (hk : A.take (k + 1) = A.take k ++ [(v, w)]) (hm : M.getD w [] ≠ []) (hs : ¬ sl (L.getD v [] ++ [w]) (M.getD w [])) : Nx A N (k + 1) L M := by
  refine ⟨h.len, h.off, fun u hu he => ?_⟩
  by_cases e : u = w
  · subst e
    rcases h.on u hu he with ⟨h1, _⟩ | ⟨h1, h2⟩
    · exact absurd h1 hm
    · refine .inr ⟨(cand_snoc hk u _).2 (.inl h1), fun c hc => ?_⟩
      rcases (cand_snoc hk u c).1 hc with hc | ⟨_, _, rfl⟩
      · exact h2 c hc
      · exact hs
  · have hc : ∀ c, Cand (A.take (k + 1)) L u c ↔ Cand (A.take k) L u c := fun c => by
      rw [cand_snoc hk]
      exact ⟨fun h => h.resolve_right (fun ⟨e2, _⟩ => e e2), .inl⟩
    simp only [hc]
    exact h.on u hu he
theorem Nx.new {A : Arcs} {N k v w : Nat} {L M : List (List Nat)} (h : Nx A N k L M) (hk : A.take (k + 1) = A.take k ++ [(v, w)]) (hw : w < N) (hv : L.getD v [] ≠ []) (hwe : L.getD w [] = []) (hs : M.getD w [] = [] ∨ sl (L.getD v [] ++ [w]) (M.getD w [])) : Nx A N (k + 1) L (M.set w (L.getD v [] ++ [w])) := by
  have hg : ∀ u, (M.set w (L.getD v [] ++ [w])).getD u [] = if u = w then L.getD v [] ++ [w] else M.getD u [] := fun u => getL (by rw [h.len]; exact hw)
  refine ⟨by rw [List.length_set]; exact h.len, fun u hu he => ?_, fun u hu he => ?_⟩
  · rw [hg, if_neg (fun (e : u = w) => he (by rw [e]; exact hwe))]
    exact h.off u hu he
  · rw [hg]
    by_cases e : u = w
    · subst e
      rw [if_pos rfl]
      refine .inr ⟨(cand_snoc hk u _).2 (.inr ⟨rfl, hv, rfl⟩), fun c hc => ?_⟩
      rcases (cand_snoc hk u c).1 hc with hc | ⟨_, _, rfl⟩
      · rcases h.on u hu he with ⟨h1, h2⟩ | ⟨h1, h2⟩
        · exact absurd hc (h2 c)
        · intro h3
          rcases hs with hs | hs
          · obtain ⟨_, _, _, h4⟩ := h1
            rw [hs] at h4; simp at h4
          · exact h2 c hc (sl_trans h3 hs)
      · exact sl_irr _
    · rw [if_neg e]
      have hc : ∀ c, Cand (A.take (k + 1)) L u c ↔ Cand (A.take k) L u c := fun c => by
        rw [cand_snoc hk]
        exact ⟨fun h => h.resolve_right (fun ⟨e2, _⟩ => e e2), .inl⟩
      simp only [hc]
      exact h.on u hu he
/-- The fourth loop, after j nodes. -/
structure Mix (N j : Nat) (L M L' : List (List Nat)) : Prop where
  len : L'.length = N
  get : ∀ v, v < N → L'.getD v [] = if v < j ∧ M.getD v [] ≠ [] then M.getD v [] else L.getD v []
theorem Mix.start {N : Nat} {L M : List (List Nat)} (hl : L.length = N) : Mix N 0 L M L := ⟨hl, fun v _ => by rw [if_neg (fun h => by omega)]⟩
theorem Mix.skip {N j : Nat} {L M L' : List (List Nat)} (h : Mix N j L M L') (hm : M.getD j [] = []) : Mix N (j + 1) L M L' :=
  ⟨h.len, fun v hv => by
    rw [h.get v hv]
    by_cases e : v = j
    · subst e; rw [if_neg (fun h => h.2 hm), if_neg (fun h => h.2 hm)]
    · by_cases e2 : v < j ∧ M.getD v [] ≠ []
      · rw [if_pos e2, if_pos ⟨by omega, e2.2⟩]
      · rw [if_neg e2, if_neg (fun h => e2 ⟨by omega, h.2⟩)]⟩
theorem Mix.put {N j : Nat} {L M L' : List (List Nat)} (h : Mix N j L M L') (hj : j < N) (hm : M.getD j [] ≠ []) : Mix N (j + 1) L M (L'.set j (M.getD j [])) :=
  ⟨by rw [List.length_set]; exact h.len, fun v hv => by
    rw [getL (by rw [h.len]; exact hj)]
    by_cases e : v = j
    · subst e; rw [if_pos rfl, if_pos ⟨by omega, hm⟩]
    · rw [if_neg e, h.get v hv]
      by_cases e2 : v < j ∧ M.getD v [] ≠ []
      · rw [if_pos e2, if_pos ⟨by omega, e2.2⟩]
      · rw [if_neg e2, if_neg (fun h => e2 ⟨by omega, h.2⟩)]⟩
theorem OutOk.round {A : Arcs} {R : List Nat} {N r : Nat} {L M L' : List (List Nat)} (h : OutOk A R N r L) (hA : ∀ a ∈ A, a.1 < N ∧ a.2 < N) (hn : Nx A N A.length L M) (hx : Mix N N L M L') : OutOk A R N (r + 1) L' := by
  have ht : A.take A.length = A := List.take_length
  refine h.next hA hx.len (fun v hv he => ?_) (fun v hv he => ?_)
  · rw [hx.get v hv, if_neg (fun h2 => h2.2 (hn.off v hv he))]
  · have h1 := hn.on v hv he
    rw [ht] at h1
    rw [hx.get v hv]
    by_cases hm : M.getD v [] = []
    · rw [if_neg (fun h2 => h2.2 hm), he]
      rcases h1 with ⟨_, h1⟩ | ⟨⟨_, _, _, h1⟩, _⟩
      · exact .inl ⟨rfl, h1⟩
      · rw [hm] at h1; simp at h1
    · rw [if_pos ⟨hv, hm⟩]
      rcases h1 with ⟨h1, _⟩ | h1
      · exact absurd h1 hm
      · exact .inr h1
end Go.Proofs.YtmnhnighlgpjmaaGreat
