/-
  A node is laid to its head's nodes.
-/
import Derived.Test.YtobpolmlblpmjaaPartN
namespace Go.Proofs.Ytobpolmlblpmjaa
set_option linter.unusedVariables false
set_option linter.unusedSimpArgs false
open Go.RowKit

theorem set_own {vs : List Value} {h : Nat} {v' v : Value} {i k : Nat} (hi : (vs.set h v')[i]? = some v) (hk : v.ownBlock = some k) : v'.ownBlock = some k ∨ ∃ (j : Nat) (u : Value), vs[j]? = some u ∧ u.ownBlock = some k := by
  by_cases e : h = i
  · subst e
    by_cases hl : h < vs.length
    · rw [List.getElem?_set_self hl] at hi
      injection hi with hi
      subst hi; exact .inl hk
    · rw [List.getElem?_eq_none (by rw [List.length_set]; omega)] at hi; cases hi
  · rw [List.getElem?_set_ne e] at hi
    exact .inr ⟨i, v, hi, hk⟩
theorem DivSt.push {w W w2 : World} {gb gh gn go n : Nat} {H O : List Nat} {vs : List Value} {l : List (Nat × Nat)} {u v' : Value} (D : DivSt w gb gh gn go n H vs (addA n l) O W) (a : Nat × Nat) (ha : a.1 < n) (hu : vs[a.1]? = some u) (o : Obj)
    (hown' : w2.ownsRow w.heap.size 3 1 v' (((addA n l).getD a.1 []).length + 1) (iv (zi ((addA n l).getD a.1 [])) ++ [.int .i64 (a.2 : Int)])) (hgrow : (W.alloc o).grownBy w2 u.ownBlock) (hat : v'.ownBlock = u.ownBlock ∨ v'.ownBlock = some (W.alloc o).heap.size) :
    w2.cell? ⟨gn, a.1, none⟩ = some u ∧ w2.frozen? ⟨gn, a.1, none⟩ = false ∧ w2.cell? ⟨gb, 1, none⟩ = some (.slice (some ⟨gn, 0, none⟩) n n) ∧ DivSt w gb gh gn go n H (vs.set a.1 v') (addA n (l ++ [a])) O (w2.setCell ⟨gn, a.1, none⟩ v') := by
  obtain ⟨n1, n2, n3, n4⟩ := D.at_.p.added a ha hu o hown' hgrow hat D.below D.below.size
  have hho := World.ownsRow.lt D.at_.h gh rfl
  have hgo := World.ownsRow.lt D.at_.o go rfl
  have hgb := D.box.lt
  have hsz : (W.alloc o).heap.size = W.heap.size + 1 := by simp
  have hset := grown_set w2 gn a.1 v'
  have own : ∀ {g : Nat} {L : List Int}, OwnI W w.heap.size (.slice (some ⟨g, 0, none⟩) n n) L → (∀ k, u.ownBlock = some k → k ≠ g) → OwnI (w2.setCell ⟨gn, a.1, none⟩ v') w.heap.size (.slice (some ⟨g, 0, none⟩) n n) L := fun {g L} h1 h2 => by
    have h3 := (h1.below (below_new W o)).kept hgrow (by
      right
      intro e
      exact h2 g (e.symm.trans rfl) rfl)
    exact h3.kept hset (.inr (fun e => D.at_.p.not_own h1 e.symm))
  have fin : ∀ k, v'.ownBlock = some k → u.ownBlock = some k ∨ k = W.heap.size + 1 := fun k hk => by
    rcases hat with h1 | h1
    · exact .inl (h1 ▸ hk)
    · rw [h1, hsz] at hk; injection hk with hk; exact .inr hk.symm
  have hub : ∀ k, u.ownBlock = some k → k ≠ gb := fun k hk => D.hb k (.inr (.inr (.inr ⟨a.1, u, hu, hk⟩)))
  have b1 : Blk w2 gb 46 #[.slice (some ⟨gh, 0, none⟩) n n, .slice (some ⟨gn, 0, none⟩) n n, .slice (some ⟨go, 0, none⟩) n n] := (blk_alloc D.box o).grown hgrow (fun e => hub gb e.symm rfl)
  have hgnb : gn ≠ gb := D.hb gn (.inr (.inl rfl))
  refine ⟨n1, n2, b1.cell 1, ⟨⟨own D.at_.h (fun k hk => D.nh a.1 u k hu hk), n3, own D.at_.o (fun k hk => D.at_.po a.1 u k hu hk), D.at_.ho, fun i v k h1 h2 => ?_⟩, ?_, fun i v k h1 h2 => ?_, D.gbb, b1.grown hset (fun e => by injection e with e; exact hgnb e.symm), n4⟩⟩
  · rcases set_own h1 h2 with h3 | ⟨j, x, h3, h4⟩
    · rcases fin k h3 with h5 | h5
      · exact D.at_.po a.1 u k hu h5
      · omega
    · exact D.at_.po j x k h3 h4
  · rintro k (rfl | rfl | rfl | ⟨i, v, h1, h2⟩)
    · exact D.hb _ (.inl rfl)
    · exact hgnb
    · exact D.hb _ (.inr (.inr (.inl rfl)))
    · rcases set_own h1 h2 with h3 | ⟨j, x, h3, h4⟩
      · rcases fin k h3 with h5 | h5
        · exact hub k h5
        · omega
      · exact D.hb k (.inr (.inr (.inr ⟨j, x, h3, h4⟩)))
  · rcases set_own h1 h2 with h3 | ⟨j, x, h3, h4⟩
    · rcases fin k h3 with h5 | h5
      · exact D.nh a.1 u k hu h5
      · omega
    · exact D.nh j x k h3 h4
theorem DivSt.open {w W : World} {gb gh gn go n : Nat} {H O : List Nat} {vs : List Value} {P : List (List Nat)} (D : DivSt w gb gh gn go n H vs P O W) (x z : Nat) (hx : x < O.length) : DivSt w gb gh gn go n H vs P (O.set x z) (W.setCell ⟨go, x, none⟩ (.int .i64 (z : Int))) := by
  have hg := grown_set W go x (.int .i64 (z : Int))
  have hgo := World.ownsRow.lt D.at_.o go rfl
  have h1 := D.at_.o.store x (by rw [zi_length]; exact hx) (z : Int)
  rw [← zi_set] at h1
  have hgb : go ≠ gb := D.hb go (.inr (.inr (.inl rfl)))
  exact ⟨D.at_.turn hg h1, D.hb, D.nh, D.gbb, D.box.grown hg (fun e => by injection e with e; exact hgb e.symm), D.below.setCell (p := ⟨go, x, none⟩) hgo.1 _⟩
theorem DivAt.other {W W' : World} {base base' gh gn go n r : Nat} {H O : List Nat} {vs : List Value} {P : List (List Nat)} (D : DivAt W base gh gn go n H vs P O) (hg : W.grownBy W' (some r)) (hr : r < base) (hb : base' ≤ base) : DivAt W' base' gh gn go n H vs P O := by
  have ne : ∀ {v : Value} {l : List Int}, OwnI W base v l → v.ownBlock ≠ some r := fun h e => by
    have := (World.ownsRow.lt h r e).1; omega
  have hN : Nest W' base gn vs (P.map zi) := D.p.kept hg (fun e => by injection e with e; have := D.p.hb; omega) (fun i v k e1 e2 e3 => by
    injection e3 with e3
    have hi : i < (P.map zi).length := by rw [← D.p.len]; exact (List.getElem?_eq_some_iff.1 e1).1
    exact ne (D.p.row i v _ e1 (List.getElem?_eq_getElem hi)) (e3 ▸ e2))
  exact ⟨(D.h.kept hg (.inr (ne D.h))).base hb, ⟨hN.len, Nat.le_trans hb hN.hb, hN.blk, fun i v l h1 h2 => (hN.row i v l h1 h2).base hb, hN.apart⟩, (D.o.kept hg (.inr (ne D.o))).base hb, D.ho, D.po⟩
def DivPost (H : List Nat) (N : List (List Nat)) (n : Nat) (w : World) (e : Ending) (w' : World) : Prop := ∃ (gh gn go : Nat) (vs : List Value), e = .returned (.agg #[.slice (some ⟨gh, 0, none⟩) n n, .slice (some ⟨gn, 0, none⟩) n n, .slice (some ⟨go, 0, none⟩) n n]) ∧ DivAt w' w.heap.size gh gn go n H vs (addA n (byHead H n)) (openL H n (pairs N)) ∧ Below w.heap.size w w'
end Go.Proofs.Ytobpolmlblpmjaa
