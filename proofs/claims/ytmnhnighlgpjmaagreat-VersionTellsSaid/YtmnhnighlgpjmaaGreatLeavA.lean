/-
  The memory of the program's search in depth.
-/
import Derived.Test.YtmnhnighlgpjmaaGreatSrch
import Derived.Test.YtmnhnighlgpjmaaGreatHeapN
import Derived.Deep.LoopGhost
namespace Go.Proofs.YtmnhnighlgpjmaaGreat
set_option linter.unusedVariables false
set_option linter.unusedSimpArgs false
open Go.RowKit

theorem ownB_not_own {w : World} {base base2 g n cap : Nat} {V : List Bool} {v : Value} {l : List Int} (h : OwnB w base (.slice (some ⟨g, 0, none⟩) n cap) V) (ho : OwnI w base2 v l) : v.ownBlock ≠ some g := by
  intro e
  rcases h.2 with ⟨hv, _⟩ | ⟨g2, cap2, cur, hv, _, h3, _⟩
  · cases hv
  · injection hv with e1 _ _
    injection e1 with e1
    injection e1 with e1 _ _
    subst e1
    exact not_blk ho (show Blk w g 4 cur from h3) (by decide) e.symm
theorem own_pop {w : World} {base k cap : Nat} {A : Option Addr} {l : List Int} {x : Int} (h : OwnI w base (.slice A (k + 1) cap) (l ++ [x])) : OwnI w base (.slice A k cap) l ∧ k = l.length ∧ k + 1 ≤ cap ∧ cap ≤ maxLen := by
  rcases h.form with ⟨hv, h0⟩ | ⟨g, cap2, cur, hv, h2, h3, h4, h5, h6, h7⟩
  · simp at h0
  · injection hv with e1 e2 e3
    subst e1; subst e3
    have hk : k = l.length := by simp at e2; exact e2
    subst hk
    have h8 : (l ++ [x]).length = l.length + 1 := by simp
    rw [h8] at h4 h7
    refine ⟨⟨by rw [iv_length]; omega, .inr ⟨g, cap, cur, rfl, h2, h3, by omega, h5, by omega, ?_⟩⟩, rfl, h4, h5⟩
    rw [Nat.mul_one]
    have h9 := congrArg (fun L => L.take l.length) h7
    simp only [List.take_take] at h9
    rw [show min l.length (l.length + 1) = l.length by omega] at h9
    rw [h9, iv_append, List.take_left' (by rw [iv_length])]
structure DfsAt (w : World) (base gs gt n : Nat) (lv sv : Value) (L S T : List Nat) (V : List Bool) : Prop where
  l : OwnI w base lv (zi L)
  s : OwnI w base sv (zi S)
  b : OwnB w base (.slice (some ⟨gs, 0, none⟩) n n) V
  t : OwnI w base (.slice (some ⟨gt, 0, none⟩) n n) (zi T)
  als : ∀ k, lv.ownBlock = some k → sv.ownBlock ≠ some k
  alt : lv.ownBlock ≠ some gt
  ast : sv.ownBlock ≠ some gt
theorem ne_or {v : Value} {g : Nat} (h : v.ownBlock ≠ some g) : v.ownBlock = none ∨ v.ownBlock ≠ some g := .inr h
theorem DfsAt.kept {w w' : World} {base gs gt n : Nat} {lv sv : Value} {L S T : List Nat} {V : List Bool} (h : DfsAt w base gs gt n lv sv L S T V) (hb : Below w.heap.size w w') : DfsAt w' base gs gt n lv sv L S T V :=
  ⟨h.l.below hb, h.s.below hb, h.b.below hb, h.t.below hb, h.als, h.alt, h.ast⟩
theorem DfsAt.gst {w : World} {base gs gt n : Nat} {lv sv : Value} {L S T : List Nat} {V : List Bool} (h : DfsAt w base gs gt n lv sv L S T V) : gt ≠ gs ∧ base ≤ gs ∧ base ≤ gt := by
  refine ⟨fun e => ownB_not_own h.b h.t (by rw [← e]; rfl), (World.ownsRow.lt h.b gs rfl).1, (World.ownsRow.lt h.t gt rfl).1⟩
theorem DfsAt.see {w : World} {base gs gt n : Nat} {lv sv : Value} {L S T : List Nat} {V : List Bool} (h : DfsAt w base gs gt n lv sv L S T V) (v : Nat) (hv : v < V.length) : DfsAt (w.setCell ⟨gs, v, none⟩ (.bool true)) base gs gt n lv sv L S T (V.set v true) := by
  have hg := grown_set w gs v (.bool true)
  exact ⟨h.l.kept hg (ne_or (ownB_not_own h.b h.l)), h.s.kept hg (ne_or (ownB_not_own h.b h.s)), h.b.store v hv true, h.t.kept hg (ne_or (ownB_not_own h.b h.t)), h.als, h.alt, h.ast⟩
theorem DfsAt.take {w : World} {base gs gt n : Nat} {lv sv : Value} {L S T : List Nat} {V : List Bool} (h : DfsAt w base gs gt n lv sv L S T V) (v z : Nat) (hv : v < T.length) : DfsAt (w.setCell ⟨gt, v, none⟩ (.int .i64 (z : Int))) base gs gt n lv sv L S (T.set v z) V := by
  have hg := grown_set w gt v (.int .i64 (z : Int))
  obtain ⟨h1, _, _⟩ := h.gst
  refine ⟨h.l.kept hg (ne_or h.alt), h.s.kept hg (ne_or h.ast), h.b.kept hg (.inr (by intro e; injection e with e; exact h1 e.symm)), ?_, h.als, h.alt, h.ast⟩
  rw [show zi (T.set v z) = (zi T).set v (z : Int) from zi_set T v z]
  exact h.t.store v (by rw [zi_length]; exact hv) _
theorem fresh_ne {w : World} {base : Nat} {v : Value} {l : List Int} {k : Nat} (h : OwnI w base v l) (hk : w.heap.size ≤ k) : v.ownBlock ≠ some k := fun e => by
  have := (World.ownsRow.lt h k e).2; omega
/-- One more on the stack. -/
theorem DfsAt.pushS {w w0 w2 : World} {base gs gt n : Nat} {lv sv v' : Value} {L S T : List Nat} {V : List Bool} (h : DfsAt w base gs gt n lv sv L S T V) (x : Nat) (o : Obj)
    (hown' : w2.ownsRow base 3 1 v' (S.length + 1) (iv (zi S) ++ [.int .i64 (x : Int)])) (hgrow : (w.alloc o).grownBy w2 sv.ownBlock) (hat : v'.ownBlock = sv.ownBlock ∨ v'.ownBlock = some (w.alloc o).heap.size) (hB : Below base w0 w) (hbase : base ≤ w.heap.size) :
    DfsAt w2 base gs gt n lv v' L (S ++ [x]) T V ∧ Below base w0 w2 := by
  have h1 := h.kept (below_new w o)
  have hbl := h1.b
  have hne : lv.ownBlock = none ∨ lv.ownBlock ≠ sv.ownBlock := by
    cases e : lv.ownBlock with
    | none => exact .inl rfl
    | some k => exact .inr (fun e2 => h1.als k e e2.symm)
  refine ⟨⟨h1.l.kept hgrow hne, ?_, h1.b.kept hgrow (.inr fun e => ownB_not_own h1.b h1.s e.symm), h1.t.kept hgrow (.inr fun e => h1.ast e.symm), fun k hk => ?_, h.alt, ?_⟩, ?_⟩
  · unfold OwnI
    rw [zi_append, List.length_append, zi_length, iv_append]; exact hown'
  · rcases hat with e | e
    · rw [e]; exact h.als k hk
    · rw [e]; intro e2; injection e2 with e2
      exact fresh_ne h.l (k := k) (by simp at e2; omega) hk
  · rcases hat with e | e
    · rw [e]; exact h.ast
    · rw [e]; intro e2; injection e2 with e2
      exact fresh_ne h.t (k := gt) (by simp at e2; omega) rfl
  · exact (hB.alloc hbase o).grown hgrow (by simp; omega) (fun k hk => (World.ownsRow.lt h1.s k hk).1)
/-- One more is left. -/
theorem DfsAt.pushL {w w0 w2 : World} {base gs gt n : Nat} {lv sv v' : Value} {L S T : List Nat} {V : List Bool} (h : DfsAt w base gs gt n lv sv L S T V) (x : Nat) (o : Obj)
    (hown' : w2.ownsRow base 3 1 v' (L.length + 1) (iv (zi L) ++ [.int .i64 (x : Int)])) (hgrow : (w.alloc o).grownBy w2 lv.ownBlock) (hat : v'.ownBlock = lv.ownBlock ∨ v'.ownBlock = some (w.alloc o).heap.size) (hB : Below base w0 w) (hbase : base ≤ w.heap.size) :
    DfsAt w2 base gs gt n v' sv (L ++ [x]) S T V ∧ Below base w0 w2 := by
  have h1 := h.kept (below_new w o)
  have hne : sv.ownBlock = none ∨ sv.ownBlock ≠ lv.ownBlock := by
    cases e : sv.ownBlock with
    | none => exact .inl rfl
    | some k => exact .inr (fun e2 => h1.als k e2.symm e)
  refine ⟨⟨?_, h1.s.kept hgrow hne, h1.b.kept hgrow (.inr fun e => ownB_not_own h1.b h1.l e.symm), h1.t.kept hgrow (.inr fun e => h1.alt e.symm), fun k hk => ?_, ?_, h.ast⟩, ?_⟩
  · unfold OwnI
    rw [zi_append, List.length_append, zi_length, iv_append]; exact hown'
  · rcases hat with e | e
    · rw [e] at hk; exact h.als k hk
    · rw [e] at hk; injection hk with hk
      exact fresh_ne h.s (k := k) (by simp at hk; omega)
  · rcases hat with e | e
    · rw [e]; exact h.alt
    · rw [e]; intro e2; injection e2 with e2
      exact fresh_ne h.t (k := gt) (by simp at e2; omega) rfl
  · exact (hB.alloc hbase o).grown hgrow (by simp; omega) (fun k hk => (World.ownsRow.lt h1.l k hk).1)
theorem Dfs.len {A : Arcs} {N : List (List Nat)} {n : Nat} {L S T : List Nat} {V : List Bool} (h : Dfs A N n L S T V) : L.length + S.length ≤ n := by
  have := nodup_le n (L ++ S) h.nd h.lt
  rw [List.length_append] at this; exact this
end Go.Proofs.YtmnhnighlgpjmaaGreat
