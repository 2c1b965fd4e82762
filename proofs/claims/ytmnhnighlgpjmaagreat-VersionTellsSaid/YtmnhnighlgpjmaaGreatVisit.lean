/-
  The program's search: its closure visit.
-/
import Derived.Test.YtmnhnighlgpjmaaGreatIter
namespace Go.Proofs.YtmnhnighlgpjmaaGreat
set_option linter.unusedVariables false
set_option linter.unusedSimpArgs false
open Go.RowKit

/-- The memory of a search: the box of before and its row, the box of the queue and its row. -/
structure SrchAt (w : World) (base bb bq gb n : Nat) (sv : Value) (S : List Int) (q : Value) (B : List Int) (Q : List Nat) : Prop where
  hbb : base ≤ bb
  hbq : base ≤ bq
  ne : bb ≠ bq
  bx : Boxed w bb 33 (.slice (some ⟨gb, 0, none⟩) n n)
  own : OwnI w base (.slice (some ⟨gb, 0, none⟩) n n) B
  qx : Boxed w bq 33 q
  qown : OwnI w base q (zi Q)
  apart : q.ownBlock ≠ some gb
  sown : OwnI w base sv S
  sgb : sv.ownBlock ≠ some gb
  sq : ∀ k, sv.ownBlock = some k → q.ownBlock ≠ some k
theorem not_blk {w : World} {base : Nat} {e t : TypeId} {v : Value} {n b : Nat} {xs : List Value} {cs : Array Value} (h : w.ownsRow base e 1 v n xs) (hb : Blk w b t cs) (hne : t ≠ e) : some b ≠ v.ownBlock := by
  intro hv
  rcases h.2 with ⟨rfl, _⟩ | ⟨g, cap, cur, rfl, _, hg, _⟩
  · simp [Value.ownBlock] at hv
  · simp [Value.ownBlock] at hv
    subst hv
    unfold Blk at hb
    rw [hb] at hg
    injection hg with hg
    injection hg with _ h2
    exact hne h2
theorem box_not_own {w : World} {b base : Nat} {v u : Value} {l : List Int} (h : Boxed w b 33 u) (ho : OwnI w base v l) : some b ≠ v.ownBlock := not_blk ho (show Blk w b 33 #[u] from h) (by decide)
theorem SrchAt.blen {w : World} {base bb bq gb n : Nat} {sv : Value} {S : List Int} {q : Value} {B : List Int} {Q : List Nat} (h : SrchAt w base bb bq gb n sv S q B Q) : B.length = n := by
  rcases h.own.form with ⟨hv, _⟩ | ⟨_, _, _, hv, _⟩
  · cases hv
  · injection hv with _ e _; exact e.symm
theorem SrchAt.hgb {w : World} {base bb bq gb n : Nat} {sv : Value} {S : List Int} {q : Value} {B : List Int} {Q : List Nat} (h : SrchAt w base bb bq gb n sv S q B Q) : base ≤ gb ∧ gb < w.heap.size ∧ gb ≠ bb ∧ gb ≠ bq := by
  have h1 := World.ownsRow.lt h.own gb rfl
  refine ⟨h1.1, h1.2, fun e => ?_, fun e => ?_⟩
  · exact box_not_own h.bx h.own (by rw [e]; rfl)
  · exact box_not_own h.qx h.own (by rw [e]; rfl)
/-- A block turned that is none of these, and new blocks. -/
theorem SrchAt.kept {w w' : World} {base bb bq gb n : Nat} {sv : Value} {S : List Int} {q : Value} {B : List Int} {Q : List Nat} (h : SrchAt w base bb bq gb n sv S q B Q) (hb : Below w.heap.size w w') : SrchAt w' base bb bq gb n sv S q B Q :=
  ⟨h.hbb, h.hbq, h.ne, h.bx.kept (grown_below hb none) (by simp), h.own.below hb, h.qx.kept (grown_below hb none) (by simp), h.qown.below hb, h.apart, h.sown.below hb, h.sgb, h.sq⟩
/-- The node is entered. -/
theorem SrchAt.mark {w : World} {base bb bq gb n : Nat} {sv : Value} {S : List Int} {q : Value} {B : List Int} {Q : List Nat} (h : SrchAt w base bb bq gb n sv S q B Q) (v : Nat) (hv : v < n) (z : Int) : SrchAt (w.setCell ⟨gb, v, none⟩ (.int .i64 z)) base bb bq gb n sv S q (B.set v z) Q := by
  obtain ⟨h1, h2, h3, h4⟩ := h.hgb
  have hg := grown_set w gb v (.int .i64 z)
  refine ⟨h.hbb, h.hbq, h.ne, h.bx.kept hg (by intro e; injection e with e; exact h3 e.symm), h.own.store v (by rw [h.blen]; exact hv) z, h.qx.kept hg (by intro e; injection e with e; exact h4 e.symm), h.qown.kept hg ?_, h.apart, h.sown.kept hg (.inr h.sgb), h.sgb, h.sq⟩
  cases e : q.ownBlock with
  | none => exact .inl rfl
  | some k => exact .inr (by rw [← e]; exact h.apart)
/-- The queue is longer by one. -/
theorem SrchAt.enq {w w0 w2 : World} {base bb bq gb n : Nat} {sv : Value} {S : List Int} {q v' : Value} {B : List Int} {Q : List Nat} (h : SrchAt w base bb bq gb n sv S q B Q) (v : Nat) (o : Obj)
    (hown' : w2.ownsRow base 3 1 v' ((zi Q).length + 1) (iv (zi Q) ++ [.int .i64 (v : Int)])) (hgrow : (w.alloc o).grownBy w2 q.ownBlock) (hat : v'.ownBlock = q.ownBlock ∨ v'.ownBlock = some (w.alloc o).heap.size) (hB : Below base w0 w) (hbase : base ≤ w.heap.size) :
    w2.cell? ⟨bq, 0, none⟩ = some q ∧ w2.frozen? ⟨bq, 0, none⟩ = false ∧ SrchAt (w2.setCell ⟨bq, 0, none⟩ v') base bb bq gb n sv S v' B (Q ++ [v]) ∧ Below base w0 (w2.setCell ⟨bq, 0, none⟩ v') := by
  have h1 := h.kept (below_new w o)
  obtain ⟨g1, g2, g3, g4⟩ := h1.hgb
  have hq2 := h1.qx.kept hgrow (box_not_own h1.qx h1.qown)
  have hb2 := h1.bx.kept hgrow (box_not_own h1.bx h1.qown)
  have ho2 := h1.own.kept hgrow (.inr (fun e => h1.apart e.symm))
  have hg3 := grown_set w2 bq 0 v'
  have hown2 : OwnI w2 base v' (zi (Q ++ [v])) := by
    unfold OwnI
    rw [zi_append, List.length_append, iv_append]
    exact hown'
  have hgs : gb < w.heap.size := h.hgb.2.1
  refine ⟨hq2.cell, hq2.frozen, ⟨h.hbb, h.hbq, h.ne, hb2.kept hg3 (by intro e; injection e with e; exact h.ne e), ho2.kept hg3 (.inr (by intro e; injection e with e; exact g4 e)), hq2.set v', hown2.kept hg3 ?_, ?_, ?_, h.sgb, ?_⟩, ?_⟩
  · cases e : v'.ownBlock with
    | none => exact .inl rfl
    | some k => exact .inr (fun e2 => box_not_own hq2 hown2 (by rw [e, ← e2]))
  · rcases hat with e | e
    · rw [e]; exact h.apart
    · rw [e]; intro e2; injection e2 with e2; simp at e2; omega
  · have hs2 : OwnI w2 base sv S := h1.sown.kept hgrow (by
      cases e : sv.ownBlock with
      | none => exact .inl rfl
      | some k => exact .inr (fun e2 => h1.sq k e e2.symm))
    refine hs2.kept hg3 ?_
    cases e : sv.ownBlock with
    | none => exact .inl rfl
    | some k => exact .inr (fun e2 => box_not_own hq2 hs2 (by rw [e, ← e2]))
  · intro k hk e2
    rcases hat with e | e
    · rw [e] at e2; exact h.sq k hk e2
    · have := (World.ownsRow.lt h.sown k hk).2
      rw [e] at e2; injection e2 with e2; simp at e2; omega
  · exact ((hB.alloc hbase o).grown hgrow (by simp; omega) (fun k hk => (World.ownsRow.lt h1.qown k hk).1)).setCell (p := ⟨bq, 0, none⟩) h.hbq _
def VisitPost (w0 : World) (base bb bq gb n : Nat) (sv : Value) (S : List Int) (B : List Int) (Q : List Nat) (e : Ending) (w' : World) : Prop := e = .returned (.tuple #[]) ∧ ∃ q, SrchAt w' base bb bq gb n sv S q B Q ∧ Below base w0 w'
set_option maxRecDepth 100000 in
set_option maxHeartbeats 2000000 in
theorem visit_old {w0 w : World} {base bb bq gb n : Nat} {sv : Value} {S : List Int} {q : Value} {B : List Int} {Q : List Nat} (h : SrchAt w base bb bq gb n sv S q B Q) (v u : Nat) (hv : v < n) (hB : B.getD v 0 ≠ -1) (hBe : Below base w0 w) :
    Calls Tryz.prog 69 #[.int .i64 v, .int .i64 u, .pointer (some ⟨bb, 0, none⟩), .pointer (some ⟨bq, 0, none⟩)] w (VisitPost w0 base bb bq gb n sv S B Q) := by
  have c0 := h.bx.cell
  have hl := h.blen
  have c1 := h.own.cell v (by omega)
  rw [List.getD_eq_getElem?_getD, List.getElem?_eq_getElem (by omega), Option.getD_some] at hB
  obtain ⟨z, hz⟩ : ∃ z, B[v]'(by omega) = z := ⟨_, rfl⟩
  rw [hz] at c1 hB
  have hzb : (z == -1) = false := by simpa using hB
  have H := Lib.hid h
  have HB := Lib.hid hBe
  clear hz h hBe hl hB
  go_enter Tryz.func69, Tryz.ntmps69
  go_wp2_with fail
  go_end0
  exact ⟨rfl, _, H.out, HB.out⟩
set_option maxRecDepth 100000 in
set_option maxHeartbeats 2000000 in
theorem visit_new {w0 w : World} {base bb bq gb n : Nat} {sv : Value} {S : List Int} {q : Value} {B : List Int} {Q : List Nat} (h : SrchAt w base bb bq gb n sv S q B Q) (v u : Nat) (hv : v < n) (hB : B.getD v 0 = -1) (hBe : Below base w0 w) (hbase : base ≤ w.heap.size) (hQ : Q.length ≤ 1000) :
    Calls Tryz.prog 69 #[.int .i64 v, .int .i64 u, .pointer (some ⟨bb, 0, none⟩), .pointer (some ⟨bq, 0, none⟩)] w (VisitPost w0 base bb bq gb n sv S (B.set v u) (Q ++ [v])) := by
  obtain ⟨i0, hi, hz0, hz1, hz2⟩ := info_parts infoI
  have c0 := h.bx.cell
  have hl := h.blen
  have c1 := h.own.cell v (by omega)
  have f1 := own_free (World.ownsRow.kept (w' := w) (by have := h.own; unfold OwnI at this; rw [h.blen] at this; exact this) ⟨rfl, rfl, rfl, Nat.le_refl _, fun _ _ _ => rfl⟩ (row := none) (by right; simp [Value.ownBlock])) v
  rw [List.getD_eq_getElem?_getD, List.getElem?_eq_getElem (by omega), Option.getD_some] at hB
  rw [hB] at c1
  have hm := h.mark v hv (u : Int)
  have hBm := hBe.setCell (p := ⟨gb, v, none⟩) h.hgb.1 (.int .i64 (u : Int))
  have m0 := hm.bx.cell
  have m1 := hm.qx.cell
  have hsz : (w.setCell ⟨gb, v, none⟩ (.int .i64 (u : Int))).heap.size = w.heap.size := by simp [World.setCell]
  have HE := Lib.hid (fun (v' : Value) (w2 : World) h1 h2 h3 => hm.enq (w0 := w0) (v' := v') (w2 := w2) v (.cells #[.int .i64 (v : Int)] 3) h1 h2 h3 hBm (by rw [hsz]; exact hbase))
  have HOW := Lib.hid hm.qown
  have HL1 : Hid ((zi Q).length + 1 ≤ maxLen) := Lib.hid (by rw [zi_length]; unfold maxLen; omega)
  have HL2 : Hid (((zi Q).length + 1) * 8 ≤ 140737488355328) := Lib.hid (by rw [zi_length]; omega)
  have HL3 : Hid (base ≤ ((w.setCell ⟨gb, v, none⟩ (.int .i64 (u : Int))).alloc (.cells #[.int .i64 (v : Int)] 3)).heap.size) := Lib.hid (by simp; omega)
  have hvb : ((-1 : Int) == -1) = true := by decide
  clear h hBe hl hB hm hBm hsz hbase hQ
  go_enter Tryz.func69, Tryz.ntmps69
  obtain ⟨W, hW⟩ : ∃ W, w.setCell ⟨gb, v, none⟩ (.int .i64 (u : Int)) = W := ⟨_, rfl⟩
  rw [hW] at HE HOW HL3 m0 m1
  go_wp2_with (at_builtin; refine wpList_append_own_at _ rfl _ _ 33 rfl base 3 i0 (.int .i64 0) 1 8 Tryz.underlying33 hi hz0 hz1 hz2 rfl (by decide) _ _ _ rfl (World.ownsRow.alloc HOW.out _) ⟨W.heap.size, 0, none⟩ 1 1 [.int .i64 (v : Int)] rfl rfl (cell_one_new _ _ _) (by simp [Value.oneCell']) HL1.out HL2.out HL3.out ?_; intro v' w2 hown' hgrow _ hat; obtain ⟨g', cap', rfl⟩ := own_succ hown'; obtain ⟨hc2, hf2, hn2, hb3⟩ := HE.out _ w2 hown' hgrow hat; have HN2 := Lib.hid hn2; have HB3 := Lib.hid hb3; clear hown' hgrow hat hn2 hb3)
  go_end0
  exact ⟨rfl, _, HN2.out, HB3.out⟩
end Go.Proofs.YtmnhnighlgpjmaaGreat
