/-
  The reference of layer 7: its log and its disk in memory.
-/
import Derived.Test.YthdmcjiccbgknaaZJa
import Derived.Test.YthdmcjiccbgknaaZRe
import Derived.Test.YthdmcjiccbgknaaJ8
import Derived.Test.YthdmcjiccbgknaaJ6
namespace Go.Proofs.Ythdmcjiccbgknaa
set_option linter.unusedVariables false
set_option linter.unusedSimpArgs false
open Go.RowKit

/-- The reference's log in memory. -/
structure RLAt (w : World) (lb db : Nat) (v : Value) (g : Lg) : Prop where
  bx : Blk w lb 51 #[.pointer (some ⟨db, 0, none⟩), .int .i64 g.file, v, .int .i64 g.sure]
  own : w.ownsRow 0 9 1 v g.rows.length (sv g.rows)
  ne : v.ownBlock ≠ some lb
  big : ext g.rows ≤ 1000000000000
theorem RLAt.form {w : World} {lb db : Nat} {v : Value} {g : Lg} (h : RLAt w lb db v g) : ∃ A cap, v = .slice A g.rows.length cap := by
  obtain ⟨A, cap, e, _⟩ := Row.of_own h.own
  rw [sv_length] at e
  exact ⟨A, cap, e⟩
theorem RLAt.heap {w w' : World} {lb db : Nat} {v : Value} {g : Lg} (h : RLAt w lb db v g) (hb : ∀ k, k < w.heap.size → (k = lb ∨ v.ownBlock = some k) → w'.heap[k]? = w.heap[k]?) : RLAt w' lb db v g :=
  ⟨(hb lb h.bx.lt (.inl rfl)).trans h.bx, own_heap h.own fun k hk hl => hb k hl (.inr hk), h.ne, h.big⟩
theorem RLAt.cells {w : World} {lb db : Nat} {v : Value} {g : Lg} (h : RLAt w lb db v g) : w.cell? ⟨lb, 0, none⟩ = some (.pointer (some ⟨db, 0, none⟩)) ∧ w.cell? ⟨lb, 1, none⟩ = some (.int .i64 g.file) ∧ w.cell? ⟨lb, 2, none⟩ = some v ∧ w.cell? ⟨lb, 3, none⟩ = some (.int .i64 g.sure) ∧ ∀ i, w.frozen? ⟨lb, i, none⟩ = false :=
  ⟨h.bx.cell 0, h.bx.cell 1, h.bx.cell 2, h.bx.cell 3, fun i => Lib.frozen_of_heap h.bx i⟩
/-- The log g (at lb, its rows v) and its disk s (at db), with all that is theirs in B. -/
def RD (B : Nat → Prop) (w : World) (lb db : Nat) (v : Value) (g : Lg) (s : Dk) : Prop := ∃ Bd : Nat → Prop, RefAt Bd w db s ∧ RLAt w lb db v g ∧ ¬ Bd lb ∧ (∀ k, v.ownBlock = some k → ¬ Bd k ∧ B k) ∧ (∀ k, k < w.heap.size → Bd k → B k) ∧ B lb
structure RLOp (B : Nat → Prop) (w w' : World) (lb db : Nat) (v : Value) (g : Lg) (s : Dk) : Prop where
  at_ : RD (Ext B w w') w' lb db v g s
  fr : Fr B w w'
theorem RLAt.vlt {w : World} {lb db : Nat} {v : Value} {g : Lg} (h : RLAt w lb db v g) (k : Nat) (hk : v.ownBlock = some k) : k < w.heap.size := (World.ownsRow.lt h.own k hk).2
theorem RD.mono {B C : Nat → Prop} {w : World} {lb db : Nat} {v : Value} {g : Lg} {s : Dk} (h : RD B w lb db v g s) (hB : ∀ k, k < w.heap.size → B k → C k) : RD C w lb db v g s := by
  obtain ⟨Bd, h1, h2, h3, h4, h5, h6⟩ := h
  exact ⟨Bd, h1, h2, h3, fun k hk => ⟨(h4 k hk).1, hB k (h2.vlt k hk) (h4 k hk).2⟩, fun k hk hb => hB k hk (h5 k hk hb), hB lb h2.bx.lt h6⟩
theorem RD.fr {B C : Nat → Prop} {w w' : World} {lb db : Nat} {v : Value} {g : Lg} {s : Dk} (h : RD B w lb db v g s) (hf : Fr C w w') (hBC : ∀ k, k < w.heap.size → B k → ¬ C k) : RD B w' lb db v g s := by
  obtain ⟨Bd, h1, h2, h3, h4, h5, h6⟩ := h
  refine ⟨fun k => Bd k ∧ k < w.heap.size, (h1.mono fun k hk hb => ⟨hb, hk⟩).fr hf (fun k hk hb => hBC k hk (h5 k hk hb.1)), h2.heap fun k hk hc => hf.block k hk (hBC k hk ?_), fun hb => h3 hb.1, fun k hk => ⟨fun hb => (h4 k hk).1 hb.1, (h4 k hk).2⟩, fun k _ hb => h5 k hb.2 hb.1, h6⟩
  rcases hc with rfl | hc
  · exact h6
  · exact (h4 k hc).2
theorem RD.below {B : Nat → Prop} {w w' : World} {lb db : Nat} {v : Value} {g : Lg} {s : Dk} (h : RD B w lb db v g s) (hb : Below w.heap.size w w') : RD B w' lb db v g s :=
  h.fr (C := fun _ => False) ⟨hb.os, hb.tape, hb.output, hb.size, fun k hk _ => hb.block k hk⟩ (fun _ _ _ h => h)
theorem RLOp.refl {B : Nat → Prop} {w : World} {lb db : Nat} {v : Value} {g : Lg} {s : Dk} (h : RD B w lb db v g s) : RLOp B w w lb db v g s := ⟨h.mono fun k _ h => .inl h, Fr.refl _ _⟩
theorem RLOp.trans {B : Nat → Prop} {w w1 w2 : World} {lb db : Nat} {v v' : Value} {g g' : Lg} {s s' : Dk} (h : RLOp B w w1 lb db v g s) (k : RLOp (Ext B w w1) w1 w2 lb db v' g' s') : RLOp B w w2 lb db v' g' s' := by
  refine ⟨k.at_.mono fun i _ hi => ?_, h.fr.trans k.fr fun i hi hx => ?_⟩
  · have h1 := h.fr.size
    have h2 := k.fr.size
    rcases hi with (hi | hi) | hi
    · exact .inl hi
    · exact .inr ⟨hi.1, by omega⟩
    · exact .inr ⟨by omega, hi.2⟩
  · rcases hx with hx | hx
    · exact hx
    · omega
theorem RLOp.below {B : Nat → Prop} {w w1 w2 : World} {lb db : Nat} {v : Value} {g : Lg} {s : Dk} (h : RLOp B w w1 lb db v g s) (k : Below w1.heap.size w1 w2) : RLOp B w w2 lb db v g s := by
  refine ⟨(h.at_.below k).mono fun i _ hi => ?_, h.fr.trans (Fr.below (B := fun _ => False) k) fun i _ hx => hx.elim⟩
  rcases hi with hi | hi
  · exact .inl hi
  · exact .inr ⟨hi.1, Nat.lt_of_lt_of_le hi.2 k.size⟩
theorem RLOp.pre {B : Nat → Prop} {w w1 w2 : World} {lb db : Nat} {v : Value} {g : Lg} {s : Dk} (k : Below w.heap.size w w1) (h : RLOp B w1 w2 lb db v g s) : RLOp B w w2 lb db v g s := by
  refine ⟨h.at_.mono fun i _ hi => ?_, (Fr.below k).trans h.fr fun i _ hx => hx⟩
  have := k.size
  rcases hi with hi | hi
  · exact .inl hi
  · exact .inr ⟨by omega, hi.2⟩
theorem RLOp.drew {B : Nat → Prop} {w w1 : World} {lb db : Nat} {v : Value} {g : Lg} {s : Dk} (h : RLOp B w w1 lb db v g s) : RLOp B w w1.drew lb db v g s := h.below ⟨rfl, rfl, rfl, Nat.le_refl _, fun _ _ => rfl⟩
theorem RD.drew {B : Nat → Prop} {w : World} {lb db : Nat} {v : Value} {g : Lg} {s : Dk} (h : RD B w lb db v g s) : RD B w.drew lb db v g s := h.below ⟨rfl, rfl, rfl, Nat.le_refl _, fun _ _ => rfl⟩
/-- A call on the disk. -/
theorem RD.op {B : Nat → Prop} {w w' : World} {lb db : Nat} {v : Value} {g : Lg} {s s' : Dk} {Bd : Nat → Prop} (h1 : RefAt Bd w db s) (h2 : RLAt w lb db v g) (h3 : ¬ Bd lb) (h4 : ∀ k, v.ownBlock = some k → ¬ Bd k ∧ B k) (h5 : ∀ k, k < w.heap.size → Bd k → B k) (h6 : B lb) (o : ROp Bd w w' db s') : RLOp B w w' lb db v g s' := by
  have hs := o.fr.size
  refine ⟨⟨_, o.at_, h2.heap fun k hk hc => o.fr.block k hk ?_, fun hb => ?_, fun k hk => ⟨fun hb => ?_, .inl (h4 k hk).2⟩, fun k hk hb => ?_, .inl h6⟩, o.fr.mono h5⟩
  · rcases hc with rfl | hc
    · exact h3
    · exact (h4 k hc).1
  · rcases hb with hb | hb
    · exact h3 hb
    · have := h2.bx.lt; omega
  · rcases hb with hb | hb
    · exact (h4 k hk).1 hb
    · have := h2.vlt k hk; omega
  · rcases hb with hb | hb
    · by_cases hl : k < w.heap.size
      · exact .inl (h5 k hl hb)
      · exact .inr ⟨by omega, hk⟩
    · exact .inr hb
theorem call_rd {F : FuncId} {args : Array Value} {B : Nat → Prop} {w : World} {lb db : Nat} {v val : Value} {g : Lg} {s s' : Dk} (h : RD B w lb db v g s) (hc : ∀ Bd, RefAt Bd w db s → Calls Try.prog F args w fun e w' => e = .returned val ∧ ROp Bd w w' db s') : Calls Try.prog F args w fun e w' => e = .returned val ∧ RLOp B w w' lb db v g s' := by
  obtain ⟨Bd, h1, h2, h3, h4, h5, h6⟩ := h
  exact (hc Bd h1).mono fun e w' ⟨a, b⟩ => ⟨a, RD.op h1 h2 h3 h4 h5 h6 b⟩
theorem hWrite {B : Nat → Prop} {w w1 : World} {lb db : Nat} {v : Value} {g : Lg} {s : Dk} (h : RLOp B w w1 lb db v g s) (f a : Int) (t : ByteArray) (ht : t.size ≤ 1000000) (hn : s.pend.length + t.size ≤ 1000000) : Calls Try.prog 45 #[.pointer (some ⟨db, 0, none⟩), .int .i64 f, .int .i64 a, .string t] w1 fun e w' => e = .returned (.int .i64 (s.rwrite f a t).1) ∧ RLOp B w w' lb db v g (s.rwrite f a t).2 := (call_rd h.at_ fun Bd hB => writeR hB f a t ht hn).mono fun e w' ⟨a, b⟩ => ⟨a, h.trans b⟩
theorem hFlush {B : Nat → Prop} {w w1 : World} {lb db : Nat} {v : Value} {g : Lg} {s : Dk} (h : RLOp B w w1 lb db v g s) (f : Int) : Calls Try.prog 44 #[.pointer (some ⟨db, 0, none⟩), .int .i64 f] w1 fun e w' => e = .returned (.int .i64 (s.rflush f).1) ∧ RLOp B w w' lb db v g (s.rflush f).2 := (call_rd h.at_ fun Bd hB => flushR hB f).mono fun e w' ⟨a, b⟩ => ⟨a, h.trans b⟩
theorem hCut {B : Nat → Prop} {w w1 : World} {lb db : Nat} {v : Value} {g : Lg} {s : Dk} (h : RLOp B w w1 lb db v g s) (f n : Int) : Calls Try.prog 56 #[.pointer (some ⟨db, 0, none⟩), .int .i64 f, .int .i64 n] w1 fun e w' => e = .returned (.int .i64 (s.rcut f n).1) ∧ RLOp B w w' lb db v g (s.rcut f n).2 := (call_rd h.at_ fun Bd hB => cutR hB f n).mono fun e w' ⟨a, b⟩ => ⟨a, h.trans b⟩
theorem hTurn {B : Nat → Prop} {w w1 : World} {lb db : Nat} {v : Value} {g : Lg} {s : Dk} (h : RLOp B w w1 lb db v g s) (f k : Int) : Calls Try.prog 58 #[.pointer (some ⟨db, 0, none⟩), .int .i64 f, .int .i64 k] w1 fun e w' => e = .returned (.int .i64 (s.rturn f k).1) ∧ RLOp B w w' lb db v g (s.rturn f k).2 := (call_rd h.at_ fun Bd hB => turnR hB f k).mono fun e w' ⟨a, b⟩ => ⟨a, h.trans b⟩
theorem hDown {B : Nat → Prop} {w w1 : World} {lb db : Nat} {v : Value} {g : Lg} {s : Dk} (h : RLOp B w w1 lb db v g s) : Calls Try.prog 43 #[.pointer (some ⟨db, 0, none⟩)] w1 fun e w' => e = .returned (.bool s.down) ∧ RLOp B w w' lb db v g s := (call_rd h.at_ fun Bd hB => (downR hB).mono fun e w' ⟨a, b⟩ => ⟨a, by subst b; exact ROp.refl hB⟩).mono fun e w' ⟨a, b⟩ => ⟨a, h.trans b⟩
theorem RD.lg {B : Nat → Prop} {w : World} {lb db : Nat} {v : Value} {g : Lg} {s : Dk} (h : RD B w lb db v g s) : RLAt w lb db v g := by obtain ⟨_, _, h, _⟩ := h; exact h
/-- The rows are grown by one, and the end is put forward. -/
theorem RD.app {B : Nat → Prop} {w w5 : World} {lb db gg cap : Nat} {v : Value} {g : Lg} {s : Dk} {o : Obj} {row : ByteArray} (h : RD B w lb db v g s)
    (hown : w5.ownsRow 0 9 1 (.slice (some ⟨gg, 0, none⟩) (g.rows.length + 1) cap) (g.rows.length + 1) (sv g.rows ++ [.string row]))
    (hg : (w.alloc o).grownBy w5 v.ownBlock) (hat : v.ownBlock = some gg ∨ gg = w.heap.size + 1) (hb : ext (g.rows ++ [row]) ≤ 1000000000000) :
    RLOp B w (w5.setCell ⟨lb, 2, none⟩ (.slice (some ⟨gg, 0, none⟩) (g.rows.length + 1) cap)) lb db (.slice (some ⟨gg, 0, none⟩) (g.rows.length + 1) cap) ⟨g.file, g.rows ++ [row], g.sure⟩ s := by
  obtain ⟨Bd, h1, h2, h3, h4, h5, h6⟩ := h
  obtain ⟨W6, hW6⟩ : ∃ W6, (w5.setCell ⟨lb, 2, none⟩ (.slice (some ⟨gg, 0, none⟩) (g.rows.length + 1) cap)) = W6 := ⟨_, rfl⟩
  have hlt := h2.bx.lt
  have hs5 : w.heap.size + 1 ≤ w5.heap.size := by have := hg.size; simpa using this
  have hs6 : W6.heap.size = w5.heap.size := by rw [← hW6]; simp [World.setCell]
  have ho6 : ∀ k, k ≠ lb → W6.heap[k]? = w5.heap[k]? := fun k hk => by
    rw [← hW6]
    exact Below.heap_setCell w5 ⟨lb, 2, none⟩ _ k hk
  have hne : gg ≠ lb := by
    rcases hat with hat | hat
    · intro e; exact h2.ne (by rw [hat, e])
    · omega
  have ho5 : ∀ k, k < w.heap.size → v.ownBlock ≠ some k → w5.heap[k]? = w.heap[k]? := fun k hk hn => by
    rw [hg.block k (by simp; omega) (fun e => hn e.symm)]
    exact (below_new w o).block k hk
  have hbx5 : Blk w5 lb 51 #[.pointer (some ⟨db, 0, none⟩), .int .i64 g.file, v, .int .i64 g.sure] := (ho5 lb hlt h2.ne).trans h2.bx
  have hbx6 := blk_set (i := 2) hbx5 (.slice (some ⟨gg, 0, none⟩) (g.rows.length + 1) cap)
  rw [hW6] at hbx6 ⊢
  have hos : W6.os = w.os ∧ W6.tape = w.tape ∧ W6.output = w.output := by
    rw [← hW6]; exact ⟨hg.os, hg.tape, hg.output⟩
  have hfr : Fr (fun k => k = lb ∨ v.ownBlock = some k) w W6 := ⟨hos.1, hos.2.1, hos.2.2, by omega, fun k hk hn => (ho6 k (fun e => hn (.inl e))).trans (ho5 k hk (fun e => hn (.inr e)))⟩
  have hown6 : W6.ownsRow 0 9 1 (.slice (some ⟨gg, 0, none⟩) (g.rows.length + 1) cap) (g.rows.length + 1) (sv g.rows ++ [.string row]) := by
    refine ⟨hown.1, ?_⟩
    rcases hown.2 with ⟨hv, _⟩ | ⟨k, cap', cur, hv, a, b, r⟩
    · cases hv
    · refine .inr ⟨k, cap', cur, hv, a, ?_, r⟩
      have hk : k = gg := by injection hv with e1 _ _; injection e1 with e1; injection e1 with e1; exact e1.symm
      rw [ho6 k (by rw [hk]; exact hne)]; exact b
  refine ⟨⟨fun k => Bd k ∧ k < w.heap.size, (h1.mono fun k hk hb => ⟨hb, hk⟩).fr hfr (fun k hk hb hc => ?_), ⟨hbx6, ?_, ?_, hb⟩, fun hb => h3 hb.1, fun k hk => ?_, fun k hk hb => .inl (h5 k hb.2 hb.1), .inl h6⟩, hfr.mono fun k hk hc => ?_⟩
  · rcases hc with rfl | hc
    · exact h3 hb.1
    · exact (h4 k hc).1 hb.1
  · show W6.ownsRow 0 _ 1 _ (g.rows ++ [row]).length (sv (g.rows ++ [row]))
    have e : sv (g.rows ++ [row]) = sv g.rows ++ [.string row] := by simp [sv]
    rw [e, List.length_append]; exact hown6
  · intro e; simp [Value.ownBlock] at e; exact hne e
  · simp [Value.ownBlock] at hk
    subst hk
    rcases hat with hat | hat
    · exact ⟨fun hb => (h4 gg hat).1 hb.1, .inl (h4 gg hat).2⟩
    · exact ⟨fun hb => by have := hb.2; omega, .inr ⟨by omega, (World.ownsRow.lt hown6 gg (by simp [Value.ownBlock])).2⟩⟩
  · rcases hc with rfl | hc
    · exact h6
    · exact (h4 k hc).2
end Go.Proofs.Ythdmcjiccbgknaa
