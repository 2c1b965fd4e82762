/-
  Package journal: a log and its disk in memory.
-/
import Derived.Test.YtognomkhkoiabaaJ11
import Derived.Test.YtognomkhkoiabaaJ12
import Derived.Test.YtognomkhkoiabaaDf12
namespace Go.Proofs.Ytognomkhkoiabaa
set_option linter.unusedVariables false
set_option linter.unusedSimpArgs false
open Go.RowKit

/-- The log g (at lb, its rows v) and its disk s (at db), with all that is theirs in B. -/
def LD (B : Nat → Prop) (w : World) (lb db : Nat) (v : Value) (g : Lg) (s : Dk) : Prop := ∃ Bd : Nat → Prop, DiskAt Bd w db s ∧ LgAt w lb db v g ∧ ¬ Bd lb ∧ (∀ k, v.ownBlock = some k → ¬ Bd k ∧ B k) ∧ (∀ k, k < w.heap.size → Bd k → B k) ∧ B lb
structure LOp (B : Nat → Prop) (w w' : World) (lb db : Nat) (v : Value) (g : Lg) (s : Dk) : Prop where
  at_ : LD (Ext B w w') w' lb db v g s
  fr : Fr B w w'
theorem LgAt.vlt {w : World} {lb db : Nat} {v : Value} {g : Lg} (h : LgAt w lb db v g) (k : Nat) (hk : v.ownBlock = some k) : k < w.heap.size := (World.ownsRow.lt h.own k hk).2
theorem LD.mono {B C : Nat → Prop} {w : World} {lb db : Nat} {v : Value} {g : Lg} {s : Dk} (h : LD B w lb db v g s) (hB : ∀ k, k < w.heap.size → B k → C k) : LD C w lb db v g s := by
  obtain ⟨Bd, h1, h2, h3, h4, h5, h6⟩ := h
  exact ⟨Bd, h1, h2, h3, fun k hk => ⟨(h4 k hk).1, hB k (h2.vlt k hk) (h4 k hk).2⟩, fun k hk hb => hB k hk (h5 k hk hb), hB lb h2.bx.lt h6⟩
theorem LD.fr {B C : Nat → Prop} {w w' : World} {lb db : Nat} {v : Value} {g : Lg} {s : Dk} (h : LD B w lb db v g s) (hf : Fr C w w') (hBC : ∀ k, k < w.heap.size → B k → ¬ C k) : LD B w' lb db v g s := by
  obtain ⟨Bd, h1, h2, h3, h4, h5, h6⟩ := h
  refine ⟨fun k => Bd k ∧ k < w.heap.size, (h1.mono fun k hk hb => ⟨hb, hk⟩).fr hf (fun k hk hb => hBC k hk (h5 k hk hb.1)), h2.heap fun k hk hc => hf.block k hk (hBC k hk ?_), fun hb => h3 hb.1, fun k hk => ⟨fun hb => (h4 k hk).1 hb.1, (h4 k hk).2⟩, fun k _ hb => h5 k hb.2 hb.1, h6⟩
  rcases hc with rfl | hc
  · exact h6
  · exact (h4 k hc).2
theorem LD.below {B : Nat → Prop} {w w' : World} {lb db : Nat} {v : Value} {g : Lg} {s : Dk} (h : LD B w lb db v g s) (hb : Below w.heap.size w w') : LD B w' lb db v g s :=
  h.fr (C := fun _ => False) ⟨hb.os, hb.tape, hb.output, hb.size, fun k hk _ => hb.block k hk⟩ (fun _ _ _ h => h)
theorem LOp.refl {B : Nat → Prop} {w : World} {lb db : Nat} {v : Value} {g : Lg} {s : Dk} (h : LD B w lb db v g s) : LOp B w w lb db v g s := ⟨h.mono fun k _ h => .inl h, Fr.refl _ _⟩
theorem LOp.trans {B : Nat → Prop} {w w1 w2 : World} {lb db : Nat} {v v' : Value} {g g' : Lg} {s s' : Dk} (h : LOp B w w1 lb db v g s) (k : LOp (Ext B w w1) w1 w2 lb db v' g' s') : LOp B w w2 lb db v' g' s' := by
  refine ⟨k.at_.mono fun i _ hi => ?_, h.fr.trans k.fr fun i hi hx => ?_⟩
  · have h1 := h.fr.size
    have h2 := k.fr.size
    rcases hi with (hi | hi) | hi
    · exact .inl hi
    · exact .inr ⟨hi.1, by omega⟩
    · exact .inr ⟨by omega, hi.2⟩
  · rcases hx with hx | hx
    · exact hx
    · omega
theorem LOp.below {B : Nat → Prop} {w w1 w2 : World} {lb db : Nat} {v : Value} {g : Lg} {s : Dk} (h : LOp B w w1 lb db v g s) (k : Below w1.heap.size w1 w2) : LOp B w w2 lb db v g s := by
  refine ⟨(h.at_.below k).mono fun i _ hi => ?_, h.fr.trans (Fr.below (B := fun _ => False) k) fun i _ hx => hx.elim⟩
  rcases hi with hi | hi
  · exact .inl hi
  · exact .inr ⟨hi.1, Nat.lt_of_lt_of_le hi.2 k.size⟩
theorem LOp.pre {B : Nat → Prop} {w w1 w2 : World} {lb db : Nat} {v : Value} {g : Lg} {s : Dk} (k : Below w.heap.size w w1) (h : LOp B w1 w2 lb db v g s) : LOp B w w2 lb db v g s := by
  refine ⟨h.at_.mono fun i _ hi => ?_, (Fr.below k).trans h.fr fun i _ hx => hx⟩
  have := k.size
  rcases hi with hi | hi
  · exact .inl hi
  · exact .inr ⟨by omega, hi.2⟩
theorem LOp.drew {B : Nat → Prop} {w w1 : World} {lb db : Nat} {v : Value} {g : Lg} {s : Dk} (h : LOp B w w1 lb db v g s) : LOp B w w1.drew lb db v g s := h.below ⟨rfl, rfl, rfl, Nat.le_refl _, fun _ _ => rfl⟩
theorem LD.drew {B : Nat → Prop} {w : World} {lb db : Nat} {v : Value} {g : Lg} {s : Dk} (h : LD B w lb db v g s) : LD B w.drew lb db v g s := h.below ⟨rfl, rfl, rfl, Nat.le_refl _, fun _ _ => rfl⟩
/-- The log's cells. -/
theorem LgAt.cells {w : World} {lb db : Nat} {v : Value} {g : Lg} (h : LgAt w lb db v g) : w.cell? ⟨lb, 0, none⟩ = some (.pointer (some ⟨db, 0, none⟩)) ∧ w.cell? ⟨lb, 1, none⟩ = some (.int .i64 g.file) ∧ w.cell? ⟨lb, 2, none⟩ = some v ∧ w.cell? ⟨lb, 3, none⟩ = some (.int .i64 g.sure) ∧ w.cell? ⟨lb, 4, none⟩ = some (.int .i64 (ext g.rows)) ∧ ∀ i, w.frozen? ⟨lb, i, none⟩ = false :=
  ⟨h.bx.cell 0, h.bx.cell 1, h.bx.cell 2, h.bx.cell 3, h.bx.cell 4, fun i => Lib.frozen_of_heap h.bx i⟩
theorem LD.lg {B : Nat → Prop} {w : World} {lb db : Nat} {v : Value} {g : Lg} {s : Dk} (h : LD B w lb db v g s) : LgAt w lb db v g := by obtain ⟨_, _, h, _⟩ := h; exact h
theorem LD.in_ {B : Nat → Prop} {w : World} {lb db : Nat} {v : Value} {g : Lg} {s : Dk} (h : LD B w lb db v g s) : B lb := by obtain ⟨_, _, _, _, _, _, h⟩ := h; exact h
/-- A call on the disk. -/
theorem LD.op {B : Nat → Prop} {w w' : World} {lb db : Nat} {v : Value} {g : Lg} {s s' : Dk} {Bd : Nat → Prop} (h1 : DiskAt Bd w db s) (h2 : LgAt w lb db v g) (h3 : ¬ Bd lb) (h4 : ∀ k, v.ownBlock = some k → ¬ Bd k ∧ B k) (h5 : ∀ k, k < w.heap.size → Bd k → B k) (h6 : B lb) (o : Op Bd w w' db s') : LOp B w w' lb db v g s' := by
  have hs := o.fr.size
  refine ⟨⟨_, o.at_, h2.heap fun k hk hc => o.fr.block k hk ?_, fun hb => ?_, fun k hk => ⟨fun hb => ?_, .inl (h4 k hk).2⟩, fun k hk hb => ?_, .inl h6⟩, o.fr.mono h5⟩
  · rcases hc with rfl | hc
    · exact h3
    · exact (h4 k hc).1
  · rcases hb with hb | hb
    · exact h3 hb
    · have := h2.bx.lt; omega
  · rcases hb with hb | hb
    · exact (h4 k hk).1 hb
    · have := h2.vlt k hk; omega
  · rcases hb with hb | hb
    · by_cases hl : k < w.heap.size
      · exact .inl (h5 k hl hb)
      · exact .inr ⟨by omega, hk⟩
    · exact .inr hb
theorem call_ld {F : FuncId} {args : Array Value} {B : Nat → Prop} {w : World} {lb db : Nat} {v val : Value} {g : Lg} {s s' : Dk} (h : LD B w lb db v g s) (hc : ∀ Bd, DiskAt Bd w db s → Calls Try.prog F args w fun e w' => e = .returned val ∧ Op Bd w w' db s') : Calls Try.prog F args w fun e w' => e = .returned val ∧ LOp B w w' lb db v g s' := by
  obtain ⟨Bd, h1, h2, h3, h4, h5, h6⟩ := h
  exact (hc Bd h1).mono fun e w' ⟨a, b⟩ => ⟨a, LD.op h1 h2 h3 h4 h5 h6 b⟩
theorem gWrite {B : Nat → Prop} {w : World} {lb db : Nat} {v : Value} {g : Lg} {s : Dk} (h : LD B w lb db v g s) (f a : Int) (t : ByteArray) (hn : s.pend.length + t.size ≤ 1000000) : Calls Try.prog 28 #[.pointer (some ⟨db, 0, none⟩), .int .i64 f, .int .i64 a, .string t] w fun e w' => e = .returned (.int .i64 (s.write f a t).1) ∧ LOp B w w' lb db v g (s.write f a t).2 := call_ld h fun Bd hB => writeP hB f a t hn
theorem gFlush {B : Nat → Prop} {w : World} {lb db : Nat} {v : Value} {g : Lg} {s : Dk} (h : LD B w lb db v g s) (f : Int) : Calls Try.prog 36 #[.pointer (some ⟨db, 0, none⟩), .int .i64 f] w fun e w' => e = .returned (.int .i64 (s.flush f).1) ∧ LOp B w w' lb db v g (s.flush f).2 := call_ld h fun Bd hB => flushP hB f
theorem gCut {B : Nat → Prop} {w : World} {lb db : Nat} {v : Value} {g : Lg} {s : Dk} (h : LD B w lb db v g s) (f n : Int) : Calls Try.prog 32 #[.pointer (some ⟨db, 0, none⟩), .int .i64 f, .int .i64 n] w fun e w' => e = .returned (.int .i64 (s.cut f n).1) ∧ LOp B w w' lb db v g (s.cut f n).2 := call_ld h fun Bd hB => cutPP hB f n
theorem gTurn {B : Nat → Prop} {w : World} {lb db : Nat} {v : Value} {g : Lg} {s : Dk} (h : LD B w lb db v g s) (f k : Int) : Calls Try.prog 38 #[.pointer (some ⟨db, 0, none⟩), .int .i64 f, .int .i64 k] w fun e w' => e = .returned (.int .i64 (s.turn f k).1) ∧ LOp B w w' lb db v g (s.turn f k).2 := call_ld h fun Bd hB => turnP hB f k
theorem gFlushFile {B : Nat → Prop} {w : World} {lb db : Nat} {v : Value} {g : Lg} {s : Dk} (h : LD B w lb db v g s) : Calls Try.prog 26 #[.pointer (some ⟨lb, 0, none⟩)] w fun e w' => e = .returned (.int .i64 (s.flush g.file).1) ∧ LOp B w w' lb db v g (s.flush g.file).2 := by
  obtain ⟨Bd, h1, h2, h3, h4, h5, h6⟩ := h
  exact (flushFileP h2 h1).mono fun e w' ⟨a, b⟩ => ⟨a, LD.op h1 h2 h3 h4 h5 h6 b⟩
theorem gIdle {B : Nat → Prop} {w : World} {lb db : Nat} {v : Value} {g : Lg} {s : Dk} (h : LD B w lb db v g s) : Calls Try.prog 25 #[.pointer (some ⟨lb, 0, none⟩)] w fun e w' => e = .returned (.int .i64 (if s.down = true then 10 else 0)) ∧ w = w' := by
  obtain ⟨Bd, h1, h2, h3, h4, h5, h6⟩ := h
  exact idleP h2 h1
/-- The rows are grown by one, and the end is put forward. -/
theorem LD.app {B : Nat → Prop} {w w5 : World} {lb db gg cap : Nat} {v : Value} {g : Lg} {s : Dk} {o : Obj} {row : ByteArray} (h : LD B w lb db v g s)
    (hown : w5.ownsRow 0 9 1 (.slice (some ⟨gg, 0, none⟩) (g.rows.length + 1) cap) (g.rows.length + 1) (sv g.rows ++ [.string row]))
    (hg : (w.alloc o).grownBy w5 v.ownBlock) (hat : v.ownBlock = some gg ∨ gg = w.heap.size + 1) (hb : ext (g.rows ++ [row]) ≤ 1000000000000) :
    LOp B w ((w5.setCell ⟨lb, 2, none⟩ (.slice (some ⟨gg, 0, none⟩) (g.rows.length + 1) cap)).setCell ⟨lb, 4, none⟩ (.int .i64 (ext (g.rows ++ [row])))) lb db (.slice (some ⟨gg, 0, none⟩) (g.rows.length + 1) cap) ⟨g.file, g.rows ++ [row], g.sure⟩ s := by
  obtain ⟨Bd, h1, h2, h3, h4, h5, h6⟩ := h
  obtain ⟨W6, hW6⟩ : ∃ W6, (w5.setCell ⟨lb, 2, none⟩ (.slice (some ⟨gg, 0, none⟩) (g.rows.length + 1) cap)).setCell ⟨lb, 4, none⟩ (.int .i64 (ext (g.rows ++ [row]))) = W6 := ⟨_, rfl⟩
  have hlt := h2.bx.lt
  have hs5 : w.heap.size + 1 ≤ w5.heap.size := by have := hg.size; simpa using this
  have hs6 : W6.heap.size = w5.heap.size := by rw [← hW6]; simp [World.setCell]
  have ho6 : ∀ k, k ≠ lb → W6.heap[k]? = w5.heap[k]? := fun k hk => by
    rw [← hW6]
    exact (Below.heap_setCell _ ⟨lb, 4, none⟩ _ k hk).trans (Below.heap_setCell w5 ⟨lb, 2, none⟩ _ k hk)
  have hne : gg ≠ lb := by
    rcases hat with hat | hat
    · intro e; exact h2.ne (by rw [hat, e])
    · omega
  have ho5 : ∀ k, k < w.heap.size → v.ownBlock ≠ some k → w5.heap[k]? = w.heap[k]? := fun k hk hn => by
    rw [hg.block k (by simp; omega) (fun e => hn e.symm)]
    exact (below_new w o).block k hk
  have hbx5 : Blk w5 lb 59 #[.pointer (some ⟨db, 0, none⟩), .int .i64 g.file, v, .int .i64 g.sure, .int .i64 (ext g.rows)] := (ho5 lb hlt h2.ne).trans h2.bx
  have hbx6 := blk_set (i := 4) (blk_set (i := 2) hbx5 (.slice (some ⟨gg, 0, none⟩) (g.rows.length + 1) cap)) (.int .i64 (ext (g.rows ++ [row])))
  rw [hW6] at hbx6 ⊢
  have hos : W6.os = w.os ∧ W6.tape = w.tape ∧ W6.output = w.output := by
    rw [← hW6]; exact ⟨hg.os, hg.tape, hg.output⟩
  have hfr : Fr (fun k => k = lb ∨ v.ownBlock = some k) w W6 := ⟨hos.1, hos.2.1, hos.2.2, by omega, fun k hk hn => (ho6 k (fun e => hn (.inl e))).trans (ho5 k hk (fun e => hn (.inr e)))⟩
  have hown6 : W6.ownsRow 0 9 1 (.slice (some ⟨gg, 0, none⟩) (g.rows.length + 1) cap) (g.rows.length + 1) (sv g.rows ++ [.string row]) := by
    refine ⟨hown.1, ?_⟩
    rcases hown.2 with ⟨hv, _⟩ | ⟨k, cap', cur, hv, a, b, r⟩
    · cases hv
    · refine .inr ⟨k, cap', cur, hv, a, ?_, r⟩
      have hk : k = gg := by injection hv with e1 _ _; injection e1 with e1; injection e1 with e1; exact e1.symm
      rw [ho6 k (by rw [hk]; exact hne)]; exact b
  refine ⟨⟨fun k => Bd k ∧ k < w.heap.size, (h1.mono fun k hk hb => ⟨hb, hk⟩).fr hfr (fun k hk hb hc => ?_), ⟨hbx6, ?_, ?_, hb⟩, fun hb => h3 hb.1, fun k hk => ?_, fun k hk hb => .inl (h5 k hb.2 hb.1), .inl h6⟩, hfr.mono fun k hk hc => ?_⟩
  · rcases hc with rfl | hc
    · exact h3 hb.1
    · exact (h4 k hc).1 hb.1
  · show W6.ownsRow 0 _ 1 _ (g.rows ++ [row]).length (sv (g.rows ++ [row]))
    have e : sv (g.rows ++ [row]) = sv g.rows ++ [.string row] := by simp [sv]
    rw [e, List.length_append]; exact hown6
  · intro e; simp [Value.ownBlock] at e; exact hne e
  · simp [Value.ownBlock] at hk
    subst hk
    rcases hat with hat | hat
    · exact ⟨fun hb => (h4 gg hat).1 hb.1, .inl (h4 gg hat).2⟩
    · exact ⟨fun hb => by have := hb.2; omega, .inr ⟨by omega, (World.ownsRow.lt hown6 gg (by simp [Value.ownBlock])).2⟩⟩
  · rcases hc with rfl | hc
    · exact h6
    · exact (h4 k hc).2
end Go.Proofs.Ytognomkhkoiabaa
