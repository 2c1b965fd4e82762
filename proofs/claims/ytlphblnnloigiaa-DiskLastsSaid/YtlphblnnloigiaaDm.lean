/-
  Layer 6: the disk in memory.
-/
import Derived.Test.YtlphblnnloigiaaDk
import Derived.Laws.OwnMore
import Derived.Laws.MakeOwn
import Derived.Laws.CopyOwn
import Derived.Lib.SliceRun
namespace Go.Proofs.Ytlphblnnloigiaa
set_option linter.unusedVariables false
set_option linter.unusedSimpArgs false
open Go.RowKit

theorem infoP : (Try.prog.info? 54).map (fun i => (i.zero, i.size, i.bytes)) = some (some (.agg #[.int .i64 0, .int .i64 0, .string (bs [])]), 3, 32) := by kernel_rfl
theorem infoI : (Try.prog.info? 3).map (fun i => (i.zero, i.size, i.bytes)) = some (some (.int .i64 0), 1, 8) := by kernel_rfl

def iv (l : List Int) : List Value := l.map (Value.int .i64)
theorem iv_length (l : List Int) : (iv l).length = l.length := by simp [iv]
theorem iv_get (l : List Int) (i : Nat) : (iv l)[i]? = l[i]?.map (Value.int .i64) := by simp [iv]

/-- The cells of pieces. -/
def pc (l : List Pc) : List Value := l.flatMap fun p => [.int .i64 p.f, .int .i64 p.a, .string p.t]
def pv (p : Pc) : Value := .agg #[.int .i64 p.f, .int .i64 p.a, .string p.t]
theorem pc_cons (p : Pc) (l : List Pc) : pc (p :: l) = .int .i64 p.f :: .int .i64 p.a :: .string p.t :: pc l := rfl
theorem pc_length : ∀ (l : List Pc), (pc l).length = l.length * 3
  | [] => rfl
  | p :: l => by rw [pc_cons, List.length_cons, List.length_cons, List.length_cons, pc_length l, List.length_cons]; omega
theorem pc_append (a b : List Pc) : pc (a ++ b) = pc a ++ pc b := by simp [pc]
theorem pc_take : ∀ (l : List Pc) (k : Nat), (pc l).take (k * 3) = pc (l.take k)
  | [], k => by simp [pc]
  | x :: l, 0 => by simp [pc]
  | x :: l, k + 1 => by
    rw [pc_cons, show (k + 1) * 3 = k * 3 + 1 + 1 + 1 by omega, List.take_succ_cons, List.take_succ_cons, List.take_succ_cons, pc_take l k]
    rfl
theorem pc_one : ∀ (l : List Pc), ∀ u ∈ pc l, u.oneCell' = true := fun l u hu => by
  unfold pc at hu
  obtain ⟨s, _, h⟩ := List.mem_flatMap.1 hu
  rcases List.mem_cons.1 h with rfl | h
  · rfl
  · rcases List.mem_cons.1 h with rfl | h
    · rfl
    · rcases List.mem_cons.1 h with rfl | h
      · rfl
      · cases h
theorem pc_at : ∀ (l : List Pc) (i : Nat), i < l.length → (pc l)[i * 3]? = some (.int .i64 (gp l i).f) ∧ (pc l)[i * 3 + 1]? = some (.int .i64 (gp l i).a) ∧ (pc l)[i * 3 + 2]? = some (.string (gp l i).t)
  | [], i, h => by simp at h
  | x :: l, 0, _ => ⟨rfl, rfl, rfl⟩
  | x :: l, i + 1, h => by
    have := pc_at l i (by simpa using h)
    have e : gp (x :: l) (i + 1) = gp l i := by simp [gp]
    rw [e, pc_cons, show (i + 1) * 3 = i * 3 + 1 + 1 + 1 by omega]
    simpa using this

/-- A slice value that owns its row of pieces. -/
def OwnP (w : World) (v : Value) (l : List Pc) : Prop := w.ownsRow 0 54 3 v l.length (pc l)
theorem OwnP.nil (w : World) : OwnP w (.slice none 0 0) [] := World.ownsRow_nil _ _ _ _
theorem OwnP.form {w : World} {v : Value} {l : List Pc} (h : OwnP w v l) : (v = .slice none 0 0 ∧ l = []) ∨ ∃ g cap cur, v = .slice (some ⟨g, 0, none⟩) l.length cap ∧ w.heap[g]? = some (.cells cur 54 (0, 0)) ∧ l.length ≤ cap ∧ cap ≤ maxLen ∧ cur.size = cap * 3 ∧ cur.toList.take (l.length * 3) = pc l := by
  rcases h.2 with ⟨h1, h2⟩ | ⟨g, cap, cur, h1, h2, h3, h4, h5, h6, h7⟩
  · exact .inl ⟨h1, List.eq_nil_of_length_eq_zero h2⟩
  · exact .inr ⟨g, cap, cur, h1, h3, h4, h5, h6, h7⟩
theorem OwnP.cells {w : World} {v : Value} {l : List Pc} (h : OwnP w v l) : ∃ A cap, v = .slice A l.length cap ∧ l.length ≤ cap ∧ cap ≤ maxLen ∧ (A = none → cap = 0) ∧ (0 < l.length → ∃ g, A = some ⟨g, 0, none⟩ ∧ g < w.heap.size ∧ ∀ i, i < l.length → w.cell? ⟨g, i * 3, none⟩ = some (.int .i64 (gp l i).f) ∧ w.cell? ⟨g, i * 3 + 1, none⟩ = some (.int .i64 (gp l i).a) ∧ w.cell? ⟨g, i * 3 + 2, none⟩ = some (.string (gp l i).t)) := by
  rcases h.form with ⟨rfl, rfl⟩ | ⟨g, cap, cur, rfl, hg, h1, h2, h3, h4⟩
  · exact ⟨none, 0, rfl, by simp, by decide, fun _ => rfl, fun h => by simp at h⟩
  · refine ⟨_, cap, rfl, h1, h2, (fun e => by cases e), fun _ => ⟨g, rfl, (Array.getElem?_eq_some_iff.1 hg).1, fun i hi => ?_⟩⟩
    have hc : ∀ j u, (pc l)[j]? = some u → w.cell? ⟨g, j, none⟩ = some u := fun j u hu => by
      rw [← h4, List.getElem?_take] at hu
      split at hu
      · rw [cell_of_row _ _ _ _ _ _ hg, ← Array.getElem?_toList]; exact hu
      · cases hu
    have h5 := pc_at l i hi
    exact ⟨hc _ _ h5.1, hc _ _ h5.2.1, hc _ _ h5.2.2⟩
theorem OwnP.lt {w : World} {v : Value} {l : List Pc} (h : OwnP w v l) : ∀ k, v.ownBlock = some k → k < w.heap.size := fun k hk => (World.ownsRow.lt h k hk).2

/-- A slice value that reads as the ints l, in memory below block B. -/
def IRow (w : World) (B : Nat) (v : Value) (l : List Int) : Prop :=
  ∃ A cap, v = .slice A l.length cap ∧ l.length ≤ cap ∧ cap ≤ maxLen ∧ (A = none → cap = 0) ∧ (0 < l.length → ∃ b off, A = some ⟨b, off, none⟩ ∧ b < B ∧ ∀ i (h : i < l.length), w.cell? ⟨b, off + i, none⟩ = some (.int .i64 l[i]))
theorem IRow.below {w w' : World} {B : Nat} {v : Value} {l : List Int} (h : IRow w B v l) (hb : Below B w w') : IRow w' B v l := by
  obtain ⟨A, cap, hv, h1, h2, h3, hA⟩ := h
  refine ⟨A, cap, hv, h1, h2, h3, fun h0 => ?_⟩
  obtain ⟨b, off, ha, hB, hc⟩ := hA h0
  exact ⟨b, off, ha, hB, fun k hk => (hb.cell (p := ⟨b, off + k, none⟩) hB).trans (hc k hk)⟩
theorem IRow.mono {w : World} {B B' : Nat} {v : Value} {l : List Int} (h : IRow w B v l) (hb : B ≤ B') : IRow w B' v l := by
  obtain ⟨A, cap, hv, h1, h2, h3, hA⟩ := h
  refine ⟨A, cap, hv, h1, h2, h3, fun h0 => ?_⟩
  obtain ⟨b, off, ha, hB, hc⟩ := hA h0
  exact ⟨b, off, ha, by omega, hc⟩
theorem irow_nil (w : World) (B : Nat) : IRow w B (.slice none 0 0) [] := ⟨none, 0, rfl, by simp, by decide, fun _ => rfl, fun h => by simp at h⟩
theorem IRow.keep {w w' : World} {v : Value} {l : List Int} (h : IRow w w.heap.size v l) (hb : Below w.heap.size w w') : IRow w' w'.heap.size v l := (h.below hb).mono hb.size
theorem IRow.heap {w w' : World} {v : Value} {l : List Int} (h : IRow w w.heap.size v l) (hs : w.heap.size ≤ w'.heap.size) (hb : ∀ k, v.ownBlock = some k → k < w.heap.size → w'.heap[k]? = w.heap[k]?) : IRow w' w'.heap.size v l := by
  obtain ⟨A, cap, hv, h1, h2, h3, hA⟩ := h
  refine ⟨A, cap, hv, h1, h2, h3, fun h0 => ?_⟩
  obtain ⟨b, off, ha, hB, hc⟩ := hA h0
  refine ⟨b, off, ha, by omega, fun i hi => ?_⟩
  have := hb b (by rw [hv, ha]; rfl) hB
  have hc := hc i hi
  unfold World.cell? at hc ⊢
  rw [this]; exact hc

/-- What became of the memory: outside of the blocks of B nothing that was there has changed. -/
structure Fr (B : Nat → Prop) (w w' : World) : Prop where
  os : w'.os = w.os
  tape : w'.tape = w.tape
  output : w'.output = w.output
  size : w.heap.size ≤ w'.heap.size
  block : ∀ k, k < w.heap.size → ¬ B k → w'.heap[k]? = w.heap[k]?
theorem Fr.refl (B : Nat → Prop) (w : World) : Fr B w w := ⟨rfl, rfl, rfl, Nat.le_refl _, fun _ _ _ => rfl⟩
theorem Fr.below {B : Nat → Prop} {w w' : World} (h : Below w.heap.size w w') : Fr B w w' := ⟨h.os, h.tape, h.output, h.size, fun k hk _ => h.block k hk⟩
theorem Fr.trans {B C : Nat → Prop} {a b c : World} (h : Fr B a b) (k : Fr C b c) (hC : ∀ i, i < a.heap.size → C i → B i) : Fr B a c :=
  ⟨k.os.trans h.os, k.tape.trans h.tape, k.output.trans h.output, Nat.le_trans h.size k.size, fun i hi hB => (k.block i (Nat.lt_of_lt_of_le hi h.size) (fun x => hB (hC i hi x))).trans (h.block i hi hB)⟩
theorem Fr.to_below {B : Nat → Prop} {w w' : World} {n : Nat} (h : Fr B w w') (hn : n ≤ w.heap.size) (hB : ∀ k, k < n → ¬ B k) : Below n w w' := ⟨h.os, h.tape, h.output, h.size, fun k hk => h.block k (by omega) (hB k hk)⟩
theorem Fr.mono {B C : Nat → Prop} {w w' : World} (h : Fr B w w') (hB : ∀ k, k < w.heap.size → B k → C k) : Fr C w w' := ⟨h.os, h.tape, h.output, h.size, fun k hk hc => h.block k hk (fun x => hc (hB k hk x))⟩
def Ext (B : Nat → Prop) (w w' : World) (k : Nat) : Prop := B k ∨ (w.heap.size ≤ k ∧ k < w'.heap.size)

def dcells (s : Dk) (v u : Value) : Array Value := (s.dur.map Value.string ++ [v, .bool s.down, .int .i64 s.lost, .int .i64 s.calls, u]).toArray
structure DAt (w : World) (db : Nat) (v u : Value) (s : Dk) : Prop where
  bx : Blk w db 50 (dcells s v u)
  own : OwnP w v s.pend
  kp : IRow w w.heap.size u s.keep
  n1 : v.ownBlock ≠ some db
  n2 : u.ownBlock ≠ some db
  n3 : ∀ k, u.ownBlock = some k → v.ownBlock ≠ some k
  n4 : ∀ k, u.ownBlock = some k → k < w.heap.size
  ok : s.ok
/-- The disk s lies at db, and all of its blocks are in B. -/
def DiskAt (B : Nat → Prop) (w : World) (db : Nat) (s : Dk) : Prop := B db ∧ ∃ v u, DAt w db v u s ∧ (∀ k, v.ownBlock = some k → B k) ∧ (∀ k, u.ownBlock = some k → B k)
theorem OwnP.heap {w w' : World} {v : Value} {l : List Pc} (h : OwnP w v l) (hb : ∀ k, v.ownBlock = some k → k < w.heap.size → w'.heap[k]? = w.heap[k]?) : OwnP w' v l := by
  refine ⟨h.1, ?_⟩
  rcases h.2 with h | ⟨g, cap, cur, rfl, h2, h3, r⟩
  · exact .inl h
  · exact .inr ⟨g, cap, cur, rfl, h2, (hb g rfl (Array.getElem?_eq_some_iff.1 h3).1).trans h3, r⟩
theorem DiskAt.mono {B C : Nat → Prop} {w : World} {db : Nat} {s : Dk} (h : DiskAt B w db s) (hB : ∀ k, k < w.heap.size → B k → C k) : DiskAt C w db s := by
  obtain ⟨h0, v, u, h, h1, h2⟩ := h
  exact ⟨hB _ h.bx.lt h0, v, u, h, fun k hk => hB k (h.own.lt k hk) (h1 k hk), fun k hk => hB k (h.n4 k hk) (h2 k hk)⟩
theorem DAt.heap {w w' : World} {db : Nat} {v u : Value} {s : Dk} (h : DAt w db v u s) (hs : w.heap.size ≤ w'.heap.size) (hb : ∀ k, k < w.heap.size → (k = db ∨ v.ownBlock = some k ∨ u.ownBlock = some k) → w'.heap[k]? = w.heap[k]?) : DAt w' db v u s :=
  ⟨(hb db h.bx.lt (.inl rfl)).trans h.bx, h.own.heap (fun k hk hl => hb k hl (.inr (.inl hk))), h.kp.heap hs (fun k hk hl => hb k hl (.inr (.inr hk))), h.n1, h.n2, h.n3, fun k hk => Nat.lt_of_lt_of_le (h.n4 k hk) hs, h.ok⟩
theorem DiskAt.fr {B C : Nat → Prop} {w w' : World} {db : Nat} {s : Dk} (h : DiskAt B w db s) (hf : Fr C w w') (hBC : ∀ k, k < w.heap.size → B k → ¬ C k) : DiskAt B w' db s := by
  obtain ⟨h0, v, u, h, h1, h2⟩ := h
  refine ⟨h0, v, u, h.heap hf.size (fun k hk hc => hf.block k hk (hBC k hk ?_)), h1, h2⟩
  rcases hc with rfl | hc | hc
  · exact h0
  · exact h1 k hc
  · exact h2 k hc
theorem DiskAt.below {B : Nat → Prop} {w w' : World} {db : Nat} {s : Dk} (h : DiskAt B w db s) (hb : Below w.heap.size w w') : DiskAt B w' db s :=
  h.fr (C := fun _ => False) ⟨hb.os, hb.tape, hb.output, hb.size, fun k hk _ => hb.block k hk⟩ (fun _ _ _ h => h)
theorem DiskAt.ok {B : Nat → Prop} {w : World} {db : Nat} {s : Dk} (h : DiskAt B w db s) : s.ok := by obtain ⟨_, v, u, h, _⟩ := h; exact h.ok
theorem DiskAt.lt {B : Nat → Prop} {w : World} {db : Nat} {s : Dk} (h : DiskAt B w db s) : db < w.heap.size := by obtain ⟨_, v, u, h, _⟩ := h; exact h.bx.lt

/-- A call on a disk has made s of it. -/
structure Op (B : Nat → Prop) (w w' : World) (db : Nat) (s : Dk) : Prop where
  at_ : DiskAt (Ext B w w') w' db s
  fr : Fr B w w'
theorem Op.refl {B : Nat → Prop} {w : World} {db : Nat} {s : Dk} (h : DiskAt B w db s) : Op B w w db s := ⟨h.mono fun k _ h => .inl h, Fr.refl _ _⟩
theorem Op.trans {B : Nat → Prop} {w w1 w2 : World} {db : Nat} {s s' : Dk} (h : Op B w w1 db s) (k : Op (Ext B w w1) w1 w2 db s') : Op B w w2 db s' := by
  refine ⟨k.at_.mono fun i _ hi => ?_, h.fr.trans k.fr fun i hi hx => ?_⟩
  · have h1 := h.fr.size
    have h2 := k.fr.size
    rcases hi with (hi | hi) | hi
    · exact .inl hi
    · exact .inr ⟨hi.1, by omega⟩
    · exact .inr ⟨by omega, hi.2⟩
  · rcases hx with hx | hx
    · exact hx
    · omega
theorem Op.below {B : Nat → Prop} {w w1 w2 : World} {db : Nat} {s : Dk} (h : Op B w w1 db s) (k : Below w1.heap.size w1 w2) : Op B w w2 db s := by
  refine ⟨(h.at_.below k).mono fun i _ hi => ?_, h.fr.trans (Fr.below (B := fun _ => False) k) fun i _ hx => hx.elim⟩
  rcases hi with hi | hi
  · exact .inl hi
  · exact .inr ⟨hi.1, Nat.lt_of_lt_of_le hi.2 k.size⟩
theorem Op.mono {B C : Nat → Prop} {w w' : World} {db : Nat} {s : Dk} (h : Op B w w' db s) (hB : ∀ k, k < w.heap.size → B k → C k) : Op C w w' db s :=
  ⟨h.at_.mono fun k hk hx => by
    rcases hx with hx | hx
    · by_cases hl : k < w.heap.size
      · exact .inl (hB k hl hx)
      · exact .inr ⟨by omega, hk⟩
    · exact .inr hx, h.fr.mono hB⟩
/-- After new blocks. -/
theorem Op.pre {B : Nat → Prop} {w w1 w2 : World} {db : Nat} {s : Dk} (k : Below w.heap.size w w1) (h : Op B w1 w2 db s) : Op B w w2 db s := by
  refine ⟨h.at_.mono fun i _ hi => ?_, (Fr.below k).trans h.fr fun i _ hx => hx⟩
  have := k.size
  rcases hi with hi | hi
  · exact .inl hi
  · exact .inr ⟨by omega, hi.2⟩

theorem eight {l : List ByteArray} (h : l.length = 8) : ∃ a0 a1 a2 a3 a4 a5 a6 a7, l = [a0, a1, a2, a3, a4, a5, a6, a7] := by
  match l, h with
  | [a0, a1, a2, a3, a4, a5, a6, a7], _ => exact ⟨a0, a1, a2, a3, a4, a5, a6, a7, rfl⟩
theorem DAt.c_dur {w : World} {db : Nat} {v u : Value} {s : Dk} (h : DAt w db v u s) (f : Nat) (hf : f < 8) : w.cell? ⟨db, f, none⟩ = some (.string (s.d f)) := by
  rw [h.bx.cell]
  have hl := h.ok.dl
  unfold dcells Dk.d
  rw [List.getElem?_toArray, List.getElem?_append_left (by rw [List.length_map]; omega), List.getElem?_map, List.getElem?_eq_getElem (by omega), List.getD_eq_getElem?_getD, List.getElem?_eq_getElem (by omega)]
  rfl
theorem DAt.c_tail {w : World} {db : Nat} {v u : Value} {s : Dk} (h : DAt w db v u s) : w.cell? ⟨db, 8, none⟩ = some v ∧ w.cell? ⟨db, 9, none⟩ = some (.bool s.down) ∧ w.cell? ⟨db, 10, none⟩ = some (.int .i64 s.lost) ∧ w.cell? ⟨db, 11, none⟩ = some (.int .i64 s.calls) ∧ w.cell? ⟨db, 12, none⟩ = some u := by
  obtain ⟨a0, a1, a2, a3, a4, a5, a6, a7, hd⟩ := eight h.ok.dl
  simp only [h.bx.cell, dcells, hd]
  exact ⟨rfl, rfl, rfl, rfl, rfl⟩
theorem DAt.free {w : World} {db : Nat} {v u : Value} {s : Dk} (h : DAt w db v u s) (i : Nat) : w.frozen? ⟨db, i, none⟩ = false := by
  have hb := h.bx
  unfold Blk at hb
  simp [World.frozen?, hb]
theorem blk_set {w : World} {g i : Nat} {t : TypeId} {cs : Array Value} (h : Blk w g t cs) (v : Value) : Blk (w.setCell ⟨g, i, none⟩ v) g t (cs.setIfInBounds i v) := heap_setCell_same w g i cs t v h
/-- A store into a field of the disk. -/
theorem DAt.store {w : World} {db i : Nat} {v u v' u' x : Value} {s s' : Dk} (h : DAt w db v u s) (hc : (dcells s v u).setIfInBounds i x = dcells s' v' u')
    (hv : OwnP w v' s'.pend) (hu : IRow w w.heap.size u' s'.keep) (n1 : v'.ownBlock ≠ some db) (n2 : u'.ownBlock ≠ some db) (n3 : ∀ k, u'.ownBlock = some k → v'.ownBlock ≠ some k) (n4 : ∀ k, u'.ownBlock = some k → k < w.heap.size) (hok : s'.ok) :
    DAt (w.setCell ⟨db, i, none⟩ x) db v' u' s' := by
  have hs : (w.setCell ⟨db, i, none⟩ x).heap.size = w.heap.size := by simp [World.setCell]
  have ho : ∀ k, k ≠ db → (w.setCell ⟨db, i, none⟩ x).heap[k]? = w.heap[k]? := fun k hk => Below.heap_setCell w ⟨db, i, none⟩ x k hk
  refine ⟨by rw [← hc]; exact blk_set h.bx x, hv.heap (fun k hk _ => ho k (fun e => n1 (by rw [hk, e]))), hu.heap (by rw [hs]; exact Nat.le_refl _) (fun k hk _ => ho k (fun e => n2 (by rw [hk, e]))), n1, n2, n3, fun k hk => by rw [hs]; exact n4 k hk, hok⟩
theorem fr_set {B : Nat → Prop} {w : World} {db i : Nat} {x : Value} (hB : B db) : Fr B w (w.setCell ⟨db, i, none⟩ x) :=
  ⟨rfl, rfl, rfl, by simp [World.setCell], fun k _ hk => Below.heap_setCell w ⟨db, i, none⟩ x k (fun e => hk (by rw [e]; exact hB))⟩
theorem DiskAt.set {B : Nat → Prop} {w : World} {db i : Nat} {x : Value} {s s' : Dk} (h : DiskAt B w db s) (hp : s'.pend = s.pend) (hk : s'.keep = s.keep) (hok : s'.ok) (hc : ∀ v u, (dcells s v u).setIfInBounds i x = dcells s' v u) : Op B w (w.setCell ⟨db, i, none⟩ x) db s' := by
  obtain ⟨h0, v, u, h, h1, h2⟩ := h
  exact ⟨⟨.inl h0, v, u, h.store (hc v u) (by rw [hp]; exact h.own) (by rw [hk]; exact h.kp) h.n1 h.n2 h.n3 h.n4 hok, fun k hk => .inl (h1 k hk), fun k hk => .inl (h2 k hk)⟩, fr_set h0⟩
theorem DiskAt.set_down {B : Nat → Prop} {w : World} {db : Nat} {s : Dk} (h : DiskAt B w db s) (b : Bool) : Op B w (w.setCell ⟨db, 9, none⟩ (.bool b)) db { s with down := b } :=
  h.set rfl rfl ⟨h.ok.dl, h.ok.ds, h.ok.ps, h.ok.pn, h.ok.kn, h.ok.lo, h.ok.ca⟩ fun v u => by
    obtain ⟨a0, a1, a2, a3, a4, a5, a6, a7, hd⟩ := eight h.ok.dl
    simp only [dcells, hd]; rfl
theorem DiskAt.set_lost {B : Nat → Prop} {w : World} {db : Nat} {s : Dk} (h : DiskAt B w db s) (n : Nat) (hn : n ≤ 9223372036854775807) : Op B w (w.setCell ⟨db, 10, none⟩ (.int .i64 n)) db { s with lost := n } :=
  h.set rfl rfl ⟨h.ok.dl, h.ok.ds, h.ok.ps, h.ok.pn, h.ok.kn, hn, h.ok.ca⟩ fun v u => by
    obtain ⟨a0, a1, a2, a3, a4, a5, a6, a7, hd⟩ := eight h.ok.dl
    simp only [dcells, hd]; rfl
theorem DiskAt.set_calls {B : Nat → Prop} {w : World} {db : Nat} {s : Dk} (h : DiskAt B w db s) (n : Nat) (hn : n ≤ 9223372036854775807) : Op B w (w.setCell ⟨db, 11, none⟩ (.int .i64 n)) db { s with calls := n } :=
  h.set rfl rfl ⟨h.ok.dl, h.ok.ds, h.ok.ps, h.ok.pn, h.ok.kn, h.ok.lo, hn⟩ fun v u => by
    obtain ⟨a0, a1, a2, a3, a4, a5, a6, a7, hd⟩ := eight h.ok.dl
    simp only [dcells, hd]; rfl
theorem DiskAt.set_dur {B : Nat → Prop} {w : World} {db : Nat} {s : Dk} (h : DiskAt B w db s) (f : Nat) (hf : f < 8) (b : ByteArray) (hb : b.size ≤ 16777216) : Op B w (w.setCell ⟨db, f, none⟩ (.string b)) db { s with dur := s.dur.set f b } :=
  h.set rfl rfl ⟨by simp [h.ok.dl], fun x hx => by
    rcases List.mem_or_eq_of_mem_set hx with hx | rfl
    · exact h.ok.ds _ hx
    · exact hb, h.ok.ps, h.ok.pn, h.ok.kn, h.ok.lo, h.ok.ca⟩ fun v u => by
    have hl := h.ok.dl
    simp only [dcells]
    rw [List.setIfInBounds_toArray, List.set_append_left _ _ (by rw [List.length_map]; omega), List.map_set]
/-- The cells of the disk. -/
theorem DiskAt.cells {B : Nat → Prop} {w : World} {db : Nat} {s : Dk} (h : DiskAt B w db s) : w.cell? ⟨db, 9, none⟩ = some (.bool s.down) ∧ w.cell? ⟨db, 10, none⟩ = some (.int .i64 s.lost) ∧ w.cell? ⟨db, 11, none⟩ = some (.int .i64 s.calls) ∧ (∀ f, f < 8 → w.cell? ⟨db, f, none⟩ = some (.string (s.d f))) ∧ (∀ i, w.frozen? ⟨db, i, none⟩ = false) := by
  obtain ⟨h0, v, u, h, h1, h2⟩ := h
  exact ⟨h.c_tail.2.1, h.c_tail.2.2.1, h.c_tail.2.2.2.1, h.c_dur, h.free⟩
end Go.Proofs.Ytlphblnnloigiaa
