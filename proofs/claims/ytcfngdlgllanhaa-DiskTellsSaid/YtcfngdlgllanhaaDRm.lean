/-
  The reference of layer 6: its disk in memory.
-/
import Derived.Test.YtcfngdlgllanhaaDPut
namespace Go.Proofs.Ytcfngdlgllanhaa
set_option linter.unusedVariables false
set_option linter.unusedSimpArgs false
open Go.RowKit

abbrev RP : TypeId := 74
theorem infoRP : (Try.prog.info? 74).map (fun i => (i.zero, i.size, i.bytes)) = some (some (.agg #[.int .i64 0, .int .i64 0, .string (bs [])]), 3, 32) := by kernel_rfl
theorem infoStr : (Try.prog.info? 9).map (fun i => (i.zero, i.size, i.bytes)) = some (some (.string (bs [])), 1, 16) := by kernel_rfl
theorem own_heap {w w' : World} {base sz n : Nat} {e : TypeId} {v : Value} {xs : List Value} (h : w.ownsRow base e sz v n xs) (hb : ∀ k, v.ownBlock = some k → k < w.heap.size → w'.heap[k]? = w.heap[k]?) : w'.ownsRow base e sz v n xs := by
  refine ⟨h.1, ?_⟩
  rcases h.2 with h | ⟨g, cap, cur, rfl, h2, h3, r⟩
  · exact .inl h
  · exact .inr ⟨g, cap, cur, rfl, h2, (hb g rfl (Array.getElem?_eq_some_iff.1 h3).1).trans h3, r⟩
theorem own_blk {w : World} {base sz n b : Nat} {e t : TypeId} {v : Value} {xs : List Value} {cs : Array Value} (h : w.ownsRow base e sz v n xs) (hb : Blk w b t cs) (hne : t ≠ e) : v.ownBlock ≠ some b := by
  intro hv
  rcases h.2 with ⟨rfl, _⟩ | ⟨g, cap, cur, rfl, _, hg, _⟩
  · simp [Value.ownBlock] at hv
  · simp [Value.ownBlock] at hv
    subst hv
    unfold Blk at hb
    rw [hb] at hg
    injection hg with hg
    injection hg with _ h2 _
    exact hne h2
theorem own_own {w : World} {base sz n base' sz' n' : Nat} {e e' : TypeId} {v v' : Value} {xs xs' : List Value} (h : w.ownsRow base e sz v n xs) (h' : w.ownsRow base' e' sz' v' n' xs') (hne : e ≠ e') (k : Nat) (hk : v.ownBlock = some k) : v'.ownBlock ≠ some k := by
  rcases h.2 with ⟨rfl, _⟩ | ⟨g, cap, cur, rfl, _, hg, _⟩
  · simp [Value.ownBlock] at hk
  · simp [Value.ownBlock] at hk
    subst hk
    exact own_blk (cs := cur) h' (show Blk w g e cur from hg) hne
def rcells (lv qv kv : Value) (s : Dk) : Array Value := #[lv, qv, .int .i64 s.lost, .bool s.down, .int .i64 s.calls, kv]
structure RAt (w : World) (db : Nat) (lv qv kv : Value) (s : Dk) : Prop where
  bx : Blk w db 56 (rcells lv qv kv s)
  lst : w.ownsRow 0 9 1 lv 8 (s.dur.map Value.string)
  q : w.ownsRow 0 74 3 qv s.pend.length (pc s.pend)
  kp : w.ownsRow 0 3 1 kv s.keep.length (iv s.keep)
  ok : s.ok
structure RIn (B : Nat → Prop) (db : Nat) (lv qv kv : Value) : Prop where
  b0 : B db
  b1 : ∀ k, lv.ownBlock = some k → B k
  b2 : ∀ k, qv.ownBlock = some k → B k
  b3 : ∀ k, kv.ownBlock = some k → B k
/-- The reference's disk s lies at db, and all of its blocks are in B. -/
def RefAt (B : Nat → Prop) (w : World) (db : Nat) (s : Dk) : Prop := ∃ lv qv kv, RAt w db lv qv kv s ∧ RIn B db lv qv kv
theorem RAt.heap {w w' : World} {db : Nat} {lv qv kv : Value} {s : Dk} (h : RAt w db lv qv kv s) (hb : ∀ k, k < w.heap.size → (k = db ∨ lv.ownBlock = some k ∨ qv.ownBlock = some k ∨ kv.ownBlock = some k) → w'.heap[k]? = w.heap[k]?) : RAt w' db lv qv kv s :=
  ⟨(hb db h.bx.lt (.inl rfl)).trans h.bx, own_heap h.lst fun k hk hl => hb k hl (.inr (.inl hk)), own_heap h.q fun k hk hl => hb k hl (.inr (.inr (.inl hk))), own_heap h.kp fun k hk hl => hb k hl (.inr (.inr (.inr hk))), h.ok⟩
theorem RefAt.mono {B C : Nat → Prop} {w : World} {db : Nat} {s : Dk} (h : RefAt B w db s) (hB : ∀ k, k < w.heap.size → B k → C k) : RefAt C w db s := by
  obtain ⟨lv, qv, kv, h, h1⟩ := h
  exact ⟨lv, qv, kv, h, hB _ h.bx.lt h1.b0, fun k hk => hB k (World.ownsRow.lt h.lst k hk).2 (h1.b1 k hk), fun k hk => hB k (World.ownsRow.lt h.q k hk).2 (h1.b2 k hk), fun k hk => hB k (World.ownsRow.lt h.kp k hk).2 (h1.b3 k hk)⟩
theorem RefAt.fr {B C : Nat → Prop} {w w' : World} {db : Nat} {s : Dk} (h : RefAt B w db s) (hf : Fr C w w') (hBC : ∀ k, k < w.heap.size → B k → ¬ C k) : RefAt B w' db s := by
  obtain ⟨lv, qv, kv, h, h1⟩ := h
  refine ⟨lv, qv, kv, h.heap (fun k hk hc => hf.block k hk (hBC k hk ?_)), h1⟩
  rcases hc with rfl | hc | hc | hc
  · exact h1.b0
  · exact h1.b1 k hc
  · exact h1.b2 k hc
  · exact h1.b3 k hc
theorem RefAt.below {B : Nat → Prop} {w w' : World} {db : Nat} {s : Dk} (h : RefAt B w db s) (hb : Below w.heap.size w w') : RefAt B w' db s :=
  h.fr (C := fun _ => False) ⟨hb.os, hb.tape, hb.output, hb.size, fun k hk _ => hb.block k hk⟩ (fun _ _ _ h => h)
theorem RefAt.ok {B : Nat → Prop} {w : World} {db : Nat} {s : Dk} (h : RefAt B w db s) : s.ok := by obtain ⟨_, _, _, h, _⟩ := h; exact h.ok
theorem RefAt.lt {B : Nat → Prop} {w : World} {db : Nat} {s : Dk} (h : RefAt B w db s) : db < w.heap.size := by obtain ⟨_, _, _, h, _⟩ := h; exact h.bx.lt
/-- A call on the reference's disk has made s of it. -/
structure ROp (B : Nat → Prop) (w w' : World) (db : Nat) (s : Dk) : Prop where
  at_ : RefAt (Ext B w w') w' db s
  fr : Fr B w w'
theorem ROp.refl {B : Nat → Prop} {w : World} {db : Nat} {s : Dk} (h : RefAt B w db s) : ROp B w w db s := ⟨h.mono fun k _ h => .inl h, Fr.refl _ _⟩
theorem ROp.trans {B : Nat → Prop} {w w1 w2 : World} {db : Nat} {s s' : Dk} (h : ROp B w w1 db s) (k : ROp (Ext B w w1) w1 w2 db s') : ROp B w w2 db s' := by
  refine ⟨k.at_.mono fun i _ hi => ?_, h.fr.trans k.fr fun i hi hx => ?_⟩
  · have h1 := h.fr.size
    have h2 := k.fr.size
    rcases hi with (hi | hi) | hi
    · exact .inl hi
    · exact .inr ⟨hi.1, by omega⟩
    · exact .inr ⟨by omega, hi.2⟩
  · rcases hx with hx | hx
    · exact hx
    · omega
theorem ROp.below {B : Nat → Prop} {w w1 w2 : World} {db : Nat} {s : Dk} (h : ROp B w w1 db s) (k : Below w1.heap.size w1 w2) : ROp B w w2 db s := by
  refine ⟨(h.at_.below k).mono fun i _ hi => ?_, h.fr.trans (Fr.below (B := fun _ => False) k) fun i _ hx => hx.elim⟩
  rcases hi with hi | hi
  · exact .inl hi
  · exact .inr ⟨hi.1, Nat.lt_of_lt_of_le hi.2 k.size⟩
theorem ROp.mono {B C : Nat → Prop} {w w' : World} {db : Nat} {s : Dk} (h : ROp B w w' db s) (hB : ∀ k, k < w.heap.size → B k → C k) : ROp C w w' db s :=
  ⟨h.at_.mono fun k hk hx => by
    rcases hx with hx | hx
    · by_cases hl : k < w.heap.size
      · exact .inl (hB k hl hx)
      · exact .inr ⟨by omega, hk⟩
    · exact .inr hx, h.fr.mono hB⟩
theorem ROp.pre {B : Nat → Prop} {w w1 w2 : World} {db : Nat} {s : Dk} (k : Below w.heap.size w w1) (h : ROp B w1 w2 db s) : ROp B w w2 db s := by
  refine ⟨h.at_.mono fun i _ hi => ?_, (Fr.below k).trans h.fr fun i _ hx => hx⟩
  have := k.size
  rcases hi with hi | hi
  · exact .inl hi
  · exact .inr ⟨by omega, hi.2⟩
theorem ROp.drew {B : Nat → Prop} {w w1 : World} {db : Nat} {s : Dk} (h : ROp B w w1 db s) : ROp B w w1.drew db s := h.below ⟨rfl, rfl, rfl, Nat.le_refl _, fun _ _ => rfl⟩
theorem RAt.cells {w : World} {db : Nat} {lv qv kv : Value} {s : Dk} (h : RAt w db lv qv kv s) : w.cell? ⟨db, 0, none⟩ = some lv ∧ w.cell? ⟨db, 1, none⟩ = some qv ∧ w.cell? ⟨db, 2, none⟩ = some (.int .i64 s.lost) ∧ w.cell? ⟨db, 3, none⟩ = some (.bool s.down) ∧ w.cell? ⟨db, 4, none⟩ = some (.int .i64 s.calls) ∧ w.cell? ⟨db, 5, none⟩ = some kv ∧ ∀ i, w.frozen? ⟨db, i, none⟩ = false := by
  have hb := h.bx
  refine ⟨hb.cell 0, hb.cell 1, hb.cell 2, hb.cell 3, hb.cell 4, hb.cell 5, fun i => ?_⟩
  unfold Blk at hb
  simp [World.frozen?, hb]
/-- The durable parts. -/
theorem RAt.last {w : World} {db : Nat} {lv qv kv : Value} {s : Dk} (h : RAt w db lv qv kv s) : ∃ g cap, lv = .slice (some ⟨g, 0, none⟩) 8 cap ∧ g < w.heap.size ∧ (∀ f, f < 8 → w.cell? ⟨g, f, none⟩ = some (.string (s.d f)) ∧ w.frozen? ⟨g, f, none⟩ = false) := by
  have hl := h.lst
  obtain ⟨g, cap, rfl⟩ := (show ∃ g cap, lv = .slice (some ⟨g, 0, none⟩) 8 cap by
    rcases hl.2 with ⟨_, h0⟩ | ⟨g, cap, cur, hv, _⟩
    · omega
    · exact ⟨g, cap, hv⟩)
  refine ⟨g, cap, rfl, (World.ownsRow.lt hl g rfl).2, fun f hf => ⟨?_, hl.frozenAt f⟩⟩
  rw [hl.cellAt f (by omega), List.getElem?_map, List.getElem?_eq_getElem (by rw [h.ok.dl]; exact hf)]
  unfold Dk.d
  rw [List.getD_eq_getElem?_getD, List.getElem?_eq_getElem (by rw [h.ok.dl]; exact hf)]
  rfl
/-- A row of pieces, read. -/
theorem own_pcs {w : World} {base : Nat} {v : Value} {l : List Pc} (h : w.ownsRow base 74 3 v l.length (pc l)) : ∃ A cap, v = .slice A l.length cap ∧ l.length ≤ cap ∧ cap ≤ maxLen ∧ (0 < l.length → ∃ g, A = some ⟨g, 0, none⟩ ∧ g < w.heap.size ∧ ∀ i, i < l.length → w.cell? ⟨g, i * 3, none⟩ = some (.int .i64 (gp l i).f) ∧ w.cell? ⟨g, i * 3 + 1, none⟩ = some (.int .i64 (gp l i).a) ∧ w.cell? ⟨g, i * 3 + 2, none⟩ = some (.string (gp l i).t)) := by
  rcases h.2 with ⟨rfl, h0⟩ | ⟨g, cap, cur, rfl, _, hg, h1, h2, h3, h4⟩
  · exact ⟨none, 0, by rw [h0], by omega, by decide, fun h => by omega⟩
  · refine ⟨_, cap, rfl, h1, h2, fun _ => ⟨g, rfl, (Array.getElem?_eq_some_iff.1 hg).1, fun i hi => ?_⟩⟩
    have hc : ∀ j u, (pc l)[j]? = some u → w.cell? ⟨g, j, none⟩ = some u := fun j u hu => by
      rw [← h4, List.getElem?_take] at hu
      split at hu
      · rw [cell_of_row _ _ _ _ _ _ hg, ← Array.getElem?_toList]; exact hu
      · cases hu
    have h5 := pc_at l i hi
    exact ⟨hc _ _ h5.1, hc _ _ h5.2.1, hc _ _ h5.2.2⟩
/-- A store into a field of the disk, behind what grew its rows. -/
theorem RAt.field {B : Nat → Prop} {w w' : World} {db i : Nat} {lv qv kv lv' qv' kv' x : Value} {s s' : Dk} (h : RAt w db lv qv kv s) (hb : RIn B db lv qv kv) (hg : w.grownBy w' qv.ownBlock)
    (hl : w'.ownsRow 0 9 1 lv' 8 (s'.dur.map Value.string)) (hq : w'.ownsRow 0 74 3 qv' s'.pend.length (pc s'.pend)) (hk : w'.ownsRow 0 3 1 kv' s'.keep.length (iv s'.keep))
    (nl : ∀ k, lv'.ownBlock = some k → lv.ownBlock = some k ∨ w.heap.size ≤ k) (nq : ∀ k, qv'.ownBlock = some k → qv.ownBlock = some k ∨ w.heap.size ≤ k) (nk : ∀ k, kv'.ownBlock = some k → kv.ownBlock = some k ∨ w.heap.size ≤ k)
    (hc : (rcells lv qv kv s).setIfInBounds i x = rcells lv' qv' kv' s') (ok : s'.ok) : ROp B w (w'.setCell ⟨db, i, none⟩ x) db s' := by
  have hs : (w'.setCell ⟨db, i, none⟩ x).heap.size = w'.heap.size := by simp [World.setCell]
  have ho : ∀ k, k ≠ db → (w'.setCell ⟨db, i, none⟩ x).heap[k]? = w'.heap[k]? := fun k hk => Below.heap_setCell w' ⟨db, i, none⟩ x k hk
  have hbx : Blk w' db 56 (rcells lv qv kv s) := (hg.block db h.bx.lt (fun e => own_blk h.q h.bx (by decide) e.symm)).trans h.bx
  refine ⟨⟨lv', qv', kv', ⟨?_, own_heap hl fun k hk _ => ho k (fun e => own_blk hl hbx (by decide) (by rw [hk, e])), own_heap hq fun k hk _ => ho k (fun e => own_blk hq hbx (by decide) (by rw [hk, e])), own_heap hk fun k hk' _ => ho k (fun e => own_blk hk hbx (by decide) (by rw [hk', e])), ok⟩, .inl hb.b0, ?_, ?_, ?_⟩, ?_⟩
  · have := blk_set hbx (i := i) x
    rw [hc] at this
    exact this
  · intro k hk'
    rcases nl k hk' with h1 | h1
    · exact .inl (hb.b1 k h1)
    · exact .inr ⟨h1, by rw [hs]; exact (World.ownsRow.lt hl k hk').2⟩
  · intro k hk'
    rcases nq k hk' with h1 | h1
    · exact .inl (hb.b2 k h1)
    · exact .inr ⟨h1, by rw [hs]; exact (World.ownsRow.lt hq k hk').2⟩
  · intro k hk'
    rcases nk k hk' with h1 | h1
    · exact .inl (hb.b3 k h1)
    · exact .inr ⟨h1, by rw [hs]; exact (World.ownsRow.lt hk k hk').2⟩
  · refine ⟨hg.os, hg.tape, hg.output, by rw [hs]; exact hg.size, fun k hk hB => (ho k (fun e => hB (by rw [e]; exact hb.b0))).trans (hg.block k hk (fun e => hB (hb.b2 k e.symm)))⟩
theorem IRow.heap2 {w w' : World} {v : Value} {l : List Int} (h : IRow w w.heap.size v l) (hs : w.heap.size ≤ w'.heap.size) (hb : l ≠ [] → ∀ k, v.ownBlock = some k → k < w.heap.size → w'.heap[k]? = w.heap[k]?) : IRow w' w'.heap.size v l := by
  by_cases hl : l = []
  · subst hl
    obtain ⟨A, cap, hv, h1, h2, h3, hA⟩ := h
    exact ⟨A, cap, hv, h1, h2, h3, fun h0 => by simp at h0⟩
  · exact h.heap hs (hb hl)
theorem grownR (w : World) (r : Option Nat) : w.grownBy w r := ⟨rfl, rfl, rfl, Nat.le_refl _, fun _ _ _ => rfl⟩
theorem RefAt.set {B : Nat → Prop} {w : World} {db i : Nat} {x : Value} {s s' : Dk} (h : RefAt B w db s) (hd : s'.dur = s.dur) (hp : s'.pend = s.pend) (hk : s'.keep = s.keep) (hok : s'.ok) (hc : ∀ lv qv kv, (rcells lv qv kv s).setIfInBounds i x = rcells lv qv kv s') : ROp B w (w.setCell ⟨db, i, none⟩ x) db s' := by
  obtain ⟨lv, qv, kv, h, hb⟩ := h
  exact h.field hb (grownR _ _) (by rw [hd]; exact h.lst) (by rw [hp]; exact h.q) (by rw [hk]; exact h.kp) (fun k hk => .inl hk) (fun k hk => .inl hk) (fun k hk => .inl hk) (hc _ _ _) hok
theorem RefAt.set_down {B : Nat → Prop} {w : World} {db : Nat} {s : Dk} (h : RefAt B w db s) (b : Bool) : ROp B w (w.setCell ⟨db, 3, none⟩ (.bool b)) db { s with down := b } :=
  h.set rfl rfl rfl ⟨h.ok.dl, h.ok.ds, h.ok.ps, h.ok.pn, h.ok.kn, h.ok.lo, h.ok.ca⟩ fun _ _ _ => rfl
theorem RefAt.set_lost {B : Nat → Prop} {w : World} {db : Nat} {s : Dk} (h : RefAt B w db s) (n : Nat) (hn : n ≤ 9223372036854775807) : ROp B w (w.setCell ⟨db, 2, none⟩ (.int .i64 n)) db { s with lost := n } :=
  h.set rfl rfl rfl ⟨h.ok.dl, h.ok.ds, h.ok.ps, h.ok.pn, h.ok.kn, hn, h.ok.ca⟩ fun _ _ _ => rfl
theorem RefAt.set_calls {B : Nat → Prop} {w : World} {db : Nat} {s : Dk} (h : RefAt B w db s) (n : Nat) (hn : n ≤ 9223372036854775807) : ROp B w (w.setCell ⟨db, 4, none⟩ (.int .i64 n)) db { s with calls := n } :=
  h.set rfl rfl rfl ⟨h.ok.dl, h.ok.ds, h.ok.ps, h.ok.pn, h.ok.kn, h.ok.lo, hn⟩ fun _ _ _ => rfl
/-- A store into the durable parts. -/
theorem RAt.set_dur {B : Nat → Prop} {w : World} {db g cap : Nat} {qv kv : Value} {s : Dk} (h : RAt w db (.slice (some ⟨g, 0, none⟩) 8 cap) qv kv s) (hb : RIn B db (.slice (some ⟨g, 0, none⟩) 8 cap) qv kv) (f : Nat) (b : ByteArray) (hs : b.size ≤ 16777216) :
    RAt (w.setCell ⟨g, f, none⟩ (.string b)) db (.slice (some ⟨g, 0, none⟩) 8 cap) qv kv { s with dur := s.dur.set f b } ∧ ROp B w (w.setCell ⟨g, f, none⟩ (.string b)) db { s with dur := s.dur.set f b } := by
  obtain ⟨h1, h2⟩ := World.ownsRow.stored h.lst f (.string b)
  have hbx := h.bx
  have hR : RAt (w.setCell ⟨g, f, none⟩ (.string b)) db (.slice (some ⟨g, 0, none⟩) 8 cap) qv kv { s with dur := s.dur.set f b } := by
    refine ⟨(h2.block db hbx.lt (fun e => own_blk h.lst hbx (by decide) e.symm)).trans hbx, ?_, own_heap h.q fun k hk hkl => h2.block k hkl (fun e => own_own h.q h.lst (by decide) k hk (by rw [e]; rfl)), own_heap h.kp fun k hk hkl => h2.block k hkl (fun e => own_own h.kp h.lst (by decide) k hk (by rw [e]; rfl)), ⟨by simp [h.ok.dl], fun x hx => ?_, h.ok.ps, h.ok.pn, h.ok.kn, h.ok.lo, h.ok.ca⟩⟩
    · rw [List.map_set]; exact h1
    · rcases List.mem_or_eq_of_mem_set hx with hx | rfl
      · exact h.ok.ds _ hx
      · exact hs
  refine ⟨hR, ⟨⟨_, _, _, hR, .inl hb.b0, fun k hk => .inl (hb.b1 k hk), fun k hk => .inl (hb.b2 k hk), fun k hk => .inl (hb.b3 k hk)⟩, ⟨h2.os, h2.tape, h2.output, h2.size, fun k hk hB => h2.block k hk (fun e => hB (hb.b1 k (by rw [e]; rfl)))⟩⟩⟩
end Go.Proofs.Ytcfngdlgllanhaa
