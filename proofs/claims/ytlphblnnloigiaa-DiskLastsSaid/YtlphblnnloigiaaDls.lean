/-
  Layer 6: the memory of the law DiskLasts: a disk, a row of strings, a row of operations.
-/
import Derived.Test.YtlphblnnloigiaaDstep
namespace Go.Proofs.Ytlphblnnloigiaa
set_option linter.unusedVariables false
set_option linter.unusedSimpArgs false
open Go.RowKit

/-- A block that nothing of this touches, with what it holds. -/
abbrev Prot := Nat × TypeId × Array Value
def LS (X : List Prot) (W w : World) (d gS : Nat) (s : Dk) (sf : List ByteArray) (v : Value) (since : List Ae) : Prop :=
  ∃ Bd : Nat → Prop, DiskAt Bd w d s ∧ (∀ k, Bd k → W.heap.size ≤ k ∧ k < w.heap.size) ∧ ¬ Bd gS ∧ W.heap.size ≤ gS ∧ Blk w gS 9 (sf.map Value.string).toArray ∧ OwnE w W.heap.size v since ∧ (∀ k, v.ownBlock = some k → ¬ Bd k ∧ k ≠ gS) ∧ Below W.heap.size W w ∧ ∀ y ∈ X, Blk w y.1 y.2.1 y.2.2 ∧ ¬ Bd y.1 ∧ v.ownBlock ≠ some y.1 ∧ y.1 ≠ gS
theorem LS.bel {X : List Prot} {W w : World} {d gS : Nat} {s : Dk} {sf : List ByteArray} {v : Value} {since : List Ae} (h : LS X W w d gS s sf v since) : Below W.heap.size W w := by obtain ⟨_, _, _, _, _, _, _, _, h, _⟩ := h; exact h
theorem LS.below {X : List Prot} {W w w2 : World} {d gS : Nat} {s : Dk} {sf : List ByteArray} {v : Value} {since : List Ae} (h : LS X W w d gS s sf v since) (b : Below w.heap.size w w2) : LS X W w2 d gS s sf v since := by
  obtain ⟨Bd, h1, h2, h3, h4, h5, h6, h7, h8, h9⟩ := h
  exact ⟨Bd, h1.below b, fun k hk => ⟨(h2 k hk).1, Nat.lt_of_lt_of_le (h2 k hk).2 b.size⟩, h3, h4, h5.below b h5.lt, h6.kept b, h7, h8.trans (b.mono h8.size), fun y hy => ⟨(h9 y hy).1.below b (h9 y hy).1.lt, (h9 y hy).2⟩⟩
theorem call_ls {X : List Prot} {F : FuncId} {args : Array Value} {W w1 : World} {d gS : Nat} {s s' : Dk} {sf : List ByteArray} {v : Value} {since : List Ae} {val : Value} (h : LS X W w1 d gS s sf v since) (hc : ∀ B, DiskAt B w1 d s → Calls Try.prog F args w1 fun e w2 => e = .returned val ∧ Op B w1 w2 d s') :
    Calls Try.prog F args w1 fun e w2 => e = .returned val ∧ LS X W w2 d gS s' sf v since := by
  obtain ⟨Bd, h1, h2, h3, h4, h5, h6, h7, h8, h9⟩ := h
  refine (hc Bd h1).mono ?_
  rintro e w2 ⟨he, hop⟩
  have hs := hop.fr.size
  refine ⟨he, _, hop.at_, ?_, ?_, h4, (hop.fr.block gS h5.lt h3).trans h5, h6.heap (fun k hk hkl => hop.fr.block k hkl (h7 k hk).1), ?_, h8.trans (hop.fr.to_below h8.size fun k hk hd => by have := (h2 k hd).1; omega), fun y hy => ⟨(hop.fr.block y.1 (h9 y hy).1.lt (h9 y hy).2.1).trans (h9 y hy).1, fun hx => ?_, (h9 y hy).2.2⟩⟩
  · intro k hk
    rcases hk with hk | hk
    · exact ⟨(h2 k hk).1, Nat.lt_of_lt_of_le (h2 k hk).2 hs⟩
    · exact ⟨Nat.le_trans h8.size hk.1, hk.2⟩
  · intro hk
    rcases hk with hk | hk
    · exact h3 hk
    · have := h5.lt; omega
  · intro k hk
    refine ⟨fun hx => ?_, (h7 k hk).2⟩
    rcases hx with hx | hx
    · exact (h7 k hk).1 hx
    · have := (h6.lt k hk).2; omega
  · rcases hx with hx | hx
    · exact (h9 y hy).2.1 hx
    · have := (h9 y hy).1.lt; omega
/-- A store into the row of strings. -/
theorem LS.set {X : List Prot} {W w : World} {d gS : Nat} {s : Dk} {sf : List ByteArray} {v : Value} {since : List Ae} (h : LS X W w d gS s sf v since) (i : Nat) (b : ByteArray) : LS X W (w.setCell ⟨gS, i, none⟩ (.string b)) d gS s (sf.set i b) v since := by
  obtain ⟨Bd, h1, h2, h3, h4, h5, h6, h7, h8, h9⟩ := h
  have hs : (w.setCell ⟨gS, i, none⟩ (.string b)).heap.size = w.heap.size := by simp [World.setCell]
  have ho : ∀ k, k ≠ gS → (w.setCell ⟨gS, i, none⟩ (.string b)).heap[k]? = w.heap[k]? := fun k hk => Below.heap_setCell w ⟨gS, i, none⟩ (.string b) k hk
  refine ⟨Bd, h1.fr (C := fun k => k = gS) ⟨rfl, rfl, rfl, by rw [hs]; exact Nat.le_refl _, fun k _ hk => ho k hk⟩ (fun k _ hk e => h3 (by rw [← e]; exact hk)), fun k hk => by rw [hs]; exact h2 k hk, h3, h4, ?_, h6.heap (fun k hk _ => ho k (h7 k hk).2), h7, h8.setCell (show W.heap.size ≤ gS from h4) _, fun y hy => ⟨(ho y.1 (h9 y hy).2.2.2).trans (h9 y hy).1, (h9 y hy).2⟩⟩
  have := blk_set h5 (i := i) (.string b)
  rw [List.setIfInBounds_toArray, ← List.map_set] at this
  exact this
theorem LS.cell {X : List Prot} {W w : World} {d gS : Nat} {s : Dk} {sf : List ByteArray} {v : Value} {since : List Ae} (h : LS X W w d gS s sf v since) (i : Nat) (hi : i < sf.length) : w.cell? ⟨gS, i, none⟩ = some (.string (sf.getD i (bs []))) ∧ w.frozen? ⟨gS, i, none⟩ = false := by
  obtain ⟨Bd, h1, h2, h3, h4, h5, h6, h7, h8, h9⟩ := h
  constructor
  · rw [h5.cell, List.getElem?_toArray, List.getElem?_map, List.getD_eq_getElem?_getD, List.getElem?_eq_getElem hi]; rfl
  · have := h5; unfold Blk at this; simp [World.frozen?, this]
theorem LS.own {X : List Prot} {W w : World} {d gS : Nat} {s : Dk} {sf : List ByteArray} {v : Value} {since : List Ae} (h : LS X W w d gS s sf v since) : OwnE w W.heap.size v since := by obtain ⟨_, _, _, _, _, _, h, _⟩ := h; exact h
/-- Another row of operations. -/
theorem LS.since {X : List Prot} {W w w2 : World} {d gS : Nat} {s : Dk} {sf : List ByteArray} {v v' : Value} {since since' : List Ae} (h : LS X W w d gS s sf v since) (hg : w.grownBy w2 v.ownBlock) (ho : OwnE w2 W.heap.size v' since') (hb : ∀ k, v'.ownBlock = some k → v.ownBlock = some k ∨ w.heap.size ≤ k) : LS X W w2 d gS s sf v' since' := by
  obtain ⟨Bd, h1, h2, h3, h4, h5, h6, h7, h8, h9⟩ := h
  have hne : ∀ k, Bd k → some k ≠ v.ownBlock := fun k hk e => (h7 k e.symm).1 hk
  refine ⟨Bd, h1.fr (C := fun k => v.ownBlock = some k) ⟨hg.os, hg.tape, hg.output, hg.size, fun k hk hx => hg.block k hk (fun e => hx e.symm)⟩ (fun k _ hk e => hne k hk e.symm), fun k hk => ⟨(h2 k hk).1, Nat.lt_of_lt_of_le (h2 k hk).2 hg.size⟩, h3, h4, (hg.block gS h5.lt (fun e => (h7 gS e.symm).2 rfl)).trans h5, ho, fun k hk => ?_, h8.trans ⟨hg.os, hg.tape, hg.output, hg.size, fun k hk => hg.block k (by have := h8.size; omega) (fun e => by have := (h6.lt k e.symm).1; omega)⟩, fun y hy => ⟨(hg.block y.1 (h9 y hy).1.lt (fun e => (h9 y hy).2.2.1 e.symm)).trans (h9 y hy).1, (h9 y hy).2.1, fun e => ?_, (h9 y hy).2.2.2⟩⟩
  · rcases hb k hk with h9 | h9
    · exact h7 k h9
    · refine ⟨fun hx => ?_, fun e => ?_⟩
      · have := (h2 k hx).2; omega
      · have := h5.lt; omega
  · rcases hb _ e with h10 | h10
    · exact (h9 y hy).2.2.1 h10
    · have := (h9 y hy).1.lt; omega
/-- A new block is protected. -/
theorem LS.add {X : List Prot} {W w : World} {d gS : Nat} {s : Dk} {sf : List ByteArray} {v : Value} {since : List Ae} (h : LS X W w d gS s sf v since) (T : TypeId) (cs : Array Value) : LS ((w.heap.size, T, cs) :: X) W (w.alloc (.cells cs T)) d gS s sf v since := by
  obtain ⟨Bd, h1, h2, h3, h4, h5, h6, h7, h8, h9⟩ := h.below (below_new w (.cells cs T))
  obtain ⟨Bd', g1, g2, g3, g4, g5, g6, g7, g8, g9⟩ := h
  have hb := below_new w (.cells cs T)
  refine ⟨Bd', g1.below hb, fun k hk => ⟨(g2 k hk).1, Nat.lt_of_lt_of_le (g2 k hk).2 hb.size⟩, g3, g4, h5, h6, g7, h8, fun y hy => ?_⟩
  rcases List.mem_cons.1 hy with rfl | hy
  · refine ⟨Blk.new w T cs, fun hx => ?_, fun e => ?_, fun e => ?_⟩
    · exact Nat.lt_irrefl _ (g2 _ hx).2
    · exact Nat.lt_irrefl _ (g6.lt _ e).2
    · have := g5.lt; simp only at e; omega
  · exact ⟨(g9 y hy).1.below hb (g9 y hy).1.lt, (g9 y hy).2⟩
theorem LS.drop {X Y : List Prot} {W w : World} {d gS : Nat} {s : Dk} {sf : List ByteArray} {v : Value} {since : List Ae} (h : LS X W w d gS s sf v since) (hY : ∀ y ∈ Y, y ∈ X) : LS Y W w d gS s sf v since := by
  obtain ⟨Bd, h1, h2, h3, h4, h5, h6, h7, h8, h9⟩ := h
  exact ⟨Bd, h1, h2, h3, h4, h5, h6, h7, h8, fun y hy => h9 y (hY y hy)⟩
theorem LS.box {X : List Prot} {b : Nat} {T : TypeId} {cs : Array Value} {W w : World} {d gS : Nat} {s : Dk} {sf : List ByteArray} {v : Value} {since : List Ae} (h : LS ((b, T, cs) :: X) W w d gS s sf v since) : Blk w b T cs := by
  obtain ⟨Bd, h1, h2, h3, h4, h5, h6, h7, h8, h9⟩ := h
  exact (h9 _ (List.mem_cons_self ..)).1
theorem LS.since_new {X : List Prot} {W w w2 : World} {d gS : Nat} {s : Dk} {sf : List ByteArray} {v v' : Value} {since since' : List Ae} (h : LS X W w d gS s sf v since) (b : Below w.heap.size w w2) (ho : OwnE w2 w.heap.size v' since') : LS X W w2 d gS s sf v' since' :=
  h.since (grown_below b _) (ho.base_le h.bel.size) (fun k hk => .inr (ho.lt k hk).1)
theorem LS.drew {X : List Prot} {W w : World} {d gS : Nat} {s : Dk} {sf : List ByteArray} {v : Value} {since : List Ae} (h : LS X W w d gS s sf v since) (n : Nat) : LS X W (w.drewN n) d gS s sf v since := h.below (below_drewN w n)

def LPost (X : List Prot) (W : World) (d gS : Nat) (sf : List ByteArray) (v : Value) (since : List Ae) (val : Value) (s : Dk) (e : Ending) (w2 : World) : Prop := e = .returned val ∧ LS X W w2 d gS s sf v since
section
variable {X : List Prot} {W w1 : World} {d gS : Nat} {s : Dk} {sf : List ByteArray} {v : Value} {since : List Ae}
theorem lDo (h : LS X W w1 d gS s sf v since) (a : Ac) (u : Value) (hr : IRow w1 w1.heap.size u a.keep) (hw : a.wf) (ht : a.w ≤ 5000) (hn : s.pend.length ≤ 5000) :
    Calls Try.prog 9 #[.pointer (some ⟨d, 0, none⟩), av a u] w1 (LPost X W d gS sf v since (.tuple #[.string (s.act a).1, .int .i64 (s.act a).2.1]) (s.act a).2.2) := by
  unfold Ac.w at ht
  exact call_ls h fun B hB => doP hB a u hr (by omega) (by omega) hw.o.1 hw.o.2 hw.n.2
theorem lStart (h : LS X W w1 d gS s sf v since) : Calls Try.prog 12 #[.pointer (some ⟨d, 0, none⟩)] w1 (LPost X W d gS sf v since (.tuple #[]) s.start) := call_ls h fun B hB => startP hB
theorem lCrash (h : LS X W w1 d gS s sf v since) (u : Value) (keep : List Int) (hr : IRow w1 w1.heap.size u keep) : Calls Try.prog 14 #[.pointer (some ⟨d, 0, none⟩), u] w1 (LPost X W d gS sf v since (.tuple #[]) (s.crash keep)) := call_ls h fun B hB => crashP hB u keep hr (by obtain ⟨_, cap, _, h1, h2, _⟩ := hr; exact Nat.le_trans h1 h2)
theorem lArm (h : LS X W w1 d gS s sf v since) : Calls Try.prog 15 #[.pointer (some ⟨d, 0, none⟩), .int .i64 0, .slice none 0 0] w1 (LPost X W d gS sf v since (.tuple #[]) (s.arm 0 [])) := call_ls h fun B hB => armP hB 0 (by omega) _ [] (irow_nil _ _) (by simp)
theorem lRead (h : LS X W w1 d gS s sf v since) (f : Int) : Calls Try.prog 10 #[.pointer (some ⟨d, 0, none⟩), .int .i64 f] w1 (LPost X W d gS sf v since (.tuple #[.string (s.read f).1, .int .i64 (s.read f).2]) s) := call_ls h fun B hB => (readP hB f).mono fun e w2 ⟨h1, h2⟩ => ⟨h1, (Op.refl hB).below h2⟩
theorem lSize (h : LS X W w1 d gS s sf v since) (f : Int) : Calls Try.prog 16 #[.pointer (some ⟨d, 0, none⟩), .int .i64 f] w1 (LPost X W d gS sf v since (.int .i64 (s.size f)) s) := call_ls h fun B hB => (sizeP hB f).mono fun e w2 ⟨h1, h2⟩ => ⟨h1, (Op.refl hB).below h2⟩
theorem lDown (h : LS X W w1 d gS s sf v since) : Calls Try.prog 7 #[.pointer (some ⟨d, 0, none⟩)] w1 fun e w2 => e = .returned (.bool s.down) ∧ w1 = w2 := by
  obtain ⟨Bd, h1, _⟩ := h
  exact downP h1
theorem lWithout (h : LS X W w1 d gS s sf v since) (f : Int) (hl : since.length ≤ 1000) : Calls Try.prog 11 #[v, .int .i64 f] w1 fun e w2 => ∃ u, e = .returned u ∧ LS X W w2 d gS s sf u (wo since f) ∧ Below w1.heap.size w1 w2 :=
  (withoutP v since f w1 _ h.own hl).mono fun e w2 ⟨u, h1, h2, h3⟩ => ⟨u, h1, h.since_new h3 h2, h3⟩
theorem lHere (h : LS X W w1 d gS s sf v since) (x safe : ByteArray) (f : Int) (hl : since.length ≤ 1000) (hx : x.size ≤ 16777216) (hs : safe.size ≤ 16777216) (hok : HereOk x safe since f) (hn : ∀ y ∈ since, 0 ≤ y.a.n ∧ y.a.n ≤ 4000) :
    Calls Try.prog 13 #[.string x, .string safe, v, .int .i64 f] w1 fun e w2 => e = .returned (.bool true) ∧ LS X W w2 d gS s sf v since :=
  (hereP v since f x safe w1 _ h.own hl hx hs hok hn).mono fun e w2 ⟨h1, q, h2⟩ => ⟨h1, by rw [h2]; exact h.drew q⟩
end
/-- Eight empty strings. -/
theorem mkStr8 : ∀ w : World, (Instr.makeSlice 28 (.int .i64 8) (.int .i64 8)).run Try.prog w = .ok (.slice (some ⟨w.heap.size, 0, none⟩) 8 8) (w.alloc (.cells #[.string { data := #[] }, .string { data := #[] }, .string { data := #[] }, .string { data := #[] }, .string { data := #[] }, .string { data := #[] }, .string { data := #[] }, .string { data := #[] }] 9)) := fun w => by kernel_rfl
theorem LS.begin_ {W w : World} {d : Nat} (h : Dsk W w d dk0) : LS [] W (w.alloc (.cells #[.string { data := #[] }, .string { data := #[] }, .string { data := #[] }, .string { data := #[] }, .string { data := #[] }, .string { data := #[] }, .string { data := #[] }, .string { data := #[] }] 9)) d w.heap.size dk0 dk0.dur (.slice none 0 0) [] := by
  have hb := below_new w (.cells #[.string { data := #[] }, .string { data := #[] }, .string { data := #[] }, .string { data := #[] }, .string { data := #[] }, .string { data := #[] }, .string { data := #[] }, .string { data := #[] }] 9)
  refine ⟨fun k => W.heap.size ≤ k ∧ k < w.heap.size, h.1.tight.below hb, fun k hk => ⟨hk.1, Nat.lt_of_lt_of_le hk.2 hb.size⟩, fun hk => by omega, h.2.size, Blk.new w 9 _, OwnE.nil _ _, (fun k hk => by simp [Value.ownBlock] at hk), h.2.trans (hb.mono h.2.size), fun y hy => (by cases hy)⟩
theorem LS.prot {X : List Prot} {W w0 w : World} {d gS : Nat} {s : Dk} {sf : List ByteArray} {v : Value} {since : List Ae} (h : LS X W w0 d gS s sf v since) (b : Below w0.heap.size w0 w) {g : Nat} {T : TypeId} {cs : Array Value} (hg : w0.heap.size ≤ g) (hb : Blk w g T cs) : LS ((g, T, cs) :: X) W w d gS s sf v since := by
  obtain ⟨Bd, g1, g2, g3, g4, g5, g6, g7, g8, g9⟩ := h
  refine ⟨Bd, g1.below b, fun k hk => ⟨(g2 k hk).1, Nat.lt_of_lt_of_le (g2 k hk).2 b.size⟩, g3, g4, g5.below b g5.lt, g6.kept b, g7, g8.trans (b.mono g8.size), fun y hy => ?_⟩
  rcases List.mem_cons.1 hy with rfl | hy
  · refine ⟨hb, fun hx => ?_, fun e => ?_, fun e => ?_⟩
    · have := (g2 _ hx).2; simp only at this; omega
    · have := (g6.lt _ e).2; simp only at this; omega
    · have := g5.lt; simp only at e; omega
  · exact ⟨(g9 y hy).1.below b (g9 y hy).1.lt, (g9 y hy).2⟩
theorem LS.drew1 {X : List Prot} {W w : World} {d gS : Nat} {s : Dk} {sf : List ByteArray} {v : Value} {since : List Ae} (h : LS X W w d gS s sf v since) : LS X W w.drew d gS s sf v since := h.below ⟨rfl, rfl, rfl, Nat.le_refl _, fun _ _ => rfl⟩
theorem LS.ok {X : List Prot} {W w : World} {d gS : Nat} {s : Dk} {sf : List ByteArray} {v : Value} {since : List Ae} (h : LS X W w d gS s sf v since) : s.ok := by obtain ⟨Bd, g1, _⟩ := h; exact g1.ok
theorem lSizeB {X : List Prot} {W w1 : World} {d gS : Nat} {s : Dk} {sf : List ByteArray} {v : Value} {since : List Ae} (h : LS X W w1 d gS s sf v since) (f : Int) : Calls Try.prog 16 #[.pointer (some ⟨d, 0, none⟩), .int .i64 f] w1 fun e w2 => e = .returned (.int .i64 (s.size f)) ∧ Below w1.heap.size w1 w2 := by
  obtain ⟨Bd, h1, _⟩ := h
  exact sizeP h1 f
theorem fileL_le2 (d : List UInt8) (l : List Pc) (f n : Nat) (hd : d.length ≤ n) (h : ∀ p ∈ l, p.f = f → p.a + p.t.size ≤ n) : (fileL d l f).length ≤ n := by
  induction l generalizing d with
  | nil => exact hd
  | cons p l ih =>
    rw [fileL_cons]
    refine ih _ ?_ (fun q hq => h q (by simp [hq]))
    by_cases hf : p.f = f
    · have := h p (by simp) hf
      rw [if_pos hf, pput_length, Pc.l_length]; omega
    · rw [if_neg hf]; exact hd
/-- No file is longer after a crash. -/
theorem crash_le (s : Dk) (keep : List Int) (f : Nat) : (fileL (s.d f).data.toList (kept keep s.pend) f).length ≤ (s.bytes f).size := by
  unfold Dk.bytes
  rw [bs_size]
  refine fileL_le2 _ _ _ _ (fileL_mono _ _ _) fun p hp hf => ?_
  obtain ⟨q, hq, h1, h2, h3, h4⟩ := keptN_mem keep s.pend _ (Nat.le_refl _) p hp
  have := fileL_reach (s.d f).data.toList s.pend f q hq (by omega)
  omega
end Go.Proofs.Ytlphblnnloigiaa
