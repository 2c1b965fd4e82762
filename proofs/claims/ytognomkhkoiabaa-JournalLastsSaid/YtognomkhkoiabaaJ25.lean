/-
  Layer 7: a log with a calm disk; the law's memory for JournalLists.
-/
import Derived.Test.YtognomkhkoiabaaJ24
namespace Go.Proofs.Ytognomkhkoiabaa
set_option linter.unusedVariables false
set_option linter.unusedSimpArgs false
open Go.RowKit

theorem and7 (o : Int) : bits .and .i64 o 7 = o % 8 := by
  show IntKind.i64.wrap ((BitVec.ofInt 64 o &&& BitVec.ofInt 64 7).toNat : Int) = _
  rw [BitVec.toNat_and]
  have h7 : (BitVec.ofInt 64 7).toNat = 2 ^ 3 - 1 := by decide
  rw [h7, Nat.and_two_pow_sub_one_eq_mod, BitVec.toNat_ofInt, IntKind.wrap_i64]
  omega
/-- A disk without crashes and lost flushes. -/
structure Still (s : Dk) : Prop where
  calm : Calm s
  lost : s.lost = 0
theorem Still.settle {s : Dk} (h : Still s) (f : Nat) (b : ByteArray) : Still (s.settle f b) := ⟨⟨h.calm.dn, h.calm.ca⟩, h.lost⟩
theorem Still.put {s : Dk} (h : Still s) (p : List Pc) : Still { s with pend := p } := ⟨⟨h.calm.dn, h.calm.ca⟩, h.lost⟩
theorem pending_settle (s : Dk) (f : Nat) (b : ByteArray) : (s.settle f b).pending f = false := by
  unfold Dk.pending Dk.settle
  rw [List.any_eq_false]
  intro p hp
  have := (List.mem_filter.1 hp).2
  simpa using this
theorem runT_step {t : Dk → Int × Dk} {T : List (Dk → Int × Dk)} {s S : Dk} (h : t s = (0, S)) : runT (t :: T) s = runT T S := runT_ok h rfl
theorem Lg.append_still {g : Lg} {s : Dk} (h : Still s) (f : Nat) (hf : f < 7) (hg : g.file = f) (row : ByteArray) (hx : ext (g.rows ++ [row]) ≤ 16000000) :
    ∃ s', g.append s row = (0, ⟨g.file, g.rows ++ [row], g.sure⟩, s') ∧ Still s' ∧ s'.pend.length ≤ s.pend.length + (8 + row.size) ∧ s' = { s with pend := s.pend ++ pcs f (frm row).size (ext g.rows) (frm row) } := by
  have hx' := ext_app g.rows row
  have hw := Calm.write h.calm (f := f) (a := ext g.rows) (frm row) (by omega) (by rw [frm_size]; omega)
  refine ⟨_, ?_, h.put _, ?_, rfl⟩
  · unfold Lg.append
    rw [hg, hw]
    rfl
  · show (s.pend ++ pcs f (frm row).size (ext g.rows) (frm row)).length ≤ _
    have := pcs_length f (frm row).size (ext g.rows) (frm row)
    rw [frm_size] at this
    rw [List.length_append, frm_size]; omega
theorem Lg.flush_still {g : Lg} {s : Dk} (h : Still s) (f : Nat) (hf : f < 7) (hg : g.file = f) :
    ∃ s', g.flush s = (0, ⟨g.file, g.rows, g.rows.length⟩, s') ∧ Still s' ∧ s'.pend.length ≤ s.pend.length + 16 := by
  unfold Lg.flush
  by_cases hs : g.sure = g.rows.length
  · rw [if_pos hs, if_neg (by rw [h.calm.dn]; simp)]
    exact ⟨s, by rw [← hs], h, by omega⟩
  · rw [if_neg hs, hg]
    have a1 := Calm.flush h.calm (f := f) (by omega) h.lost
    have h1 := h.settle f (s.bytes f)
    have a2 := Calm.write h1.calm (f := f) (a := 0) (hdr (ext g.rows) g.rows.length) (by omega) (by rw [hdr_size]; omega)
    have h2 := h1.put ((s.settle f (s.bytes f)).pend ++ pcs f (hdr (ext g.rows) g.rows.length).size 0 (hdr (ext g.rows) g.rows.length))
    have a3 := Calm.flush h2.calm (f := f) (by omega) h2.lost
    have e : runT [fun s => s.flush (f : Int), fun s => s.write (f : Int) 0 (hdr (ext g.rows) g.rows.length), fun s => s.flush (f : Int)] s = (0, _) := (runT_step a1).trans ((runT_step a2).trans (runT_step a3))
    simp only [e]
    refine ⟨_, rfl, h2.settle _ _, ?_⟩
    refine Nat.le_trans (Dk.settle_pend _ _ _) ?_
    show (_ ++ _ : List Pc).length ≤ _
    have l1 := Dk.settle_pend s f (s.bytes f)
    have l2 := pcs_length f (hdr (ext g.rows) g.rows.length).size 0 (hdr (ext g.rows) g.rows.length)
    rw [hdr_size] at l2
    rw [List.length_append, hdr_size]; omega
theorem Calm.cut0 {s : Dk} (h : Calm s) {f : Nat} (hf : f < 8) : s.cut f 0 = (0, s.settle f ((s.bytes f).extract 0 0)) := by
  unfold Dk.cut Dk.cut0
  rw [h.enter, h.chk hf, if_neg (by simp), if_neg (by simp)]
  simp
theorem Lg.rewrite_still {g : Lg} {s : Dk} (h : Still s) (f : Nat) (hf : f < 7) (hg : g.file = f) (l : List ByteArray) (hx : ext l ≤ 16000000) :
    ∃ s', g.rewrite s l = (0, ⟨g.file, l, l.length⟩, s') ∧ Still s' ∧ s'.pend.length ≤ s.pend.length + ext l := by
  unfold Lg.rewrite
  rw [hg]
  have a1 := Calm.cut0 h.calm (f := f + 1) (by omega)
  have h1 := h.settle (f + 1) ((s.bytes (f + 1)).extract 0 0)
  have a2 := Calm.write h1.calm (f := f + 1) (a := 0) (whl l) (by omega) (by rw [whl_size]; omega)
  have h2 := h1.put ((s.settle (f + 1) ((s.bytes (f + 1)).extract 0 0)).pend ++ pcs (f + 1) (whl l).size 0 (whl l))
  have a3 := Calm.flush h2.calm (f := f + 1) (by omega) h2.lost
  obtain ⟨S2, hS2⟩ : ∃ S2, ({ s.settle (f + 1) ((s.bytes (f + 1)).extract 0 0) with pend := (s.settle (f + 1) ((s.bytes (f + 1)).extract 0 0)).pend ++ pcs (f + 1) (whl l).size 0 (whl l) } : Dk) = S2 := ⟨_, rfl⟩
  have hp2 : S2.pend.length ≤ s.pend.length + ext l := by
    rw [← hS2]
    show (_ ++ _ : List Pc).length ≤ _
    have l1 := Dk.settle_pend s (f + 1) ((s.bytes (f + 1)).extract 0 0)
    have l2 := pcs_length (f + 1) (whl l).size 0 (whl l)
    rw [whl_size] at l2
    rw [List.length_append, whl_size]; omega
  rw [hS2] at a2 a3 h2
  have h3 := h2.settle (f + 1) (S2.bytes (f + 1))
  have a4 := Calm.turn h3.calm (f := f) (g := f + 1) (by omega) (by omega) (by omega)
  rw [if_neg (by rw [pending_settle]; simp)] at a4
  have c1 : ((f : Int) + 1) = ((f + 1 : Nat) : Int) := by omega
  rw [c1]
  have e : runT [fun s => s.cut ((f + 1 : Nat) : Int) 0, fun s => s.write ((f + 1 : Nat) : Int) 0 (whl l), fun s => s.flush ((f + 1 : Nat) : Int), fun s => s.turn (f : Int) ((f + 1 : Nat) : Int)] s = (0, _) := (runT_step a1).trans ((runT_step a2).trans ((runT_step a3).trans (runT_step a4)))
  simp only [e]
  refine ⟨_, rfl, (h3.settle _ _).settle _ _, ?_⟩
  exact Nat.le_trans (Dk.settle_pend _ _ _) (Nat.le_trans (Dk.settle_pend _ _ _) (Nat.le_trans (Dk.settle_pend _ _ _) hp2))
/-- A log with its disk, and a slice of rows beside it. -/
def LR7 (W w : World) (lb db : Nat) (vl : Value) (g : Lg) (s : Dk) (v : Value) (rows : List ByteArray) : Prop := ∃ B : Nat → Prop, LD B w lb db vl g s ∧ (∀ k, B k → W.heap.size ≤ k ∧ k < w.heap.size) ∧ w.ownsRow W.heap.size 9 1 v rows.length (sv rows) ∧ (∀ k, v.ownBlock = some k → ¬ B k) ∧ Below W.heap.size W w
theorem LR7.bel {W w : World} {lb db : Nat} {vl v : Value} {g : Lg} {s : Dk} {rows : List ByteArray} (h : LR7 W w lb db vl g s v rows) : Below W.heap.size W w := by obtain ⟨_, _, _, _, _, h⟩ := h; exact h
theorem LR7.start {W w : World} {lb db : Nat} {vl : Value} {g : Lg} {s : Dk} (h : LJ W w lb db vl g s) : LR7 W w lb db vl g s (.slice none 0 0) [] :=
  ⟨_, h.1.tight, fun k hk => hk, World.ownsRow_nil _ _ _ _, fun k hk => by simp [Value.ownBlock] at hk, h.2⟩
theorem LR7.lj {W w : World} {lb db : Nat} {vl v : Value} {g : Lg} {s : Dk} {rows : List ByteArray} (h : LR7 W w lb db vl g s v rows) : LJ W w lb db vl g s := by
  obtain ⟨B, h1, h2, _, _, h5⟩ := h
  exact ⟨h1.mono fun k _ hk => (h2 k hk).1, h5⟩
theorem LR7.own {W w : World} {lb db : Nat} {vl v : Value} {g : Lg} {s : Dk} {rows : List ByteArray} (h : LR7 W w lb db vl g s v rows) : w.ownsRow W.heap.size 9 1 v rows.length (sv rows) := by obtain ⟨_, _, _, h, _⟩ := h; exact h
theorem LR7.below {W w w2 : World} {lb db : Nat} {vl v : Value} {g : Lg} {s : Dk} {rows : List ByteArray} (h : LR7 W w lb db vl g s v rows) (b : Below w.heap.size w w2) : LR7 W w2 lb db vl g s v rows := by
  obtain ⟨B, h1, h2, h3, h4, h5⟩ := h
  exact ⟨B, h1.below b, fun k hk => ⟨(h2 k hk).1, Nat.lt_of_lt_of_le (h2 k hk).2 b.size⟩, own_belowJ h3 b, h4, h5.trans (b.mono h5.size)⟩
theorem call_lr {F : FuncId} {args : Array Value} {W w1 : World} {lb db : Nat} {vl v : Value} {g : Lg} {s : Dk} {rows : List ByteArray} {r : Int × Lg × Dk} (h : LR7 W w1 lb db vl g s v rows) (hc : ∀ B, LD B w1 lb db vl g s → (∀ k, B k → W.heap.size ≤ k ∧ k < w1.heap.size) → Calls Try.prog F args w1 (LPost B w1 lb db r)) :
    Calls Try.prog F args w1 fun e w2 => e = .returned (.int .i64 r.1) ∧ ∃ vl', LR7 W w2 lb db vl' r.2.1 r.2.2 v rows := by
  obtain ⟨B, h1, h2, h3, h4, h5⟩ := h
  refine (hc B h1 h2).mono ?_
  rintro e w2 ⟨he, vl', ho⟩
  have hs := ho.fr.size
  refine ⟨he, vl', _, ho.at_, fun k hk => ?_, own_heapJ h3 fun k hk hkl => ho.fr.block k hkl (h4 k hk), fun k hk hb => ?_, h5.trans (ho.fr.to_below h5.size fun k hk hb => by have := (h2 k hb).1; omega)⟩
  · rcases hk with hk | hk
    · exact ⟨(h2 k hk).1, Nat.lt_of_lt_of_le (h2 k hk).2 hs⟩
    · exact ⟨Nat.le_trans h5.size hk.1, hk.2⟩
  · rcases hb with hb | hb
    · exact h4 k hk hb
    · have := (World.ownsRow.lt h3 k hk).2; omega
/-- The slice of rows has become another one. -/
theorem LR7.rows {W w w2 : World} {lb db : Nat} {vl v v' : Value} {g : Lg} {s : Dk} {rows rows' : List ByteArray} (h : LR7 W w lb db vl g s v rows) (hg : w.grownBy w2 v.ownBlock) (hown : w2.ownsRow W.heap.size 9 1 v' rows'.length (sv rows')) (hat : ∀ k, v'.ownBlock = some k → v.ownBlock = some k ∨ w.heap.size ≤ k) : LR7 W w2 lb db vl g s v' rows' := by
  obtain ⟨B, h1, h2, h3, h4, h5⟩ := h
  have hf : Fr (fun k => v.ownBlock = some k) w w2 := ⟨hg.os, hg.tape, hg.output, hg.size, fun k hk hn => hg.block k hk (fun e => hn e.symm)⟩
  refine ⟨B, h1.fr hf fun k _ hb hv => h4 k hv hb, fun k hk => ⟨(h2 k hk).1, Nat.lt_of_lt_of_le (h2 k hk).2 hg.size⟩, hown, fun k hk hb => ?_, h5.trans (hf.to_below h5.size fun k hk hv => by have := (World.ownsRow.lt h3 k hv).1; omega)⟩
  rcases hat k hk with hk' | hk'
  · exact h4 k hk' hb
  · have := (h2 k hb).2; omega
end Go.Proofs.Ytognomkhkoiabaa
