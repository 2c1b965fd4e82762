/-
  The heap's methods Push and Pop.
-/
import Derived.Test.YtobpolmlblpmjaaHeapP
namespace Go.Proofs.Ytobpolmlblpmjaa
set_option linter.unusedVariables false
set_option linter.unusedSimpArgs false
open Go.RowKit

theorem assert_int (x : Int) (w : World) : (Instr.typeAssert (.iface 3 (.int .i64 x)) 20 3 false).run Try.prog w = .ok (.int .i64 x) w := by kernel_rfl
def PushPost (f base hb : Nat) (h : List Nat) (w : World) (e : Ending) (w' : World) : Prop := e = .returned (.tuple #[]) ∧ ∃ sl, HeapAt f w' base hb sl h ∧ HKeep f base w w'
set_option maxRecDepth 100000 in
set_option maxHeartbeats 4000000 in
theorem pushP {w : World} {f base hb : Nat} {sl : Value} {h : List Nat} (H : HeapAt f w base hb sl h) (x : Nat) (hbase : base ≤ w.heap.size) (hl : h.length ≤ 100000) :
    Calls Try.prog 102 #[.pointer (some ⟨hb, 0, none⟩), .iface 3 (.int .i64 x)] w (PushPost f base hb (h ++ [x]) w) := by
  obtain ⟨i0, hi, hz0, hz1, hz2⟩ := info_parts infoI
  have c0 := H.bx.cell
  have c1 : w.drew.cell? ⟨hb, 0, none⟩ = some sl := c0
  have c2 : (w.alloc (.cells #[.int .i64 (x : Int)] 3)).drew.cell? ⟨hb, 0, none⟩ = some sl := keep_below (below_new w _) c0
  have HOW : Hid (w.ownsRow base 3 1 sl h.length (iv (zi h))) := by have := H.own; unfold OwnI at this; rw [zi_length] at this; exact this
  have HL1 : Hid (h.length + 1 ≤ maxLen) := Lib.hid (by unfold maxLen; omega)
  have HL2 : Hid ((h.length + 1) * 8 ≤ 140737488355328) := Lib.hid (by omega)
  have HL3 : Hid (base ≤ (w.alloc (.cells #[.int .i64 (x : Int)] 3)).drew.heap.size) := Lib.hid (by simp; omega)
  have HA : Hid (∀ (v' : Value) (w2 : World), w2.ownsRow base 3 1 v' (h.length + 1) (iv (zi h) ++ [.int .i64 (x : Int)]) → (w.alloc (.cells #[.int .i64 (x : Int)] 3)).drew.grownBy w2 sl.ownBlock → (v'.ownBlock = sl.ownBlock ∨ v'.ownBlock = some (w.heap.size + 1)) → w2.cell? ⟨hb, 0, none⟩ = some sl ∧ w2.frozen? ⟨hb, 0, none⟩ = false ∧ ∀ q, HeapAt f ((w2.setCell ⟨hb, 0, none⟩ v').drewN q) base hb v' (h ++ [x]) ∧ HKeep f base w ((w2.setCell ⟨hb, 0, none⟩ v').drewN q)) := fun v' w2 h1 h2 h9 => by
    have g2 : (w.alloc (.cells #[.int .i64 (x : Int)] 3)).grownBy w2 sl.ownBlock := ⟨h2.os, h2.tape, h2.output, h2.size, h2.block⟩
    have o1 := H.own.below (below_new w (.cells #[.int .i64 (x : Int)] 3))
    have b1 := H.bx.alloc (.cells #[.int .i64 (x : Int)] 3)
    have b2 := b1.kept g2 (hbox_not_own b1 o1)
    have o2 : OwnI w2 base v' (zi (h ++ [x])) := by
      unfold OwnI
      rw [zi_append, List.length_append, zi_length, iv_append]; exact h1
    have k1 : HKeep f base w (w.alloc (.cells #[.int .i64 (x : Int)] 3)) := ⟨(below_new w _).mono hbase, fun hf => ⟨by simp; omega, (below_new w _).block f hf⟩, fun k cs hk => ((below_new w _).block k (Array.getElem?_eq_some_iff.1 hk).1).trans hk⟩
    have k2 := k1.trans (HKeep.row0 o1 H.nf.2.2 (by simp; omega) g2)
    have k3 := k2.trans (HKeep.box v' b2 H.hbb H.nf.2.1)
    have hg3 := grown_set w2 hb 0 v'
    have b3 : Boxed (w2.setCell ⟨hb, 0, none⟩ v') hb 49 v' := b2.set v'
    have o3 := o2.kept hg3 (by
      cases e : v'.ownBlock with
      | none => exact .inl rfl
      | some k => exact .inr (fun e2 => hbox_not_own b2 o2 (by rw [e, ← e2])))
    refine ⟨b2.cell, b2.frozen, fun q => ⟨⟨H.hbb, b3, o3, ⟨Nat.lt_of_lt_of_le (Nat.lt_of_lt_of_le H.nf.1 (by simp)) (Nat.le_trans g2.size hg3.size), H.nf.2.1, fun e => by
      rcases h9 with h9 | h9
      · exact H.nf.2.2 (h9.symm.trans e)
      · rw [h9] at e; injection e with e; have := H.nf.1; omega⟩⟩, k3.trans (HKeep.drewN _ _ q)⟩⟩
  have hta := fun w => assert_int (x : Int) w
  clear H hbase hl
  go_enter Try.func102, Try.ntmps102
  go_wp2_with fail
  go_region_law ((refine step_append_lies _ (by rfl) _ _ _ (by rfl) base 3 i0 (.int .i64 0) 1 8 Try.underlying49 hi hz0 hz1 hz2 rfl (by omega) _ _ _ (by rfl) ((HOW.out.alloc _).drew) ⟨w.heap.size, 0, none⟩ 1 1 [.int .i64 (x : Int)] (by rfl) (by rfl) (World.news_of_block (cs := #[.int .i64 (x : Int)]) (t := 3) (fr := (0, 0)) (heap_alloc_new w _)) (by simp [Value.oneCell']) (by omega) HL1.out HL2.out HL3.out (w.heap.size + 1) (by simp) ?_; intro gg cap3 w3 hown3 hgrow3 hat3 hlt3; obtain ⟨hc3, hf3, hn3⟩ := HA.out _ w3 hown3 hgrow3 (by rcases hat3 with h8 | h8; exact .inl h8.symm; exact .inr (by rw [h8]; rfl)); replace hn3 := Lib.hid (hn3 0); clear hown3 hgrow3 hat3 hlt3))
  all_goals
    go_wp2_with fail
    go_end0
    exact ⟨rfl, _, hn3.out.1, hn3.out.2⟩
def PopPost (f base hb : Nat) (h : List Nat) (x : Nat) (w : World) (e : Ending) (w' : World) : Prop := e = .returned (.iface 3 (.int .i64 x)) ∧ ∃ sl, HeapAt f w' base hb sl h ∧ HKeep f base w w'
set_option maxRecDepth 100000 in
set_option maxHeartbeats 4000000 in
theorem popP {w : World} {f base hb : Nat} {sl : Value} {h : List Nat} {x : Nat} (H : HeapAt f w base hb sl (h ++ [x])) (hl : h.length ≤ 100000) :
    Calls Try.prog 101 #[.pointer (some ⟨hb, 0, none⟩)] w (PopPost f base hb h x w) := by
  obtain ⟨A, cap, hsl⟩ := own_slice H.own
  have hzl : (zi (h ++ [x])).length = h.length + 1 := by rw [zi_length, List.length_append]; rfl
  rw [hzl] at hsl
  subst hsl
  have c0 := H.bx.cell
  have f0 := H.bx.frozen
  obtain ⟨m, hm⟩ : ∃ m, h.length = m := ⟨_, rfl⟩
  obtain ⟨hpop, hpe, hpc, hpm⟩ := own_pop (l := zi h) (x := (x : Int)) (by have := H.own; rw [zi_append] at this; exact this)
  obtain ⟨g, rfl, c1⟩ := own_rd H.own m (by rw [hzl]; omega)
  have e1 : (zi (h ++ [x]))[m]'(by rw [hzl]; omega) = (x : Int) := by subst hm; simp [zi]
  rw [e1] at c1
  have hg3 := grown_set w hb 0 (.slice (some ⟨g, 0, none⟩) m cap)
  have HF : Hid (HeapAt f (w.setCell ⟨hb, 0, none⟩ (.slice (some ⟨g, 0, none⟩) m cap)) base hb (.slice (some ⟨g, 0, none⟩) m cap) h) := by
    rw [hm] at hpop
    refine ⟨H.hbb, H.bx.set _, hpop.kept hg3 (.inr (fun e2 => hbox_not_own H.bx H.own (by rw [hm]; exact e2.symm))), ⟨by simp; exact H.nf.1, H.nf.2⟩⟩
  have HK := Lib.hid (HKeep.box (.slice (some ⟨g, 0, none⟩) m cap) H.bx H.hbb H.nf.2.1)
  rw [hm] at c0 hpc
  have w1 : IntKind.i64.wrap ((m : Int) + 1 - 1) = m := by rw [IntWalk.i64_in _ (by omega)]; omega
  have w2 : (m : Int) + 1 - 1 = m := by omega
  have w3 : IntKind.i64.wrap (m : Int) = m := IntWalk.i64_in _ (by omega)
  have w4 : (0 : Int) ≤ m := by omega
  have w5 : (m : Int) < (m : Int) + 1 := by omega
  have hw9 : m ≤ cap := by omega
  clear H hzl e1 hpop hpe hg3 hm hl
  go_enter Try.func101, Try.ntmps101
  go_wp2_with fail
  go_ret
  exact ⟨rfl, _, HF.out, HK.out⟩
end Go.Proofs.Ytobpolmlblpmjaa
