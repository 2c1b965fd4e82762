/-
  The methods of the program's heads.
  The heap's methods Push and Pop; how a method is found.
  The heap's methods Push and Pop.
  container/heap: up, Push.
  container/heap: down, Pop.
  container/heap: Pop.
-/
import Derived.Test.YtmnhnighlgpjmaaGreatHeapN
import Derived.Test.YtmnhnighlgpjmaaGreatLeavA
import Derived.RegionTactic
import Derived.Test.YtmnhnighlgpjmaaGreatSucc
namespace Go.Proofs.YtmnhnighlgpjmaaGreat
set_option linter.unusedVariables false
set_option linter.unusedSimpArgs false
open Go.RowKit

/-- The memory of a heap: its box and its row. -/
structure HeapAt (f : Nat) (w : World) (base hb : Nat) (sl : Value) (h : List Nat) : Prop where
  hbb : base ≤ hb
  bx : Boxed w hb 65 sl
  own : OwnI w base sl (zi h)
  nf : f < w.heap.size ∧ f ≠ hb ∧ sl.ownBlock ≠ some f
/-- What a heap's operation leaves as it was. -/
structure HKeep (f base : Nat) (w w' : World) : Prop where
  below : Below base w w'
  fr : f < w.heap.size → f < w'.heap.size ∧ w'.heap[f]? = w.heap[f]?
  rows : ∀ (k : Nat) (cs : Array Value), w.heap[k]? = some (.cells cs 33 (0, 0)) → w'.heap[k]? = some (.cells cs 33 (0, 0))
theorem HKeep.refl {f : Nat} (base : Nat) (w : World) : HKeep f base w w := ⟨Below.refl _ _, fun h => ⟨h, rfl⟩, fun _ _ h => h⟩
theorem HKeep.trans {f base : Nat} {a b c : World} (h : HKeep f base a b) (k : HKeep f base b c) : HKeep f base a c := ⟨h.below.trans k.below, fun hf => ⟨(k.fr (h.fr hf).1).1, ((k.fr (h.fr hf).1).2).trans (h.fr hf).2⟩, fun i cs hi => k.rows i cs (h.rows i cs hi)⟩
theorem HKeep.drewN {f : Nat} (base : Nat) (w : World) (q : Nat) : HKeep f base w (w.drewN q) := ⟨⟨rfl, rfl, rfl, Nat.le_refl _, fun _ _ => rfl⟩, fun h => ⟨h, rfl⟩, fun _ _ h => h⟩
theorem HeapAt.drewN {f : Nat} {w : World} {base hb : Nat} {sl : Value} {h : List Nat} (H : HeapAt f w base hb sl h) (q : Nat) : HeapAt f (w.drewN q) base hb sl h := ⟨H.hbb, H.bx, H.own, H.nf⟩
theorem HKeep.row0 {f base : Nat} {w w' : World} {v : Value} {l : List Int} (ho : OwnI w base v l) (hne : v.ownBlock ≠ some f) (hb : base ≤ w.heap.size) (hg : w.grownBy w' v.ownBlock) : HKeep f base w w' :=
  ⟨(Below.refl base w).grown hg hb (fun k hk => (World.ownsRow.lt ho k hk).1), fun hf => ⟨Nat.lt_of_lt_of_le hf hg.size, hg.block f hf (fun e => hne e.symm)⟩, fun k cs hk => (hg.block k (Array.getElem?_eq_some_iff.1 hk).1 (not_blk ho (show Blk w k 33 cs from hk) (by decide))).trans hk⟩
theorem HKeep.row {f base hb : Nat} {w w' : World} {v : Value} {h : List Nat} (H : HeapAt f w base hb v h) (hb : base ≤ w.heap.size) (hg : w.grownBy w' v.ownBlock) : HKeep f base w w' := HKeep.row0 H.own H.nf.2.2 hb hg
theorem HKeep.box {f base hb : Nat} {w : World} {u : Value} (v : Value) (hx : Boxed w hb 65 u) (hb0 : base ≤ hb) (hne : f ≠ hb) : HKeep f base w (w.setCell ⟨hb, 0, none⟩ v) := by
  have hg := grown_set w hb 0 v
  refine ⟨(Below.refl base w).setCell (p := ⟨hb, 0, none⟩) hb0 v, fun hf => ⟨Nat.lt_of_lt_of_le hf hg.size, hg.block f hf (fun e => hne (by injection e))⟩, fun k cs hk => (hg.block k (Array.getElem?_eq_some_iff.1 hk).1 (fun e => ?_)).trans hk⟩
  injection e with e
  subst e
  have h1 : w.heap[k]? = some (.cells #[u] 65 (0, 0)) := hx
  rw [h1] at hk
  injection hk with hk
  injection hk with _ h2
  exact absurd h2 (by decide)
theorem hbox_not_own {w : World} {b base : Nat} {v u : Value} {l : List Int} (h : Boxed w b 65 u) (ho : OwnI w base v l) : some b ≠ v.ownBlock := not_blk ho (show Blk w b 65 #[u] from h) (by decide)
/-- The row is turned in place. -/
theorem HeapAt.row {w w' : World} {f base hb : Nat} {sl : Value} {h h2 : List Nat} (H : HeapAt f w base hb sl h) (hg : w.grownBy w' sl.ownBlock) (ho : OwnI w' base sl (zi h2)) : HeapAt f w' base hb sl h2 := ⟨H.hbb, H.bx.kept hg (hbox_not_own H.bx H.own), ho, ⟨Nat.lt_of_lt_of_le H.nf.1 hg.size, H.nf.2⟩⟩

set_option maxHeartbeats 2000000 in
theorem lenP (A : Option Addr) (n cap : Nat) (w : World) : Calls Tryz.prog 121 #[.slice A n cap] w fun e w' => e = .returned (.int .i64 n) ∧ w = w' := by
  go_enter Tryz.func121, Tryz.ntmps121
  go_wp2
  go_ret
  exact ⟨rfl, rfl⟩
set_option maxHeartbeats 2000000 in
theorem lessP {w : World} {base n cap : Nat} {A : Option Addr} {h : List Nat} (ho : OwnI w base (.slice A n cap) (zi h)) (i j : Nat) (hi : i < h.length) (hj : j < h.length) (hl : h.length ≤ 100000) :
    Calls Tryz.prog 122 #[.slice A n cap, .int .i64 i, .int .i64 j] w fun e w' => e = .returned (.bool (decide (h.getD i 0 < h.getD j 0))) ∧ ∃ q, w' = w.drewN q := by
  have hn : n = h.length := by
    obtain ⟨A2, c2, e⟩ := own_slice ho
    injection e with _ e _; rw [zi_length] at e; exact e
  obtain ⟨g, rfl, c1⟩ := own_rd ho i (by rw [zi_length]; exact hi)
  obtain ⟨g2, e2, c2⟩ := own_rd ho j (by rw [zi_length]; exact hj)
  injection e2 with e2
  injection e2 with e2 _ _
  subst e2
  have z1 : (zi h)[i]'(by rw [zi_length]; exact hi) = ((h.getD i 0 : Nat) : Int) := by simp [zi, List.getD_eq_getElem?_getD, hi]
  have z2 : (zi h)[j]'(by rw [zi_length]; exact hj) = ((h.getD j 0 : Nat) : Int) := by simp [zi, List.getD_eq_getElem?_getD, hj]
  rw [z1] at c1
  rw [z2] at c2
  obtain ⟨a, ha⟩ : ∃ a, h.getD i 0 = a := ⟨_, rfl⟩
  obtain ⟨b, hb⟩ : ∃ b, h.getD j 0 = b := ⟨_, rfl⟩
  rw [ha] at c1 ⊢
  rw [hb] at c2 ⊢
  have hi0 : (0 : Int) ≤ i := by omega
  have hj0 : (0 : Int) ≤ j := by omega
  have hin : (i : Int) < n := by omega
  have hjn : (j : Int) < n := by omega
  clear ha hb z1 z2 ho hn hi hj
  go_enter Tryz.func122, Tryz.ntmps122
  go_wp2_with fail
  go_quiet (fail)
  go_wp2_with fail
  go_ret
  exact ⟨rfl, _, rfl⟩
set_option maxHeartbeats 4000000 in
theorem swapP {w : World} {base cap n : Nat} {A : Option Addr} {h : List Nat} (ho : OwnI w base (.slice A n cap) (zi h)) (i j : Nat) (hi : i < h.length) (hj : j < h.length) (hij : i ≠ j) (hl : h.length ≤ 100000) :
    Calls Tryz.prog 125 #[.slice A n cap, .int .i64 i, .int .i64 j] w fun e w' => e = .returned (.tuple #[]) ∧ OwnI w' base (.slice A n cap) (zi (swapL h i j)) ∧ w.grownBy w' (Value.slice A n cap).ownBlock := by
  have hn : n = h.length := by
    obtain ⟨A2, c2, e⟩ := own_slice ho
    injection e with _ e _; rw [zi_length] at e; exact e
  obtain ⟨g, rfl, c1⟩ := own_rd ho i (by rw [zi_length]; exact hi)
  obtain ⟨g2, e2, c2⟩ := own_rd ho j (by rw [zi_length]; exact hj)
  injection e2 with e2
  injection e2 with e2 _ _
  subst e2
  have z1 : (zi h)[i]'(by rw [zi_length]; exact hi) = ((h.getD i 0 : Nat) : Int) := by simp [zi, List.getD_eq_getElem?_getD, hi]
  have z2 : (zi h)[j]'(by rw [zi_length]; exact hj) = ((h.getD j 0 : Nat) : Int) := by simp [zi, List.getD_eq_getElem?_getD, hj]
  rw [z1] at c1
  rw [z2] at c2
  have HS : Hid (OwnI ((w.setCell ⟨g, i, none⟩ (.int .i64 (h.getD j 0 : Nat))).setCell ⟨g, j, none⟩ (.int .i64 (h.getD i 0 : Nat))) base (.slice (some ⟨g, 0, none⟩) n cap) (zi (swapL h i j))) := Lib.hid (by
    have h1 := (ho.store i (by rw [zi_length]; exact hi) (h.getD j 0 : Nat)).store j (by rw [List.length_set, zi_length]; exact hj) (h.getD i 0 : Nat)
    have e : zi (swapL h i j) = ((zi h).set i ((h.getD j 0 : Nat) : Int)).set j ((h.getD i 0 : Nat) : Int) := by unfold swapL; rw [zi_set, zi_set]
    rw [e]; exact h1)
  have f1 : ∀ k, w.frozen? ⟨g, k, none⟩ = false := fun k => own_free (by have := ho; unfold OwnI at this; rw [zi_length, ← hn] at this; exact this) k
  obtain ⟨a, ha⟩ : ∃ a, h.getD i 0 = a := ⟨_, rfl⟩
  obtain ⟨b, hb⟩ : ∃ b, h.getD j 0 = b := ⟨_, rfl⟩
  rw [ha] at c1 HS
  rw [hb] at c2 HS
  have hi0 : (0 : Int) ≤ i := by omega
  have hj0 : (0 : Int) ≤ j := by omega
  have hin : (i : Int) < n := by omega
  have hjn : (j : Int) < n := by omega
  have fi := f1 i
  have fj := f1 j
  have hji : ¬ j = i := fun e => hij e.symm
  clear ha hb z1 z2 ho hn hi hj f1
  go_enter Tryz.func125, Tryz.ntmps125
  go_wp2_with fail
  go_region
  all_goals
    go_wp2_with fail
    go_end0
    refine ⟨rfl, ?_, ?_⟩
    · first
        | exact HS.out
        | (have h := HS.out; exact ⟨h.1, h.2⟩)
        | (rw [show (w.setCell ⟨g, i, none⟩ (.int .i64 (b : Int))).setCell ⟨g, j, none⟩ (.int .i64 (a : Int)) = (w.setCell ⟨g, j, none⟩ (.int .i64 (a : Int))).setCell ⟨g, i, none⟩ (.int .i64 (b : Int)) from World.setCell_comm _ _ _ _ _ (by simp [hij])] at HS; have h := HS.out; exact ⟨h.1, h.2⟩)
    · first
        | exact (grown_set w g i _).trans (grown_set _ g j _)
        | exact (grown_set w g j _).trans (grown_set _ g i _)
        | (have h := (grown_set w g i (.int .i64 (b : Int))).trans (grown_set _ g j (.int .i64 (a : Int))); exact ⟨h.os, h.tape, h.output, h.size, h.block⟩)
        | (have h := (grown_set w g j (.int .i64 (a : Int))).trans (grown_set _ g i (.int .i64 (b : Int))); exact ⟨h.os, h.tape, h.output, h.size, h.block⟩)
end Go.Proofs.YtmnhnighlgpjmaaGreat

namespace Go.Proofs.YtmnhnighlgpjmaaGreat
set_option linter.unusedVariables false
set_option linter.unusedSimpArgs false
open Go.RowKit

set_option maxRecDepth 100000 in
theorem m_push (a : Addr) (w : World) : (method 251 64 (.pointer (some a)) "Push").run Tryz.prog w = .ok (124, .pointer (some a)) w := by kernel_rfl
set_option maxRecDepth 100000 in
theorem m_pop (a : Addr) (w : World) : (method 251 64 (.pointer (some a)) "Pop").run Tryz.prog w = .ok (123, .pointer (some a)) w := by kernel_rfl
theorem load_box {w : World} {b : Nat} {sl : Value} (h : Boxed w b 65 sl) : (loadVar 65 ⟨b, 0, none⟩).run Tryz.prog w = .ok sl w := by
  have hc := h.cell
  have e : (Tryz.prog.info? 65).map (fun i => (i.zero, i.size, i.bytes)) = some (some (.slice none 0 0), 1, 24) := by kernel_rfl
  simp [loadVar, hc, go_sem]
theorem wrap_ok (nm : String) (a : Addr) (w : World) : (Builtin.ssaWrapNilChk_ #[64] 64 #[.pointer (some a), strVal "", strVal nm]).run Tryz.prog w = .ok (.pointer (some a)) w := by kernel_rfl
set_option maxRecDepth 100000 in
set_option maxHeartbeats 1000000 in
theorem recv_ok (nm : String) {w : World} {b : Nat} {sl : Value} (h : Boxed w b 65 sl) : (receiverAt 64 (.val (.pointer (some ⟨b, 0, none⟩))) false (some nm)).run Tryz.prog w = .ok sl w := by
  have hl := load_box h
  have hu := run_underlying (P := Tryz.prog) Tryz.underlying64
  have hw := wrap_ok nm ⟨b, 0, none⟩ w
  unfold receiverAt
  simp only [Sem.run_bind, hu, Result.andThen_ok, Place.get, Sem.run_pure, hw, asAddr, hl]
set_option maxRecDepth 100000 in
set_option maxHeartbeats 1000000 in
theorem m_val {name : String} {f : FuncId} (hm : (Tryz.prog.info? 64).map (fun i => (i.methods.find? (·.name == name)).map fun m => (m.path, m.func)) = some (some (#[], some (f, false)))) {w : World} {b : Nat} {sl : Value} (h : Boxed w b 65 sl) :
    (method (250 + 1) 64 (.pointer (some ⟨b, 0, none⟩)) name).run Tryz.prog w = .ok (f, sl) w := by
  cases hi : Tryz.prog.info? 64 with
  | none => rw [hi] at hm; simp at hm
  | some i =>
    rw [hi] at hm
    simp only [Option.map_some, Option.some.injEq] at hm
    cases hf : i.methods.find? (·.name == name) with
    | none => rw [hf] at hm; simp at hm
    | some m =>
      rw [hf] at hm
      simp only [Option.map_some, Option.some.injEq, Prod.mk.injEq] at hm
      obtain ⟨h1, h2⟩ := hm
      have ht : (typeInfo 64).run Tryz.prog w = .ok i w := by simp [typeInfo, hi]
      have hr := recv_ok ((name.splitOn ".").getLastD name) h
      rw [method]
      simp only [Sem.run_bind, ht, Result.andThen_ok, hf, h1, follow, Sem.run_pure, h2, Array.isEmpty, List.size_toArray, List.length_nil, decide_true, if_true, hr]
set_option maxRecDepth 100000 in
theorem m_len {w : World} {b : Nat} {sl : Value} (h : Boxed w b 65 sl) : (method 251 64 (.pointer (some ⟨b, 0, none⟩)) "Len").run Tryz.prog w = .ok (121, sl) w := m_val (by kernel_rfl) h
set_option maxRecDepth 100000 in
theorem m_less {w : World} {b : Nat} {sl : Value} (h : Boxed w b 65 sl) : (method 251 64 (.pointer (some ⟨b, 0, none⟩)) "Less").run Tryz.prog w = .ok (122, sl) w := m_val (by kernel_rfl) h
set_option maxRecDepth 100000 in
theorem m_swap {w : World} {b : Nat} {sl : Value} (h : Boxed w b 65 sl) : (method 251 64 (.pointer (some ⟨b, 0, none⟩)) "Swap").run Tryz.prog w = .ok (125, sl) w := m_val (by kernel_rfl) h
end Go.Proofs.YtmnhnighlgpjmaaGreat

namespace Go.Proofs.YtmnhnighlgpjmaaGreat
set_option linter.unusedVariables false
set_option linter.unusedSimpArgs false
open Go.RowKit

theorem assert_int (x : Int) (w : World) : (Instr.typeAssert (.iface 3 (.int .i64 x)) 20 3 false).run Tryz.prog w = .ok (.int .i64 x) w := by kernel_rfl
def PushPost (f base hb : Nat) (h : List Nat) (w : World) (e : Ending) (w' : World) : Prop := e = .returned (.tuple #[]) ∧ ∃ sl, HeapAt f w' base hb sl h ∧ HKeep f base w w'
set_option maxRecDepth 100000 in
set_option maxHeartbeats 4000000 in
theorem pushP {w : World} {f base hb : Nat} {sl : Value} {h : List Nat} (H : HeapAt f w base hb sl h) (x : Nat) (hbase : base ≤ w.heap.size) (hl : h.length ≤ 100000) :
    Calls Tryz.prog 124 #[.pointer (some ⟨hb, 0, none⟩), .iface 3 (.int .i64 x)] w (PushPost f base hb (h ++ [x]) w) := by
  obtain ⟨i0, hi, hz0, hz1, hz2⟩ := info_parts infoI
  have c0 := H.bx.cell
  have c1 : w.drew.cell? ⟨hb, 0, none⟩ = some sl := c0
  have c2 : (w.alloc (.cells #[.int .i64 (x : Int)] 3)).drew.cell? ⟨hb, 0, none⟩ = some sl := keep_below (below_new w _) c0
  have HOW : Hid (w.ownsRow base 3 1 sl h.length (iv (zi h))) := by have := H.own; unfold OwnI at this; rw [zi_length] at this; exact this
  have HL1 : Hid (h.length + 1 ≤ maxLen) := Lib.hid (by unfold maxLen; omega)
  have HL2 : Hid ((h.length + 1) * 8 ≤ 140737488355328) := Lib.hid (by omega)
  have HL3 : Hid (base ≤ (w.alloc (.cells #[.int .i64 (x : Int)] 3)).drew.heap.size) := Lib.hid (by simp; omega)
  have HA : Hid (∀ (v' : Value) (w2 : World), w2.ownsRow base 3 1 v' (h.length + 1) (iv (zi h) ++ [.int .i64 (x : Int)]) → (w.alloc (.cells #[.int .i64 (x : Int)] 3)).drew.grownBy w2 sl.ownBlock → (v'.ownBlock = sl.ownBlock ∨ v'.ownBlock = some (w.heap.size + 1)) → w2.cell? ⟨hb, 0, none⟩ = some sl ∧ w2.frozen? ⟨hb, 0, none⟩ = false ∧ ∀ q, HeapAt f ((w2.setCell ⟨hb, 0, none⟩ v').drewN q) base hb v' (h ++ [x]) ∧ HKeep f base w ((w2.setCell ⟨hb, 0, none⟩ v').drewN q)) := fun v' w2 h1 h2 h9 => by
    have g2 : (w.alloc (.cells #[.int .i64 (x : Int)] 3)).grownBy w2 sl.ownBlock := ⟨h2.os, h2.tape, h2.output, h2.size, h2.block⟩
    have o1 := H.own.below (below_new w (.cells #[.int .i64 (x : Int)] 3))
    have b1 := H.bx.alloc (.cells #[.int .i64 (x : Int)] 3)
    have b2 := b1.kept g2 (hbox_not_own b1 o1)
    have o2 : OwnI w2 base v' (zi (h ++ [x])) := by
      unfold OwnI
      rw [zi_append, List.length_append, zi_length, iv_append]; exact h1
    have k1 : HKeep f base w (w.alloc (.cells #[.int .i64 (x : Int)] 3)) := ⟨(below_new w _).mono hbase, fun hf => ⟨by simp; omega, (below_new w _).block f hf⟩, fun k cs hk => ((below_new w _).block k (Array.getElem?_eq_some_iff.1 hk).1).trans hk⟩
    have k2 := k1.trans (HKeep.row0 o1 H.nf.2.2 (by simp; omega) g2)
    have k3 := k2.trans (HKeep.box v' b2 H.hbb H.nf.2.1)
    have hg3 := grown_set w2 hb 0 v'
    have b3 : Boxed (w2.setCell ⟨hb, 0, none⟩ v') hb 65 v' := b2.set v'
    have o3 := o2.kept hg3 (by
      cases e : v'.ownBlock with
      | none => exact .inl rfl
      | some k => exact .inr (fun e2 => hbox_not_own b2 o2 (by rw [e, ← e2])))
    refine ⟨b2.cell, b2.frozen, fun q => ⟨⟨H.hbb, b3, o3, ⟨Nat.lt_of_lt_of_le (Nat.lt_of_lt_of_le H.nf.1 (by simp)) (Nat.le_trans g2.size hg3.size), H.nf.2.1, fun e => by
      rcases h9 with h9 | h9
      · exact H.nf.2.2 (h9.symm.trans e)
      · rw [h9] at e; injection e with e; have := H.nf.1; omega⟩⟩, k3.trans (HKeep.drewN _ _ q)⟩⟩
  have hta := fun w => assert_int (x : Int) w
  clear H hbase hl
  go_enter Tryz.func124, Tryz.ntmps124
  go_wp2_with fail
  go_region_law ((refine step_append_lies _ (by rfl) _ _ _ (by rfl) base 3 i0 (.int .i64 0) 1 8 Tryz.underlying65 hi hz0 hz1 hz2 rfl (by omega) _ _ _ (by rfl) ((HOW.out.alloc _).drew) ⟨w.heap.size, 0, none⟩ 1 1 [.int .i64 (x : Int)] (by rfl) (by rfl) (World.news_of_block (cs := #[.int .i64 (x : Int)]) (t := 3) (fr := (0, 0)) (heap_alloc_new w _)) (by simp [Value.oneCell']) (by omega) HL1.out HL2.out HL3.out (w.heap.size + 1) (by simp) ?_; intro gg cap3 w3 hown3 hgrow3 hat3 hlt3; obtain ⟨hc3, hf3, hn3⟩ := HA.out _ w3 hown3 hgrow3 (by rcases hat3 with h8 | h8; exact .inl h8.symm; exact .inr (by rw [h8]; rfl)); replace hn3 := Lib.hid (hn3 0); clear hown3 hgrow3 hat3 hlt3))
  all_goals
    go_wp2_with fail
    go_end0
    exact ⟨rfl, _, hn3.out.1, hn3.out.2⟩
def PopPost (f base hb : Nat) (h : List Nat) (x : Nat) (w : World) (e : Ending) (w' : World) : Prop := e = .returned (.iface 3 (.int .i64 x)) ∧ ∃ sl, HeapAt f w' base hb sl h ∧ HKeep f base w w'
set_option maxRecDepth 100000 in
set_option maxHeartbeats 4000000 in
theorem popP {w : World} {f base hb : Nat} {sl : Value} {h : List Nat} {x : Nat} (H : HeapAt f w base hb sl (h ++ [x])) (hl : h.length ≤ 100000) :
    Calls Tryz.prog 123 #[.pointer (some ⟨hb, 0, none⟩)] w (PopPost f base hb h x w) := by
  obtain ⟨A, cap, hsl⟩ := own_slice H.own
  have hzl : (zi (h ++ [x])).length = h.length + 1 := by rw [zi_length, List.length_append]; rfl
  rw [hzl] at hsl
  subst hsl
  have c0 := H.bx.cell
  have f0 := H.bx.frozen
  obtain ⟨m, hm⟩ : ∃ m, h.length = m := ⟨_, rfl⟩
  obtain ⟨hpop, hpe, hpc, hpm⟩ := own_pop (l := zi h) (x := (x : Int)) (by have := H.own; rw [zi_append] at this; exact this)
  obtain ⟨g, rfl, c1⟩ := own_rd H.own m (by rw [hzl]; omega)
  have e1 : (zi (h ++ [x]))[m]'(by rw [hzl]; omega) = (x : Int) := by subst hm; simp [zi]
  rw [e1] at c1
  have hg3 := grown_set w hb 0 (.slice (some ⟨g, 0, none⟩) m cap)
  have HF : Hid (HeapAt f (w.setCell ⟨hb, 0, none⟩ (.slice (some ⟨g, 0, none⟩) m cap)) base hb (.slice (some ⟨g, 0, none⟩) m cap) h) := by
    rw [hm] at hpop
    refine ⟨H.hbb, H.bx.set _, hpop.kept hg3 (.inr (fun e2 => hbox_not_own H.bx H.own (by rw [hm]; exact e2.symm))), ⟨by simp; exact H.nf.1, H.nf.2⟩⟩
  have HK := Lib.hid (HKeep.box (.slice (some ⟨g, 0, none⟩) m cap) H.bx H.hbb H.nf.2.1)
  rw [hm] at c0 hpc
  have w1 : IntKind.i64.wrap ((m : Int) + 1 - 1) = m := by rw [IntWalk.i64_in _ (by omega)]; omega
  have w2 : (m : Int) + 1 - 1 = m := by omega
  have w3 : IntKind.i64.wrap (m : Int) = m := IntWalk.i64_in _ (by omega)
  have w4 : (0 : Int) ≤ m := by omega
  have w5 : (m : Int) < (m : Int) + 1 := by omega
  have hw9 : m ≤ cap := by omega
  clear H hzl e1 hpop hpe hg3 hm hl
  go_enter Tryz.func123, Tryz.ntmps123
  go_wp2_with fail
  go_ret
  exact ⟨rfl, _, HF.out, HK.out⟩
end Go.Proofs.YtmnhnighlgpjmaaGreat

namespace Go.Proofs.YtmnhnighlgpjmaaGreat
set_option linter.unusedVariables false
set_option linter.unusedSimpArgs false
open Go.RowKit

def HpPost (f base hb : Nat) (h : List Nat) (w : World) (e : Ending) (w' : World) : Prop := e = .returned (.tuple #[]) ∧ ∃ sl h2, HeapAt f w' base hb sl h2 ∧ Heap h2 h2.length ∧ h2.Perm h ∧ HKeep f base w w'
def UpRel (f base hb : Nat) (sl : Value) (h : List Nat) (w0 : World) (i : Value) (wl : World) : Prop := ∃ (k : Nat) (h2 : List Nat), i = .int .i64 k ∧ k < h2.length ∧ UpOk h2 k ∧ h2.Perm h ∧ HeapAt f wl base hb sl h2 ∧ HKeep f base w0 wl
set_option maxRecDepth 100000 in
set_option maxHeartbeats 4000000 in
theorem upP {w : World} {f base hb : Nat} {sl : Value} {h : List Nat} {j : Nat} (H : HeapAt f w base hb sl h) (hbase : base ≤ w.heap.size) (hj : j < h.length) (hU : UpOk h j) (hl : h.length ≤ 100000) :
    Calls Tryz.prog 65 #[.iface 64 (.pointer (some ⟨hb, 0, none⟩)), .int .i64 j] w (HpPost f base hb h w) := by
  have HST := Lib.hid H
  have HU := Lib.hid hU
  clear H hU
  go_enter Tryz.func65, Tryz.ntmps65
  go_wp2_with fail
  go_loopw [1] (fun i wl => UpRel f base hb sl h w i wl) (fun i _ => (intOf i).toNat)
  case atStart => exact ⟨j, h, rfl, hj, HU.out, List.Perm.refl _, HST.out, HKeep.refl _ _⟩
  case round =>
    obtain ⟨k, h2, rfl, hk, hU, hp, H, hK⟩ := hrel
    have hl2 : h2.length ≤ 100000 := by rw [hp.length_eq]; exact hl
    by_cases hk0 : k = 0
    · have HF : Hid (HpPost f base hb h w (.returned (.tuple #[])) wr) := ⟨rfl, sl, h2, H, by rw [hk0] at hU; exact hU.zero, hp, hK⟩
      subst hk0
      rw [show ((0 : Nat) : Int) = 0 from rfl]
      have e1 : IntKind.i64.wrap ((0 : Int) - 1) = -1 := by decide
      have e2 : (-1 : Int).tdiv 2 = 0 := by decide
      clear hU hp H hK
      go_wp2_with fail
      go_end0
      exact HF.out
    · obtain ⟨p, hpp⟩ : ∃ p, (k - 1) / 2 = p := ⟨_, rfl⟩
      obtain ⟨A, cap, hsl⟩ := own_slice H.own
      rw [zi_length] at hsl
      subst hsl
      have hpk : p < k := by omega
      have e1 : IntKind.i64.wrap ((k : Int) - 1) = (k : Int) - 1 := IntWalk.i64_in _ (by omega)
      have e0 : (0 : Int) ≤ (k : Int) - 1 := by omega
      have e2 : ((k : Int) - 1).tdiv 2 = p := by rw [Int.tdiv_eq_ediv_of_nonneg (by omega)]; omega
      have e2' : ((k : Int) - 1) / 2 = p := by omega
      have e2w : IntKind.i64.wrap (p : Int) = p := IntWalk.i64_in _ (by omega)
      have e3 : ((p : Int) == (k : Int)) = false := by simp; omega
      have hm1 := m_less H.bx
      have HLS := lessP H.own k p hk (by omega) (by omega)
      by_cases hlt : h2.getD k 0 < h2.getD p 0
      · rw [show decide (h2.getD k 0 < h2.getD p 0) = true from decide_eq_true hlt] at HLS
        have hU2 := hU.step (by omega) hk (by rw [hpp]; exact hlt)
        rw [hpp] at hU2
        have HL2 := Lib.hid HLS
        have HU2 := Lib.hid hU2
        have HH := Lib.hid H
        have HP := Lib.hid hp
        have HKK := Lib.hid hK
        clear HLS hU hU2 hp H hK hpp hlt
        go_wp2_with fail
        refine HL2.out.mono ?_; rintro e w2 ⟨rfl, q, rfl⟩
        have H2 := HH.out.drewN q
        have hK2 := HKK.out.trans (HKeep.drewN base wr q)
        generalize wr.drewN q = wq at *
        have hm2 := m_swap H2.bx
        have HS := Lib.hid (swapP H2.own p k (by omega) hk (by omega) (by omega))
        have HHQ := Lib.hid H2
        have HKQ := Lib.hid hK2
        clear hm1 H2 hK2 HL2 HH HKK
        go_wp2_with fail
        refine HS.out.mono ?_; rintro e w3 ⟨rfl, h1, h3⟩
        have hbq : base ≤ wq.heap.size := Nat.le_trans hbase HKQ.out.below.size
        have HN := Lib.hid (HHQ.out.row h3 h1)
        have HN2 := Lib.hid (HKQ.out.trans (HKeep.row HHQ.out hbq h3))
        have HPM : Hid ((swapL h2 p k).Perm h) := Lib.hid ((swapL_perm h2 (by omega) hk).trans HP.out)
        clear h1 h3 hm2 HHQ HKQ HS HP
        go_wp2_with fail
        go_roundw
        case rel => exact ⟨p, _, rfl, by rw [swapL_length]; omega, HU2.out, HPM.out, HN.out, HN2.out⟩
        case measure => simp [intOf]; omega
      · rw [show decide (h2.getD k 0 < h2.getD p 0) = false from decide_eq_false hlt] at HLS
        have hS := hU.stop (by rw [hpp]; exact hlt)
        have HL2 := Lib.hid HLS
        have HF : Hid (∀ q, HpPost f base hb h w (.returned (.tuple #[])) (wr.drewN q)) := fun q => ⟨rfl, _, h2, H.drewN q, hS, hp, hK.trans (HKeep.drewN _ _ q)⟩
        clear HLS hU hp H hK hpp hlt hS
        go_wp2_with fail
        refine HL2.out.mono ?_; rintro e w2 ⟨rfl, q, rfl⟩
        have HF2 := Lib.hid (HF.out q)
        generalize wr.drewN q = wq at *
        clear hm1 HL2 HF
        go_wp2_with fail
        go_end0
        exact HF2.out
set_option maxRecDepth 100000 in
set_option maxHeartbeats 4000000 in
theorem heapPushP {w : World} {f base hb : Nat} {sl : Value} {h : List Nat} (H : HeapAt f w base hb sl h) (hH : Heap h h.length) (x : Nat) (hbase : base ≤ w.heap.size) (hl : h.length ≤ 10000) :
    Calls Tryz.prog 43 #[.iface 64 (.pointer (some ⟨hb, 0, none⟩)), .iface 3 (.int .i64 x)] w (HpPost f base hb (h ++ [x]) w) := by
  have HP := Lib.hid (pushP H x hbase (by omega))
  have hm := m_push ⟨hb, 0, none⟩ w
  have HU := Lib.hid (UpOk.start hH x)
  clear H hH
  go_enter Tryz.func43, Tryz.ntmps43
  go_wp2_with fail
  refine HP.out.mono ?_; rintro e w2 ⟨rfl, sl2, H2, hK2⟩
  obtain ⟨A, cap, hsl⟩ := own_slice H2.own
  have hzl : (zi (h ++ [x])).length = h.length + 1 := by rw [zi_length, List.length_append]; rfl
  rw [hzl] at hsl
  subst hsl
  have hm2 := m_len H2.bx
  obtain ⟨m, hme⟩ : ∃ m, h.length = m := ⟨_, rfl⟩
  have HUP := Lib.hid (upP (j := h.length) H2 (Nat.le_trans hbase hK2.below.size) (by simp) HU.out (by simp; omega))
  rw [hme] at hm2 HUP
  have w1 : IntKind.i64.wrap ((m : Int) + 1 - 1) = m := by rw [IntWalk.i64_in _ (by omega)]; omega
  have w2 : (m : Int) + 1 - 1 = m := by omega
  have w3 : IntKind.i64.wrap (m : Int) = m := IntWalk.i64_in _ (by omega)
  have HK2 := Lib.hid hK2
  clear hm H2 hK2 hzl hme HP HU hl
  go_wp2_with fail
  refine (lenP _ _ _ _).mono ?_; rintro e w4 ⟨rfl, rfl⟩
  go_wp2_with fail
  refine HUP.out.mono ?_; rintro e w4 ⟨rfl, sl3, h3, g1, g2, g3, g4⟩
  have HF : Hid (HpPost f base hb (h ++ [x]) w (.returned (.tuple #[])) w4) := ⟨rfl, sl3, h3, g1, g2, g3, HK2.out.trans g4⟩
  clear g1 g2 g3 g4
  go_wp2_with fail
  go_end0
  exact HF.out
end Go.Proofs.YtmnhnighlgpjmaaGreat

namespace Go.Proofs.YtmnhnighlgpjmaaGreat
set_option linter.unusedVariables false
set_option linter.unusedSimpArgs false
open Go.RowKit

def DownPost (f base hb n : Nat) (h : List Nat) (w : World) (e : Ending) (w' : World) : Prop := (∃ b, e = .returned (.bool b)) ∧ ∃ sl h2, HeapAt f w' base hb sl h2 ∧ Heap h2 n ∧ h2.Perm h ∧ h2.getD n 0 = h.getD n 0 ∧ HKeep f base w w'
def DownRel (f base hb n : Nat) (sl : Value) (h : List Nat) (w0 : World) (i : Value) (wl : World) : Prop := ∃ (k : Nat) (h2 : List Nat), i = .int .i64 k ∧ k ≤ n ∧ DownOk h2 n k ∧ h2.Perm h ∧ h2.getD n 0 = h.getD n 0 ∧ HeapAt f wl base hb sl h2 ∧ HKeep f base w0 wl
set_option maxRecDepth 100000 in
set_option maxHeartbeats 8000000 in
theorem downP {w : World} {f base hb n : Nat} {sl : Value} {h : List Nat} (H : HeapAt f w base hb sl h) (hbase : base ≤ w.heap.size) (hn : h.length = n + 1) (hD : DownOk h n 0) (hl : n ≤ 10000) :
    Calls Tryz.prog 66 #[.iface 64 (.pointer (some ⟨hb, 0, none⟩)), .int .i64 0, .int .i64 n] w (DownPost f base hb n h w) := by
  obtain ⟨SA, scap, hsl⟩ := own_slice H.own
  rw [zi_length, hn] at hsl
  subst hsl
  have HST := Lib.hid H
  have HD := Lib.hid hD
  have HN := Lib.hid hn
  clear H hD hn
  go_enter Tryz.func66, Tryz.ntmps66
  go_wp2_with fail
  go_loopw [7] (fun i wl => DownRel f base hb n (.slice SA (n + 1) scap) h w i wl) (fun i _ => n + 1 - (intOf i).toNat)
  case atStart => exact ⟨0, h, rfl, by omega, HD.out, List.Perm.refl _, rfl, HST.out, HKeep.refl _ _⟩
  case round =>
    obtain ⟨k, h2, rfl, hkn, hD, hp, hlast, H, hK⟩ := hrel
    have hl2 : h2.length = n + 1 := by rw [hp.length_eq]; exact HN.out
    have HL := Lib.hid hl2
    have e1 : IntKind.i64.wrap (2 * (k : Int)) = 2 * (k : Int) := IntWalk.i64_in _ (by omega)
    have e2 : IntKind.i64.wrap (2 * (k : Int) + 1) = 2 * (k : Int) + 1 := IntWalk.i64_in _ (by omega)
    have e3 : (0 : Int) ≤ 2 * (k : Int) := by omega
    have k0 : (0 : Int) ≤ (k : Int) := by omega
    have kb : (k : Int) ≤ 10000 := by omega
    by_cases hlf : n ≤ 2 * k + 1
    · have d1 : decide (2 * (k : Int) + 1 ≥ (n : Int)) = true := by rw [decide_eq_true_iff]; omega
      have d2 : decide ((n : Int) ≤ 2 * (k : Int) + 1) = true := by rw [decide_eq_true_iff]; omega
      have HF : Hid (∀ b, DownPost f base hb n h w (.returned (.bool b)) wr) := fun b => ⟨⟨_, rfl⟩, _, h2, H, hD.leaf hlf, hp, hlast, hK⟩
      clear hD hp hlast H hK hl2 hlf
      go_wp2_with fail
      all_goals
        go_ret
        exact HF.out _
    · have d1 : decide (2 * (k : Int) + 1 ≥ (n : Int)) = false := by rw [decide_eq_false_iff_not]; omega
      have d2 : decide ((n : Int) ≤ 2 * (k : Int) + 1) = false := by rw [decide_eq_false_iff_not]; omega
      have d3 : decide (2 * (k : Int) + 1 < 0) = false := by rw [decide_eq_false_iff_not]; omega
      have e4 : IntKind.i64.wrap (2 * (k : Int) + 1 + 1) = 2 * (k : Int) + 1 + 1 := IntWalk.i64_in _ (by omega)
      have c1 : ((2 * k + 1 : Nat) : Int) = 2 * (k : Int) + 1 := by omega
      have c2 : ((2 * k + 2 : Nat) : Int) = 2 * (k : Int) + 1 + 1 := by omega
      have hm1 := m_less H.bx
      have HC1 := Lib.hid c1
      have HC2 := Lib.hid c2
      have HP := Lib.hid hp
      have HKK := Lib.hid hK
      have HDD := Lib.hid hD
      have HLA := Lib.hid hlast
      have HH := Lib.hid H
      clear c1 c2 hp hK hD hlast
      by_cases hbn : 2 * k + 2 < n
      · have d4 : decide (2 * (k : Int) + 1 + 1 < (n : Int)) = true := by rw [decide_eq_true_iff]; omega
        have HLS := lessP H.own (2 * k + 2) (2 * k + 1) (by omega) (by omega) (by omega)
        rw [HC1.out, HC2.out] at HLS
        by_cases hlt : h2.getD (2 * k + 2) 0 < h2.getD (2 * k + 1) 0
        · rw [show decide (h2.getD (2 * k + 2) 0 < h2.getD (2 * k + 1) 0) = true from decide_eq_true hlt] at HLS
          have HJM : Hid (∀ c, 0 < c → c < n → (c - 1) / 2 = k → h2.getD (2 * k + 2) 0 ≤ h2.getD c 0) := Lib.hid (fun c c0 cn cp => by
            have hc : c = 2 * k + 1 ∨ c = 2 * k + 2 := by omega
            rcases hc with rfl | rfl
            · omega
            · exact Nat.le_refl _)
          have HL2 := Lib.hid HLS
          clear HLS hlt H hl2
          go_wp2_with fail
          refine HL2.out.mono ?_; rintro e w2 ⟨rfl, q, rfl⟩
          have H2 := HH.out.drewN q
          have hK2 := HKK.out.trans (HKeep.drewN base wr q)
          generalize wr.drewN q = wq at *
          clear hm1 HL2 HH HKK
          have hm2 := m_less H2.bx
          have HLS2 := lessP H2.own (2 * k + 2) k (by rw [HL.out]; omega) (by rw [HL.out]; omega) (by rw [HL.out]; omega)
          rw [HC2.out] at HLS2
          by_cases hlt2 : h2.getD (2 * k + 2) 0 < h2.getD k 0
          · rw [show decide (h2.getD (2 * k + 2) 0 < h2.getD k 0) = true from decide_eq_true hlt2] at HLS2
            have HL3 := Lib.hid HLS2
            have HD2 := Lib.hid (HDD.out.step (by rw [HL.out]; omega) (by omega) (by omega) (by omega) HJM.out hlt2)
            have HHQ := Lib.hid H2
            have HKQ := Lib.hid hK2
            clear HLS2 hlt2 H2 hK2
            go_wp2_with fail
            refine HL3.out.mono ?_; rintro e w3 ⟨rfl, q2, rfl⟩
            have H3 := HHQ.out.drewN q2
            have hK3 := HKQ.out.trans (HKeep.drewN base wq q2)
            generalize wq.drewN q2 = wz at *
            have hm3 := m_swap H3.bx
            have HS := swapP H3.own k (2 * k + 2) (by rw [HL.out]; omega) (by rw [HL.out]; omega) (by omega) (by rw [HL.out]; omega)
            rw [HC2.out] at HS
            have HS2 := Lib.hid HS
            have HHZ := Lib.hid H3
            have HKZ := Lib.hid hK3
            clear hm2 H3 hK3 HL3 HHQ HKQ HS
            go_wp2_with fail
            refine HS2.out.mono ?_; rintro e w4 ⟨rfl, h1, h3⟩
            have hbq : base ≤ wz.heap.size := Nat.le_trans hbase HKZ.out.below.size
            have HN1 := Lib.hid (HHZ.out.row h3 h1)
            have HN2 := Lib.hid (HKZ.out.trans (HKeep.row HHZ.out hbq h3))
            have HPM : Hid ((swapL h2 k (2 * k + 2)).Perm h) := Lib.hid ((swapL_perm h2 (by rw [HL.out]; omega) (by rw [HL.out]; omega)).trans HP.out)
            have HLS3 : Hid ((swapL h2 k (2 * k + 2)).getD n 0 = h.getD n 0) := Lib.hid (by rw [swapL_last h2 (n := n) (by omega) (by omega) (by rw [HL.out]; omega)]; exact HLA.out)
            clear h1 h3 hm3 HHZ HKZ HS2 HP HLA hbq
            go_wp2_with fail
            go_roundw
            case rel => exact ⟨2 * k + 2, _, by first | rfl | go_num | (rw [HC2.out]), by omega, HD2.out, HPM.out, HLS3.out, HN1.out, HN2.out⟩
            case measure => simp [intOf]; omega
          · rw [show decide (h2.getD (2 * k + 2) 0 < h2.getD k 0) = false from decide_eq_false hlt2] at HLS2
            have HL3 := Lib.hid HLS2
            have HF : Hid (∀ q b, DownPost f base hb n h w (.returned (.bool b)) (wq.drewN q)) := fun q b => ⟨⟨_, rfl⟩, _, h2, H2.drewN q, HDD.out.stop HJM.out hlt2, HP.out, HLA.out, hK2.trans (HKeep.drewN _ _ q)⟩
            clear HLS2 hlt2 H2 hK2
            go_wp2_with fail
            refine HL3.out.mono ?_; rintro e w3 ⟨rfl, q2, rfl⟩
            have HF2 := Lib.hid (HF.out q2)
            generalize wq.drewN q2 = wz at *
            clear hm2 HL3 HF
            go_wp2_with fail
            all_goals
              go_ret
              exact HF2.out _
        · rw [show decide (h2.getD (2 * k + 2) 0 < h2.getD (2 * k + 1) 0) = false from decide_eq_false hlt] at HLS
          have HJM : Hid (∀ c, 0 < c → c < n → (c - 1) / 2 = k → h2.getD (2 * k + 1) 0 ≤ h2.getD c 0) := Lib.hid (fun c c0 cn cp => by
            have hc : c = 2 * k + 1 ∨ c = 2 * k + 2 := by omega
            rcases hc with rfl | rfl
            · exact Nat.le_refl _
            · omega)
          have HL2 := Lib.hid HLS
          clear HLS hlt H hl2
          go_wp2_with fail
          refine HL2.out.mono ?_; rintro e w2 ⟨rfl, q, rfl⟩
          have H2 := HH.out.drewN q
          have hK2 := HKK.out.trans (HKeep.drewN base wr q)
          generalize wr.drewN q = wq at *
          clear hm1 HL2 HH HKK
          have hm2 := m_less H2.bx
          have HLS2 := lessP H2.own (2 * k + 1) k (by rw [HL.out]; omega) (by rw [HL.out]; omega) (by rw [HL.out]; omega)
          rw [HC1.out] at HLS2
          by_cases hlt2 : h2.getD (2 * k + 1) 0 < h2.getD k 0
          · rw [show decide (h2.getD (2 * k + 1) 0 < h2.getD k 0) = true from decide_eq_true hlt2] at HLS2
            have HL3 := Lib.hid HLS2
            have HD2 := Lib.hid (HDD.out.step (by rw [HL.out]; omega) (by omega) (by omega) (by omega) HJM.out hlt2)
            have HHQ := Lib.hid H2
            have HKQ := Lib.hid hK2
            clear HLS2 hlt2 H2 hK2
            go_wp2_with fail
            refine HL3.out.mono ?_; rintro e w3 ⟨rfl, q2, rfl⟩
            have H3 := HHQ.out.drewN q2
            have hK3 := HKQ.out.trans (HKeep.drewN base wq q2)
            generalize wq.drewN q2 = wz at *
            have hm3 := m_swap H3.bx
            have HS := swapP H3.own k (2 * k + 1) (by rw [HL.out]; omega) (by rw [HL.out]; omega) (by omega) (by rw [HL.out]; omega)
            rw [HC1.out] at HS
            have HS2 := Lib.hid HS
            have HHZ := Lib.hid H3
            have HKZ := Lib.hid hK3
            clear hm2 H3 hK3 HL3 HHQ HKQ HS
            go_wp2_with fail
            refine HS2.out.mono ?_; rintro e w4 ⟨rfl, h1, h3⟩
            have hbq : base ≤ wz.heap.size := Nat.le_trans hbase HKZ.out.below.size
            have HN1 := Lib.hid (HHZ.out.row h3 h1)
            have HN2 := Lib.hid (HKZ.out.trans (HKeep.row HHZ.out hbq h3))
            have HPM : Hid ((swapL h2 k (2 * k + 1)).Perm h) := Lib.hid ((swapL_perm h2 (by rw [HL.out]; omega) (by rw [HL.out]; omega)).trans HP.out)
            have HLS3 : Hid ((swapL h2 k (2 * k + 1)).getD n 0 = h.getD n 0) := Lib.hid (by rw [swapL_last h2 (n := n) (by omega) (by omega) (by rw [HL.out]; omega)]; exact HLA.out)
            clear h1 h3 hm3 HHZ HKZ HS2 HP HLA hbq
            go_wp2_with fail
            go_roundw
            case rel => exact ⟨2 * k + 1, _, by first | rfl | go_num | (rw [HC1.out]), by omega, HD2.out, HPM.out, HLS3.out, HN1.out, HN2.out⟩
            case measure => simp [intOf]; omega
          · rw [show decide (h2.getD (2 * k + 1) 0 < h2.getD k 0) = false from decide_eq_false hlt2] at HLS2
            have HL3 := Lib.hid HLS2
            have HF : Hid (∀ q b, DownPost f base hb n h w (.returned (.bool b)) (wq.drewN q)) := fun q b => ⟨⟨_, rfl⟩, _, h2, H2.drewN q, HDD.out.stop HJM.out hlt2, HP.out, HLA.out, hK2.trans (HKeep.drewN _ _ q)⟩
            clear HLS2 hlt2 H2 hK2
            go_wp2_with fail
            refine HL3.out.mono ?_; rintro e w3 ⟨rfl, q2, rfl⟩
            have HF2 := Lib.hid (HF.out q2)
            generalize wq.drewN q2 = wz at *
            clear hm2 HL3 HF
            go_wp2_with fail
            all_goals
              go_ret
              exact HF2.out _
      · have d4 : decide (2 * (k : Int) + 1 + 1 < (n : Int)) = false := by rw [decide_eq_false_iff_not]; omega
        have HJM : Hid (∀ c, 0 < c → c < n → (c - 1) / 2 = k → h2.getD (2 * k + 1) 0 ≤ h2.getD c 0) := Lib.hid (fun c c0 cn cp => by
          have hc : c = 2 * k + 1 := by omega
          rw [hc]; exact Nat.le_refl _)
        have H2 := H
        have hK2 := HKK.out
        obtain ⟨wq, rfl⟩ : ∃ wq : World, wq = wr := ⟨_, rfl⟩
        clear H hl2 HH HKK hm1
        have hm2 := m_less H2.bx
        have HLS2 := lessP H2.own (2 * k + 1) k (by rw [HL.out]; omega) (by rw [HL.out]; omega) (by rw [HL.out]; omega)
        rw [HC1.out] at HLS2
        by_cases hlt2 : h2.getD (2 * k + 1) 0 < h2.getD k 0
        · rw [show decide (h2.getD (2 * k + 1) 0 < h2.getD k 0) = true from decide_eq_true hlt2] at HLS2
          have HL3 := Lib.hid HLS2
          have HD2 := Lib.hid (HDD.out.step (by rw [HL.out]; omega) (by omega) (by omega) (by omega) HJM.out hlt2)
          have HHQ := Lib.hid H2
          have HKQ := Lib.hid hK2
          clear HLS2 hlt2 H2 hK2
          go_wp2_with fail
          refine HL3.out.mono ?_; rintro e w3 ⟨rfl, q2, rfl⟩
          have H3 := HHQ.out.drewN q2
          have hK3 := HKQ.out.trans (HKeep.drewN base wq q2)
          generalize wq.drewN q2 = wz at *
          have hm3 := m_swap H3.bx
          have HS := swapP H3.own k (2 * k + 1) (by rw [HL.out]; omega) (by rw [HL.out]; omega) (by omega) (by rw [HL.out]; omega)
          rw [HC1.out] at HS
          have HS2 := Lib.hid HS
          have HHZ := Lib.hid H3
          have HKZ := Lib.hid hK3
          clear hm2 H3 hK3 HL3 HHQ HKQ HS
          go_wp2_with fail
          refine HS2.out.mono ?_; rintro e w4 ⟨rfl, h1, h3⟩
          have hbq : base ≤ wz.heap.size := Nat.le_trans hbase HKZ.out.below.size
          have HN1 := Lib.hid (HHZ.out.row h3 h1)
          have HN2 := Lib.hid (HKZ.out.trans (HKeep.row HHZ.out hbq h3))
          have HPM : Hid ((swapL h2 k (2 * k + 1)).Perm h) := Lib.hid ((swapL_perm h2 (by rw [HL.out]; omega) (by rw [HL.out]; omega)).trans HP.out)
          have HLS3 : Hid ((swapL h2 k (2 * k + 1)).getD n 0 = h.getD n 0) := Lib.hid (by rw [swapL_last h2 (n := n) (by omega) (by omega) (by rw [HL.out]; omega)]; exact HLA.out)
          clear h1 h3 hm3 HHZ HKZ HS2 HP HLA hbq
          go_wp2_with fail
          go_roundw
          case rel => exact ⟨2 * k + 1, _, by first | rfl | go_num | (rw [HC1.out]), by omega, HD2.out, HPM.out, HLS3.out, HN1.out, HN2.out⟩
          case measure => simp [intOf]; omega
        · rw [show decide (h2.getD (2 * k + 1) 0 < h2.getD k 0) = false from decide_eq_false hlt2] at HLS2
          have HL3 := Lib.hid HLS2
          have HF : Hid (∀ q b, DownPost f base hb n h w (.returned (.bool b)) (wq.drewN q)) := fun q b => ⟨⟨_, rfl⟩, _, h2, H2.drewN q, HDD.out.stop HJM.out hlt2, HP.out, HLA.out, hK2.trans (HKeep.drewN _ _ q)⟩
          clear HLS2 hlt2 H2 hK2
          go_wp2_with fail
          refine HL3.out.mono ?_; rintro e w3 ⟨rfl, q2, rfl⟩
          have HF2 := Lib.hid (HF.out q2)
          generalize wq.drewN q2 = wz at *
          clear hm2 HL3 HF
          go_wp2_with fail
          all_goals
            go_ret
            exact HF2.out _
def HPopPost (f base hb : Nat) (h : List Nat) (w : World) (e : Ending) (w' : World) : Prop := ∃ m, e = .returned (.iface 3 (.int .i64 (m : Nat))) ∧ (∀ x ∈ h, m ≤ x) ∧ ∃ sl h2, HeapAt f w' base hb sl h2 ∧ Heap h2 h2.length ∧ (m :: h2).Perm h ∧ HKeep f base w w'
end Go.Proofs.YtmnhnighlgpjmaaGreat

namespace Go.Proofs.YtmnhnighlgpjmaaGreat
set_option linter.unusedVariables false
set_option linter.unusedSimpArgs false
open Go.RowKit

theorem swapL_same (h : List Nat) (i : Nat) (hi : i < h.length) : swapL h i i = h := by
  unfold swapL
  rw [List.set_set]
  apply List.ext_getElem
  · simp
  · intro k h1 h2
    rw [List.getElem_set]
    split
    · rename_i e; subst e; simp [List.getD_eq_getElem?_getD, hi]
    · rfl
set_option maxHeartbeats 4000000 in
theorem swapSame {w : World} {base cap n : Nat} {A : Option Addr} {h : List Nat} (ho : OwnI w base (.slice A n cap) (zi h)) (i : Nat) (hi : i < h.length) (hl : h.length ≤ 100000) :
    Calls Tryz.prog 125 #[.slice A n cap, .int .i64 i, .int .i64 i] w fun e w' => e = .returned (.tuple #[]) ∧ OwnI w' base (.slice A n cap) (zi (swapL h i i)) ∧ w.grownBy w' (Value.slice A n cap).ownBlock := by
  have hn : n = h.length := by
    obtain ⟨A2, c2, e⟩ := own_slice ho
    injection e with _ e _; rw [zi_length] at e; exact e
  obtain ⟨g, rfl, c1⟩ := own_rd ho i (by rw [zi_length]; exact hi)
  have z1 : (zi h)[i]'(by rw [zi_length]; exact hi) = ((h.getD i 0 : Nat) : Int) := by simp [zi, List.getD_eq_getElem?_getD, hi]
  rw [z1] at c1
  have HS : Hid (OwnI ((w.setCell ⟨g, i, none⟩ (.int .i64 (h.getD i 0 : Nat))).setCell ⟨g, i, none⟩ (.int .i64 (h.getD i 0 : Nat))) base (.slice (some ⟨g, 0, none⟩) n cap) (zi (swapL h i i))) := Lib.hid (by
    have h1 := (ho.store i (by rw [zi_length]; exact hi) (h.getD i 0 : Nat)).store i (by rw [List.length_set, zi_length]; exact hi) (h.getD i 0 : Nat)
    have e : zi (swapL h i i) = ((zi h).set i ((h.getD i 0 : Nat) : Int)).set i ((h.getD i 0 : Nat) : Int) := by unfold swapL; rw [zi_set, zi_set]
    rw [e]; exact h1)
  have fi : w.frozen? ⟨g, i, none⟩ = false := own_free (by have := ho; unfold OwnI at this; rw [zi_length, ← hn] at this; exact this) i
  obtain ⟨a, ha⟩ : ∃ a, h.getD i 0 = a := ⟨_, rfl⟩
  rw [ha] at c1 HS
  have hi0 : (0 : Int) ≤ i := by omega
  have hin : (i : Int) < n := by omega
  clear ha z1 ho hn hi
  go_enter Tryz.func125, Tryz.ntmps125
  go_wp2_with fail
  go_region
  all_goals
    go_wp2_with fail
    go_end0
    refine ⟨rfl, ?_, ?_⟩
    · first
        | exact HS.out
        | (have h := HS.out; exact ⟨h.1, h.2⟩)
    · first
        | exact (grown_set w g i _).trans (grown_set _ g i _)
        | (have h := (grown_set w g i (.int .i64 (a : Int))).trans (grown_set _ g i (.int .i64 (a : Int))); exact ⟨h.os, h.tape, h.output, h.size, h.block⟩)
theorem swapAny {w : World} {base cap n : Nat} {A : Option Addr} {h : List Nat} (ho : OwnI w base (.slice A n cap) (zi h)) (i j : Nat) (hi : i < h.length) (hj : j < h.length) (hl : h.length ≤ 100000) :
    Calls Tryz.prog 125 #[.slice A n cap, .int .i64 i, .int .i64 j] w fun e w' => e = .returned (.tuple #[]) ∧ OwnI w' base (.slice A n cap) (zi (swapL h i j)) ∧ w.grownBy w' (Value.slice A n cap).ownBlock := by
  by_cases e : i = j
  · subst e; exact swapSame ho i hi hl
  · exact swapP ho i j hi hj e hl
set_option maxRecDepth 100000 in
set_option maxHeartbeats 4000000 in
theorem heapPopP {w : World} {f base hb : Nat} {sl : Value} {h : List Nat} (H : HeapAt f w base hb sl h) (hH : Heap h h.length) (h0 : 0 < h.length) (hbase : base ≤ w.heap.size) (hl : h.length ≤ 10000) :
    Calls Tryz.prog 44 #[.iface 64 (.pointer (some ⟨hb, 0, none⟩))] w (HPopPost f base hb h w) := by
  obtain ⟨m, hm⟩ : ∃ m, h.length = m + 1 := ⟨h.length - 1, by omega⟩
  obtain ⟨A, cap, hsl⟩ := own_slice H.own
  rw [zi_length, hm] at hsl
  subst hsl
  have hml : m ≤ 10000 := by omega
  have hm1 := m_len H.bx
  have hm2 := m_swap H.bx
  have HS := Lib.hid (swapAny H.own 0 m (by omega) (by omega) (by omega))
  have HD := Lib.hid (DownOk.start (n := m) (by rw [hm] at hH; exact hH) hm)
  have HMIN : Hid (∀ x ∈ h, h.getD 0 0 ≤ x) := Lib.hid (fun x hx => by
    obtain ⟨k, hk, rfl⟩ := List.getElem_of_mem hx
    have := hH.min k hk
    have e : h.getD k 0 = h[k] := by rw [List.getD_eq_getElem?_getD, List.getElem?_eq_getElem hk]; rfl
    rw [e] at this; exact this)
  have HG : Hid ((swapL h 0 m).getD m 0 = h.getD 0 0) := Lib.hid (by rw [swapL_get h (by omega) (by omega), if_pos rfl])
  have HP := Lib.hid (swapL_perm h (i := 0) (j := m) (by omega) (by omega))
  have HL := Lib.hid hm
  have HH := Lib.hid H
  have w1 : IntKind.i64.wrap ((m : Int) + 1 - 1) = m := by rw [IntWalk.i64_in _ (by omega)]; omega
  have w2 : (m : Int) + 1 - 1 = m := by omega
  have w3 : IntKind.i64.wrap (m : Int) = m := IntWalk.i64_in _ (by omega)
  clear H hH h0 hm hl
  go_enter Tryz.func44, Tryz.ntmps44
  go_wp2_with fail
  refine (lenP _ _ _ _).mono ?_; rintro e w4 ⟨rfl, rfl⟩
  go_wp2_with fail
  refine HS.out.mono ?_; rintro e w4 ⟨rfl, h1, h3⟩
  have H2 := HH.out.row h3 h1
  have hK2 := HKeep.row HH.out hbase h3
  have HDN := Lib.hid (downP H2 (Nat.le_trans hbase hK2.below.size) (by rw [swapL_length]; exact HL.out) HD.out hml)
  have HK2 := Lib.hid hK2
  clear hm1 hm2 HS HD H2 hK2 h1 h3 HH
  go_wp2_with fail
  refine HDN.out.mono ?_; rintro e w5 ⟨⟨b, rfl⟩, sl5, h5, H5, hh5, hp5, hg5, hK5⟩
  have hl5 : h5.length = m + 1 := by rw [hp5.length_eq, swapL_length]; exact HL.out
  have hsp := split_last hl5
  obtain ⟨t, ht⟩ : ∃ t, h5.take m = t := ⟨_, rfl⟩
  have hx : h5.getD m 0 = h.getD 0 0 := by rw [hg5]; exact HG.out
  have htk := heap_take hh5 hl5
  rw [ht] at hsp htk
  rw [hx] at hsp
  obtain ⟨x, hxx⟩ : ∃ x, h.getD 0 0 = x := ⟨_, rfl⟩
  rw [hxx] at hsp
  rw [hsp] at H5 hp5
  have htl : t.length ≤ 100000 := by rw [← ht, List.length_take]; omega
  have hm6 := m_pop ⟨hb, 0, none⟩ w5
  have HPP := Lib.hid (popP H5 htl)
  have HFP : Hid ((x :: t).Perm h) := Lib.hid ((List.perm_append_singleton x t).symm.trans (hp5.trans HP.out))
  have HTK := Lib.hid htk
  have HM : Hid (∀ y ∈ h, x ≤ y) := Lib.hid (by rw [← hxx]; exact HMIN.out)
  have HK5 := Lib.hid (HK2.out.trans hK5)
  clear HDN H5 hh5 hp5 hg5 hK5 hl5 hsp ht hx htk hxx htl HK2 HG HP HMIN
  go_wp2_with fail
  refine HPP.out.mono ?_; rintro e w6 ⟨rfl, sl6, h6, hK6⟩
  have HF : Hid (HPopPost f base hb h w (.returned (.iface 3 (.int .i64 (x : Nat)))) w6) := ⟨x, rfl, HM.out, sl6, t, h6, HTK.out, HFP.out, HK5.out.trans hK6⟩
  clear h6 hK6 HPP
  go_wp2_with fail
  go_ret
  exact HF.out
end Go.Proofs.YtmnhnighlgpjmaaGreat
