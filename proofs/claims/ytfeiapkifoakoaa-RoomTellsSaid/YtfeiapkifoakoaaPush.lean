/-
  append of one span to a row that the call owns.
-/
import Derived.Test.YtfeiapkifoakoaaRep5
namespace Go.Proofs.Ytfeiapkifoakoaa
set_option linter.unusedVariables false
set_option linter.unusedSimpArgs false
open Go.RowKit

theorem run_push_sp (w : World) (ty : TypeId) (base : Nat) (v : Value) (l : List Sp) (G : Nat) (p n : Int) (hv : Own w base v l) (hG : Cells w G [.int .i64 p, .int .i64 n]) (hl : l.length ≤ 900) (hw : Sp.wf ⟨p, n⟩) (hb : base ≤ w.heap.size) :
    ∃ v' w', (Builtin.append_ #[22, 22] ty #[v, .slice (some ⟨G, 0, none⟩) 1 1]).run Try.prog w = .ok v' w' ∧ Own w' base v' (l ++ [⟨p, n⟩]) ∧ w.grownBy w' v.ownBlock ∧ ∀ g, v'.ownBlock = some g → v.ownBlock = some g ∨ g = w.heap.size := by
  obtain ⟨i0, hi, hz0, hz1, hz2⟩ := info_parts infoSp
  have hnews : ∀ j u, (sc [⟨p, n⟩])[j]? = some u → w.cell? ((⟨G, 0, none⟩ : Addr).add j) = some u := fun j u hj => by
    rw [Addr.add_lit, hG.cell, Nat.zero_add]; exact hj
  obtain ⟨v', w', hr, h2, h3, _, h5⟩ := run_append_own_at (P := Try.prog) w base 22 ty 24 i0 (.agg #[.int .i64 0, .int .i64 0]) 2 16 Try.underlying22 hi hz0 hz1 hz2 rfl (by decide) v l.length (sc l) hv.row ⟨G, 0, none⟩ 1 1 (sc [⟨p, n⟩]) rfl hnews (sc_one _) (by unfold maxLen; omega) (by omega) hb
  refine ⟨v', w', hr, ⟨?_, fun s hs => ?_, by simp; omega⟩, h3, fun g hg => ?_⟩
  · rw [sc_append, List.length_append]; exact h2
  · rcases List.mem_append.1 hs with h | h
    · exact hv.wf s h
    · rw [List.mem_singleton.1 h]; exact hw
  · rcases h5 with h5 | h5
    · exact .inl (by rw [← h5]; exact hg)
    · right
      rw [h5] at hg
      simpa [Value.ownBlock] using hg.symm
theorem wp_push_sp (w : World) {o : Oper} {a : Act} {K : Act → World → Prop} {Q : Exit → Act → World → Prop} (d s : Operand)
    (ho : o.op = .call { callee := .builtin .append, args := #[d, s], argTypes := #[22, 22] }) (base : Nat) (v : Value) (l : List Sp) (G : Nat) (p n : Int) (hd : a.eval d = v) (hs : a.eval s = .slice (some ⟨G, 0, none⟩) 1 1)
    (hv : Own w base v l) (hG : Cells w G [.int .i64 p, .int .i64 n]) (hl : l.length ≤ 900) (hw : Sp.wf ⟨p, n⟩) (hb : base ≤ w.heap.size)
    (h : ∀ v' w', Hid (Own w' base v' (l ++ [⟨p, n⟩])) → Hid (w.grownBy w' v.ownBlock) → Hid (∀ g, v'.ownBlock = some g → v.ownBlock = some g ∨ g = w.heap.size) → K (a.put o.dst v') w') : o.wp Try.prog a w K Q := by
  obtain ⟨v', w', hr, h2, h3, h4⟩ := run_push_sp w o.type base v l G p n hv hG hl hw hb
  unfold Oper.wp execOp
  simp only [ho, resolve, invoke, builtin, Sem.run_bind, Sem.run_pure, Result.andThen_ok, List.map_toArray, List.map_cons, List.map_nil, hd, hs, hr]
  exact h v' w' h2 h3 h4
theorem wpList_push_sp (w : World) {ops : Array Oper} {rest : List Oper} {o : Oper} {a : Act} {Q : Exit → Act → World → Prop} (hgd : o.guard = none) (d s : Operand)
    (ho : o.op = .call { callee := .builtin .append, args := #[d, s], argTypes := #[22, 22] }) (base : Nat) (v : Value) (l : List Sp) (G : Nat) (p n : Int) (hd : a.eval d = v) (hs : a.eval s = .slice (some ⟨G, 0, none⟩) 1 1)
    (hv : Own w base v l) (hG : Cells w G [.int .i64 p, .int .i64 n]) (hl : l.length ≤ 900) (hw : Sp.wf ⟨p, n⟩) (hb : base ≤ w.heap.size)
    (h : ∀ v' w', Hid (Own w' base v' (l ++ [⟨p, n⟩])) → Hid (w.grownBy w' v.ownBlock) → Hid (∀ g, v'.ownBlock = some g → v.ownBlock = some g ∨ g = w.heap.size) → wpList Try.prog ops Q rest (a.put o.dst v') w') : wpList Try.prog ops Q (o :: rest) a w :=
  wpList_plain hgd fun _ hK => wp_push_sp w d s ho base v l G p n hd hs hv hG hl hw hb fun v' w' h2 h3 h4 => hK _ _ (h v' w' h2 h3 h4)
theorem step_push_sp {ops : Array Oper} {o : Oper} {a : Act} {w : World} {K : Act → World → Prop} {Q : Exit → Act → World → Prop} {E : Prop} (hgd : o.guard = none) (d s : Operand)
    (ho : o.op = .call { callee := .builtin .append, args := #[d, s], argTypes := #[22, 22] }) (base : Nat) (v : Value) (l : List Sp) (G : Nat) (p n : Int) (hd : a.eval d = v) (hs : a.eval s = .slice (some ⟨G, 0, none⟩) 1 1)
    (hv : Own w base v l) (hG : Cells w G [.int .i64 p, .int .i64 n]) (hl : l.length ≤ 900) (hw : Sp.wf ⟨p, n⟩) (hb : base ≤ w.heap.size)
    (h : ∀ v' w', Hid (Own w' base v' (l ++ [⟨p, n⟩])) → Hid (w.grownBy w' v.ownBlock) → Hid (∀ g, v'.ownBlock = some g → v.ownBlock = some g ∨ g = w.heap.size) → K (a.put o.dst v') w') :
    if Region.wanted o (yielded ops a.tmps) = true then Oper.wp Try.prog o a w K Q else E := by
  have hw' : Region.wanted o (yielded ops a.tmps) = true := by simp [Region.wanted, hgd]
  rw [if_pos hw']
  exact wp_push_sp w d s ho base v l G p n hd hs hv hG hl hw hb h
theorem cells_new (w : World) (p n : Int) : Cells (w.alloc (.cells #[.int .i64 p, .int .i64 n] 24)) w.heap.size [.int .i64 p, .int .i64 n] := heap_alloc_new w _
theorem grown_cell {w w' : World} {row : Option Nat} (h : w.grownBy w' row) {b o : Nat} {x : Value} (hc : w.cell? ⟨b, o, none⟩ = some x) (hne : ∀ g, row = some g → b ≠ g) : w'.cell? ⟨b, o, none⟩ = some x :=
  h.cell hc (by
    rcases row with _ | g
    · simp
    · intro e; injection e with e; exact hne g rfl e)
theorem below_own {w w' : World} {base B : Nat} {v : Value} {l : List Sp} (h : w.grownBy w' v.ownBlock) (hv : Own w base v l) (hB : B ≤ base) (hb : B ≤ w.heap.size) : Below B w w' :=
  (Below.refl B w).grown h hb (fun k hk => Nat.le_trans hB (hv.row.lt k hk).1)
end Go.Proofs.Ytfeiapkifoakoaa
