/-
  A row of bytes that the call owns, also one that '[]byte(s)' made (its block bears a mark behind its last cell): append of one byte, and what it reads as.
-/
import Derived.Test.YtcekmedfphmpcaaDoorBase
import Derived.Laws.IdiomStrings
namespace Go.Proofs.YtcekmedfphmpcaaDoor
set_option linter.unusedVariables false
set_option linter.unusedSimpArgs false
open Go.RowKit

def OwnB (w : World) (base : Nat) (v : Value) (l : List UInt8) : Prop :=
  (v = .slice none 0 0 ∧ l = []) ∨
  ∃ g cap cur fz, v = .slice (some ⟨g, 0, none⟩) l.length cap ∧ base ≤ g ∧ w.heap[g]? = some (.cells cur 5 fz) ∧ (fz = (0, 0) ∨ cur.size ≤ fz.1) ∧ l.length ≤ cap ∧ cap ≤ maxLen ∧ cur.size = cap ∧ cur.toList.take l.length = cl l

theorem OwnB.lt {w : World} {base : Nat} {v : Value} {l : List UInt8} (h : OwnB w base v l) : ∀ k, v.ownBlock = some k → base ≤ k ∧ k < w.heap.size := by
  intro k hk
  rcases h with ⟨rfl, _⟩ | ⟨g, cap, cur, fz, rfl, hb, hg, _⟩
  · simp [Value.ownBlock] at hk
  · simp [Value.ownBlock] at hk
    subst hk
    exact ⟨hb, (Array.getElem?_eq_some_iff.1 hg).1⟩
theorem OwnB.kept {w w' : World} {base : Nat} {v : Value} {l : List UInt8} {row : Option Nat} (h : OwnB w base v l) (hg : w.grownBy w' row) (hne : v.ownBlock = none ∨ v.ownBlock ≠ row) : OwnB w' base v l := by
  rcases h with h | ⟨g, cap, cur, fz, rfl, hb, hh, r⟩
  · exact .inl h
  · refine .inr ⟨g, cap, cur, fz, rfl, hb, ?_, r⟩
    rw [hg.block g (Array.getElem?_eq_some_iff.1 hh).1 (by simpa [Value.ownBlock] using hne)]
    exact hh
theorem OwnB.below {w w' : World} {base B : Nat} {v : Value} {l : List UInt8} (h : OwnB w base v l) (hb : Below B w w') (hB : ∀ k, v.ownBlock = some k → k < B) : OwnB w' base v l := by
  rcases h with h | ⟨g, cap, cur, fz, rfl, hbg, hh, r⟩
  · exact .inl h
  · exact .inr ⟨g, cap, cur, fz, rfl, hbg, (hb.block g (hB g rfl)).trans hh, r⟩
theorem OwnB.row {w : World} {base : Nat} {v : Value} {l : List UInt8} (h : OwnB w base v l) : Row w w.heap.size v (cl l) := by
  rcases h with ⟨rfl, rfl⟩ | ⟨g, cap, cur, fz, rfl, hb, hg, _, hlc, _, hcs, htake⟩
  · exact ⟨none, 0, rfl, fun h => by simp [cl] at h⟩
  · refine ⟨some ⟨g, 0, none⟩, cap, by rw [cl_length], fun h0 => ⟨g, 0, rfl, (Array.getElem?_eq_some_iff.1 hg).1, fun k hk => ?_⟩⟩
    rw [cl_length] at hk
    rw [Nat.zero_add, cell_of_row w g k cur _ fz hg, ← htake, List.getElem?_take, if_pos hk]
    simp
theorem OwnB.of_own {w : World} {base : Nat} {v : Value} {l : List UInt8} (h : w.ownsRow base 5 1 v l.length (cl l)) : OwnB w base v l := by
  rcases h.2 with ⟨rfl, h0⟩ | ⟨g, cap, cur, rfl, hb, hg, hn, hm, hc, ht⟩
  · exact .inl ⟨rfl, List.eq_nil_of_length_eq_zero h0⟩
  · exact .inr ⟨g, cap, cur, (0, 0), rfl, hb, hg, .inl rfl, hn, hm, by simpa using hc, by simpa using ht⟩

/-- '[]byte(s)'. -/
theorem conv_bytes (w : World) (l : List UInt8) (hl : l.length ≤ maxLen) : ∃ v w', (convert 9 30 (.string (bs l))).run Tryd.prog w = .ok v w' ∧ OwnB w' w.heap.size v l ∧ Below w.heap.size w w' := by
  have h := run_bytes_of_string (P := Tryd.prog) w 9 30 5 (bs l) Tryd.underlying9 Tryd.underlying30 Tryd.underlying5
  refine ⟨_, _, h, .inr ⟨w.heap.size, _, _, _, by rw [bs_size], Nat.le_refl _, heap_alloc_new w.drew _, .inr (Nat.le_refl _), ?_, ?_, ?_, ?_⟩, (Below.refl _ _).drew.alloc (Nat.le_refl _) _⟩
  · have := grownCap_ge w (bs l).size 0 5
    rw [bs_size] at this; exact this
  · exact grownCap_le_maxLen w _ 0 _ hl
  · have := grownCap_ge w (bs l).size 0 5
    simp [bytesRow, bs]
    rw [bs_size] at this
    simp [ByteArray.size] at this ⊢
    omega
  · simp [bytesRow, bs, cl]
/-- Append of one byte. -/
theorem run_append1 (w : World) (base : Nat) (v : Value) (l : List UInt8) (h : OwnB w base v l) (a : Addr) (c : Nat) (u : UInt8) (hu : w.cell? a = some (.int .u8 u.toNat)) (hl : l.length ≤ 1000000) (hbase : base ≤ w.heap.size) :
    ∃ v' w', (Builtin.append_ #[30, 30] 30 #[v, .slice (some a) 1 c]).run Tryd.prog w = .ok v' w' ∧ OwnB w' base v' (l ++ [u]) ∧ w.grownBy w' v.ownBlock := by
  obtain ⟨i0, hi0, hz0, hz1, hz2⟩ := info_parts info5
  have hnews : ∀ j x, [Value.int .u8 u.toNat][j]? = some x → w.cell? (a.add j) = some x := fun j x hx => by
    rcases j with _ | j
    · simp at hx; subst hx; simpa [Addr.add] using hu
    · simp at hx
  by_cases hown : w.ownsRow base 5 1 v l.length (cl l)
  · obtain ⟨v', w', hr, ho, hg, _⟩ := run_append_own (P := Tryd.prog) w base 30 30 5 i0 (.int .u8 0) 1 1 Tryd.underlying30 hi0 hz0 hz1 hz2 rfl (by omega) v l.length (cl l) hown a 1 c [.int .u8 u.toNat] rfl hnews
      (fun x hx => by simp at hx; subst hx; rfl) (by unfold maxLen; omega) (by omega) hbase
    refine ⟨v', w', hr, OwnB.of_own ?_, hg⟩
    rw [List.length_append, cl_append]; exact ho
  · rcases h with ⟨rfl, rfl⟩ | ⟨g, cap, cur, fz, rfl, hb, hg, hfz, hlc, hcm, hcs, htake⟩
    · exact absurd (World.ownsRow_nil w base _ 1) hown
    · by_cases hroom : l.length + 1 ≤ cap
      · have hi : l.length < cur.size := by omega
        have hcell : w.cell? ⟨g, l.length, none⟩ = some cur[l.length] := by simp [World.cell?, hg, hi]
        have hfro : w.frozen? ⟨g, l.length, none⟩ = false := by
          simp only [World.frozen?, hg]
          rcases hfz with rfl | h2
          · simp
          · simp; omega
        have hst : (store (⟨g, l.length, none⟩ : Addr) (.int .u8 u.toNat)).run Tryd.prog w = .ok () (w.setRow g (cur.setIfInBounds l.length (.int .u8 u.toNat))) := by
          rw [run_store Tryd.prog w _ _ _ rfl, hcell]
          simp [hfro, setCell_eq_setRow w g l.length cur _ fz _ hg]
        have hf := run_firstCells_some (P := Tryd.prog) w 1 1 a 1 c [.int .u8 u.toNat] rfl hnews
        have hadd : (⟨g, 0, none⟩ : Addr).add l.length = ⟨g, l.length, none⟩ := by unfold Addr.add; split <;> simp_all
        refine ⟨.slice (some ⟨g, 0, none⟩) (l.length + 1) cap, w.setRow g (cur.setIfInBounds l.length (.int .u8 u.toNat)), ?_, .inr ⟨g, cap, _, fz, by simp, hb, setRow_heap w g cur _ _ fz hg, ?_, by simpa using hroom, hcm, by simpa using hcs, ?_⟩, ⟨rfl, rfl, rfl, by simp, fun k _ hk => setRow_other w g k _ (fun e => hk (by simp [Value.ownBlock, e]))⟩⟩
        · simp [Builtin.append_, run_underlying Tryd.underlying30, sizeOf, typeInfo, hi0, hz1, Builtin.lenOf, hroom, hf, storeCells, Addr.add_lit, hst]
        · rcases hfz with h2 | h2
          · exact .inl h2
          · exact .inr (by simpa using h2)
        · rw [List.length_append, cl_append, Array.toList_setIfInBounds]
          have : cur.toList.length = cap := by simpa using hcs
          rw [show l.length + [u].length = l.length + 1 from rfl, List.take_succ_eq_append_getElem (by simp; omega), List.take_set_of_le (Nat.le_refl _), htake]
          simp [cl]
      · have holds : ∀ j x, (cl l)[j]? = some x → w.cell? ((⟨g, 0, none⟩ : Addr).add j) = some x := fun j x hx => by
          have hadd : (⟨g, 0, none⟩ : Addr).add j = ⟨g, j, none⟩ := by unfold Addr.add; split <;> simp_all
          rw [hadd, cell_of_row w g j cur _ fz hg]
          rw [← htake, List.getElem?_take] at hx
          split at hx
          · simpa using hx
          · cases hx
        have hr := run_append_grow (P := Tryd.prog) w 30 30 5 i0 (.int .u8 0) Tryd.underlying30 hi0 hz0 ⟨g, 0, none⟩ l.length cap (cl l) (by rw [cl_length, hz1]; omega) holds a 1 c [.int .u8 u.toNat] (by rw [hz1]; rfl) hnews (by omega) (by omega) (by rw [hz2]; exact growslice_fits (by omega) (by omega))
        refine ⟨_, _, hr, .inr ⟨w.heap.size, grownCap w (l.length + 1) cap 5, _, (0, 0), by simp, hbase, heap_alloc_new w.drew _, .inl rfl, ?_, ?_, ?_, ?_⟩, ⟨rfl, rfl, rfl, by simp, fun k hk _ => heap_alloc_old w.drew _ hk⟩⟩
        · have := grownCap_ge w (l.length + 1) cap 5
          simpa using this
        · exact grownCap_le_maxLen w _ _ _ (by unfold maxLen; omega)
        · have := grownCap_ge w (l.length + 1) cap 5
          have hz : (Value.int IntKind.u8 0).cells.size = 1 := rfl
          simp only [Array.size_append, List.size_toArray, size_zeroCells, hz, cl_length, List.length_singleton]
          omega
        · simp only [Array.toList_append, List.append_assoc, cl_append, List.length_append]
          rw [← List.append_assoc]
          have e : l.length + [u].length = (cl l ++ cl [u]).length := by simp [cl]
          rw [e]
          exact List.take_left

theorem wpList_append1 {ops : Array Oper} {rest : List Oper} {o : Oper} {a : Act} {w : World} {Q : Exit → Act → World → Prop} (hgd : o.guard = none) (sl x : Operand)
    (ho : o.op = .call { callee := .builtin .append, args := #[sl, x], argTypes := #[30, 30] }) (hty : o.type = 30)
    (base : Nat) (v : Value) (l : List UInt8) (hs : a.eval sl = v) (hown : OwnB w base v l) (ad : Addr) (c : Nat) (u : UInt8) (hx : a.eval x = .slice (some ad) 1 c) (hu : w.cell? ad = some (.int .u8 u.toNat)) (hl : l.length ≤ 1000000) (hbase : base ≤ w.heap.size)
    (h : ∀ v' w', OwnB w' base v' (l ++ [u]) → w.grownBy w' v.ownBlock → wpList Tryd.prog ops Q rest (a.put o.dst v') w') : wpList Tryd.prog ops Q (o :: rest) a w := by
  refine wpList_plain hgd fun K hK => ?_
  obtain ⟨v', w', hr, h2, h3⟩ := run_append1 w base v l hown ad c u hu hl hbase
  rw [← hty] at hr
  unfold Oper.wp execOp
  simp only [ho, resolve, invoke, builtin, Sem.run_bind, Sem.run_pure, Result.andThen_ok, List.map_toArray, List.map_cons, List.map_nil, hs, hx]
  rw [hty] at hr ⊢
  simp only [hr]
  exact hK _ _ (h v' w' h2 h3)
end Go.Proofs.YtcekmedfphmpcaaDoor
