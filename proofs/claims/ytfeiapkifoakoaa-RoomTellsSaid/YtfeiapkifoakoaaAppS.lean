/-
  append of a slice of spans to a row of the call's own, at a step of a region.
-/
import Derived.Test.YtfeiapkifoakoaaPush
namespace Go.Proofs.Ytfeiapkifoakoaa
set_option linter.unusedVariables false
set_option linter.unusedSimpArgs false
open Go.RowKit

theorem run_apps (w : World) (ty : TypeId) (base B : Nat) (v u : Value) (L q : List Sp) (hv : Own w base v L) (hu : SRow w B u q) (hl : L.length + q.length ≤ 900) (hb : base ≤ w.heap.size) :
    ∃ v' w', (Builtin.append_ #[22, 22] ty #[v, u]).run Try.prog w = .ok v' w' ∧ Own w' base v' (L ++ q) ∧ w.grownBy w' v.ownBlock ∧ ∀ g, v'.ownBlock = some g → v.ownBlock = some g ∨ g = w.heap.size := by
  obtain ⟨i0, hi, hz0, hz1, hz2⟩ := info_parts infoSp
  obtain ⟨⟨hwf, hcp⟩, hlm, A, cap, rfl, hA⟩ := hu
  obtain ⟨k1, k2, k3⟩ := hcp _ _ _ rfl
  rcases A with _ | ad
  · have hc := k3 rfl
    have h0 : q.length = 0 := by omega
    obtain rfl : q = [] := List.eq_nil_of_length_eq_zero h0
    have hu := run_underlying (P := Try.prog) Try.underlying22
    have hvs : ∃ A n cap, v = .slice A n cap ∧ n ≤ cap := by
      rcases hv.form with ⟨rfl, rfl⟩ | ⟨g, cap, cur, rfl, _, _, h1, _⟩
      · exact ⟨none, 0, 0, rfl, Nat.le_refl _⟩
      · exact ⟨_, _, _, rfl, h1⟩
    obtain ⟨A, n, cp, rfl, hnc⟩ := hvs
    refine ⟨.slice A n cp, w, ?_, by rw [List.append_nil]; exact hv, ⟨rfl, rfl, rfl, Nat.le_refl _, fun _ _ _ => rfl⟩, fun g hg => .inl hg⟩
    cases A <;> simp [Builtin.append_, hu, Builtin.lenOf, Builtin.firstCells, sizeOf, typeInfo, hi, storeCells, hnc]
  · have hnews : ∀ j u, (sc q)[j]? = some u → w.cell? (ad.add j) = some u := by
      rcases Nat.eq_zero_or_pos q.length with h | h
      · obtain rfl : q = [] := List.eq_nil_of_length_eq_zero h
        intro j u hu; simp [sc] at hu
      · obtain ⟨b, off, h1, _, h2⟩ := hA h
        injection h1 with h1
        subst h1
        exact sc_cells h2
    obtain ⟨v', w', hr, h2, h3, _, h5⟩ := run_append_own_at (P := Try.prog) w base 22 ty 24 i0 (.agg #[.int .i64 0, .int .i64 0]) 2 16 Try.underlying22 hi hz0 hz1 hz2 rfl (by decide) v L.length (sc L) hv.row ad q.length cap (sc q) (by rw [sc_length]; omega) hnews (sc_one _) (by unfold maxLen; omega) (by omega) hb
    refine ⟨v', w', hr, ⟨?_, fun s hs => ?_, by simp; omega⟩, h3, fun g hg => ?_⟩
    · rw [sc_append, List.length_append]; exact h2
    · rcases List.mem_append.1 hs with h | h
      · exact hv.wf s h
      · exact hwf s h
    · rcases h5 with h5 | h5
      · exact .inl (by rw [← h5]; exact hg)
      · right
        rw [h5] at hg
        simpa [Value.ownBlock] using hg.symm
theorem step_apps {ops : Array Oper} {o : Oper} {a : Act} {w : World} {K : Act → World → Prop} {Q : Exit → Act → World → Prop} {E : Prop} (hgd : o.guard = none) (d s : Operand)
    (ho : o.op = .call { callee := .builtin .append, args := #[d, s], argTypes := #[22, 22] }) (base B : Nat) (v u : Value) (L q : List Sp) (hd : a.eval d = v) (hs : a.eval s = u)
    (hv : Own w base v L) (hu : SRow w B u q) (hl : L.length + q.length ≤ 900) (hb : base ≤ w.heap.size)
    (h : ∀ v' w', Hid (Own w' base v' (L ++ q)) → Hid (w.grownBy w' v.ownBlock) → Hid (Below base w w') → K (a.put o.dst v') w') :
    if Region.wanted o (yielded ops a.tmps) = true then Oper.wp Try.prog o a w K Q else E := by
  have hw' : Region.wanted o (yielded ops a.tmps) = true := by simp [Region.wanted, hgd]
  rw [if_pos hw']
  obtain ⟨v', w', hr, h2, h3, h4⟩ := run_apps w o.type base B v u L q hv hu hl hb
  unfold Oper.wp execOp
  simp only [ho, resolve, invoke, builtin, Sem.run_bind, Sem.run_pure, Result.andThen_ok, List.map_toArray, List.map_cons, List.map_nil, hd, hs, hr]
  exact h v' w' h2 h3 (below_own h3 hv (Nat.le_refl _) hb)
theorem own_empty (w : World) (base : Nat) (hb : base ≤ w.heap.size) : Own (w.alloc (.cells #[] 24)) base (.slice (some ⟨w.heap.size, 0, none⟩) 0 0) [] :=
  ⟨World.ownsRow_made w #[] 0 hb (by decide) rfl, fun s h => by simp at h, by simp⟩
theorem srow_grown {w w' : World} {row : Option Nat} {g n c : Nat} {q : List Sp} {B : Nat} (h : SRow w B (.slice (some ⟨g, 0, none⟩) n c) q) (hg : w.grownBy w' row) (hB : B ≤ w.heap.size) (hne : row ≠ some g) : SRow w' w'.heap.size (.slice (some ⟨g, 0, none⟩) n c) q := by
  obtain ⟨hw, hl, A, cap, hv, hA⟩ := h
  refine ⟨hw, hl, A, cap, hv, fun h0 => ?_⟩
  obtain ⟨b, off, ha, hb, hc⟩ := hA h0
  injection hv with h1 _ _
  rw [ha] at h1
  injection h1 with h1
  injection h1 with h1 h2 _
  subst h1
  exact ⟨g, off, ha, Nat.lt_of_lt_of_le hb (Nat.le_trans hB hg.size), fun i hi => ⟨hg.cell (hc i hi).1 (fun e => hne e.symm), hg.cell (hc i hi).2 (fun e => hne e.symm)⟩⟩
theorem srow_two (w : World) (s : Sp) (hs : s.wf) (o : Obj) : SRow ((w.alloc (.cells #[.int .i64 s.p, .int .i64 s.n] 24)).alloc o) ((w.alloc (.cells #[.int .i64 s.p, .int .i64 s.n] 24)).alloc o).heap.size (.slice (some ⟨w.heap.size, 0, none⟩) 1 1) [s] :=
  (srow_lit w 24 [s] (fun x hx => by rw [List.mem_singleton.1 hx]; exact hs) (by simp)).keep (below_new _ o)
end Go.Proofs.Ytfeiapkifoakoaa
