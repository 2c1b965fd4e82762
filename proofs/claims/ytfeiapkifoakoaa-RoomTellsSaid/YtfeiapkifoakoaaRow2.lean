/-
  copy, append (in place), clear on a row of spans that is known whole; overlaps of two blocks.
-/
import Derived.Test.YtfeiapkifoakoaaOwn2
import Derived.Lib.Overlaps
import Derived.Laws.Externs
namespace Go.Proofs.Ytfeiapkifoakoaa
set_option linter.unusedVariables false
set_option linter.unusedSimpArgs false
open Go.RowKit

theorem sizeSp : (Try.prog.info? 24).map (·.size) = some 2 := by kernel_rfl

/-- The block g holds the cells cur. -/
def Cells (w : World) (g : Nat) (cur : List Value) : Prop := w.heap[g]? = some (.cells cur.toArray 24 (0, 0))
theorem Cells.cell {w : World} {g : Nat} {cur : List Value} (h : Cells w g cur) (j : Nat) : w.cell? ⟨g, j, none⟩ = cur[j]? := by
  rw [cell_of_row _ _ _ _ _ _ h]; simp
theorem Cells.lt {w : World} {g : Nat} {cur : List Value} (h : Cells w g cur) : g < w.heap.size := (Array.getElem?_eq_some_iff.1 h).1
theorem Cells.grow {w w' : World} {g : Nat} {cur : List Value} {row : Option Nat} (h : Cells w g cur) (hg : w.grownBy w' row) (hne : some g ≠ row) : Cells w' g cur := (hg.block g h.lt hne).trans h
theorem setRow_grown (w : World) (g : Nat) (cs : Array Value) : w.grownBy (w.setRow g cs) (some g) :=
  ⟨rfl, rfl, rfl, by simp [World.setRow], fun k hk hne => setRow_other w g k cs (fun e => hne (by rw [e]))⟩
theorem getElem?_splice {L : List Value} {off : Nat} {cs : List Value} (hf : off + cs.length ≤ L.length) (k : Nat) : (splice L off cs)[k]? = if k < off then L[k]? else if k < off + cs.length then cs[k - off]? else L[k]? := by
  unfold splice
  by_cases h1 : k < off
  · rw [if_pos h1, List.getElem?_append_left (by simp; omega), List.getElem?_take, if_pos h1]
  · rw [if_neg h1, List.getElem?_append_right (by simp; omega), show k - (L.take off).length = k - off by simp; omega]
    by_cases h2 : k < off + cs.length
    · rw [if_pos h2, List.getElem?_append_left (by omega)]
    · rw [if_neg h2, List.getElem?_append_right (by omega), List.getElem?_drop]
      congr 1; omega

theorem run_copy_sp (w : World) (ty : TypeId) (dp sp : Option Addr) (dLen dCap sLen sCap g off : Nat) (cur cs : List Value) (hg : Cells w g cur) (hn : cs.length = Nat.min sLen dLen * 2)
    (hpos : 0 < cs.length → dp = some ⟨g, off, none⟩ ∧ ∃ ad, sp = some ad ∧ ∀ j v, cs[j]? = some v → w.cell? (ad.add j) = some v) (hfit : off + cs.length ≤ cur.length) (h1 : ∀ v ∈ cs, v.oneCell' = true) :
    ∃ w', (Builtin.copy_ #[22, 22] ty #[.slice dp dLen dCap, .slice sp sLen sCap]).run Try.prog w = .ok (goInt (Nat.min sLen dLen)) w' ∧ Cells w' g (splice cur off cs) ∧ w.grownBy w' (some g) := by
  obtain ⟨i, hq, _, hi, _⟩ := info_parts infoSp
  have hu := run_underlying (P := Try.prog) Try.underlying22
  by_cases h0 : cs.length = 0
  · obtain rfl : cs = [] := List.eq_nil_of_length_eq_zero h0
    have hm : Nat.min sLen dLen = 0 := by rw [List.length_nil] at hn; omega
    refine ⟨w, ?_, by unfold Cells at *; simpa [splice] using hg, ⟨rfl, rfl, rfl, Nat.le_refl _, fun _ _ _ => rfl⟩⟩
    have hl : ∀ (x : Addr), (loadCells x 0).run Try.prog w = .ok #[] w := fun x => by simpa using run_loadCells_list (P := Try.prog) w x [] (by simp)
    cases dp <;> cases sp <;> simp [Builtin.copy_, hu, Builtin.lenOf, Builtin.firstCells, sizeOf, typeInfo, hq, hm, storeCells, hl]
  · obtain ⟨rfl, ad, rfl, hsrc⟩ := hpos (by omega)
    have hl := run_loadCells_list (P := Try.prog) w ad cs hsrc
    have hst := run_storeCells_at (P := Try.prog) g off 24 cs 0 cur.toArray w hg (by simpa using hfit) h1
    refine ⟨_, ?_, ?_, setRow_grown w g (splice cur off cs).toArray⟩
    · rw [hn] at hl
      simp only [Nat.add_zero] at hst
      simp [Builtin.copy_, hu, Builtin.lenOf, Builtin.firstCells, sizeOf, typeInfo, hq, hi, hl, hst, splice]
    · exact setRow_heap w g _ _ _ _ hg

theorem wp_copy_sp (w : World) {o : Oper} {a : Act} {K : Act → World → Prop} {Q : Exit → Act → World → Prop} (d s : Operand)
    (ho : o.op = .call { callee := .builtin .copy, args := #[d, s], argTypes := #[22, 22] }) (dp sp : Option Addr) (dLen dCap sLen sCap g off : Nat) (cur cs : List Value) (hg : Cells w g cur)
    (hd : a.eval d = .slice dp dLen dCap) (hs : a.eval s = .slice sp sLen sCap) (hn : cs.length = Nat.min sLen dLen * 2)
    (hpos : 0 < cs.length → dp = some ⟨g, off, none⟩ ∧ ∃ ad, sp = some ad ∧ ∀ j v, cs[j]? = some v → w.cell? (ad.add j) = some v) (hfit : off + cs.length ≤ cur.length) (h1 : ∀ v ∈ cs, v.oneCell' = true)
    (h : ∀ w', Hid (Cells w' g (splice cur off cs)) → w.grownBy w' (some g) → K (a.put o.dst (goInt (Nat.min sLen dLen))) w') : o.wp Try.prog a w K Q := by
  obtain ⟨w', hr, h2, h3⟩ := run_copy_sp w o.type dp sp dLen dCap sLen sCap g off cur cs hg hn hpos hfit h1
  unfold Oper.wp execOp
  simp only [ho, resolve, invoke, builtin, Sem.run_bind, Sem.run_pure, Result.andThen_ok, List.map_toArray, List.map_cons, List.map_nil, hd, hs, hr]
  exact h w' h2 h3
theorem wpList_copy_sp (w : World) {ops : Array Oper} {rest : List Oper} {o : Oper} {a : Act} {Q : Exit → Act → World → Prop} (hgd : o.guard = none) (d s : Operand)
    (ho : o.op = .call { callee := .builtin .copy, args := #[d, s], argTypes := #[22, 22] }) (dp sp : Option Addr) (dLen dCap sLen sCap g off : Nat) (cur cs : List Value) (hg : Cells w g cur)
    (hd : a.eval d = .slice dp dLen dCap) (hs : a.eval s = .slice sp sLen sCap) (hn : cs.length = Nat.min sLen dLen * 2)
    (hpos : 0 < cs.length → dp = some ⟨g, off, none⟩ ∧ ∃ ad, sp = some ad ∧ ∀ j v, cs[j]? = some v → w.cell? (ad.add j) = some v) (hfit : off + cs.length ≤ cur.length) (h1 : ∀ v ∈ cs, v.oneCell' = true)
    (h : ∀ w', Hid (Cells w' g (splice cur off cs)) → w.grownBy w' (some g) → wpList Try.prog ops Q rest (a.put o.dst (goInt (Nat.min sLen dLen))) w') : wpList Try.prog ops Q (o :: rest) a w :=
  wpList_plain hgd fun _ hK => wp_copy_sp w d s ho dp sp dLen dCap sLen sCap g off cur cs hg hd hs hn hpos hfit h1 fun w' h2 h3 => hK _ _ (h w' h2 h3)
theorem step_copy_sp {ops : Array Oper} {o : Oper} {a : Act} {w : World} {K : Act → World → Prop} {Q : Exit → Act → World → Prop} {E : Prop} (hgd : o.guard = none) (d s : Operand)
    (ho : o.op = .call { callee := .builtin .copy, args := #[d, s], argTypes := #[22, 22] }) (dp sp : Option Addr) (dLen dCap sLen sCap g off : Nat) (cur cs : List Value) (hg : Cells w g cur)
    (hd : a.eval d = .slice dp dLen dCap) (hs : a.eval s = .slice sp sLen sCap) (hn : cs.length = Nat.min sLen dLen * 2)
    (hpos : 0 < cs.length → dp = some ⟨g, off, none⟩ ∧ ∃ ad, sp = some ad ∧ ∀ j v, cs[j]? = some v → w.cell? (ad.add j) = some v) (hfit : off + cs.length ≤ cur.length) (h1 : ∀ v ∈ cs, v.oneCell' = true)
    (h : ∀ w', Hid (Cells w' g (splice cur off cs)) → w.grownBy w' (some g) → K (a.put o.dst (goInt (Nat.min sLen dLen))) w') :
    if Region.wanted o (yielded ops a.tmps) = true then Oper.wp Try.prog o a w K Q else E := by
  have hw : Region.wanted o (yielded ops a.tmps) = true := by simp [Region.wanted, hgd]
  rw [if_pos hw]
  exact wp_copy_sp w d s ho dp sp dLen dCap sLen sCap g off cur cs hg hd hs hn hpos hfit h1 h

/-- append where there is room: the spare cells of the row take what is appended; a nil source is let in where nothing is. -/
theorem run_append_sp (w : World) (ty : TypeId) (sp : Option Addr) (g n cap m c : Nat) (cur cs : List Value) (hg : Cells w g cur) (hn : cs.length = m * 2)
    (hpos : 0 < cs.length → ∃ ad, sp = some ad ∧ ∀ j v, cs[j]? = some v → w.cell? (ad.add j) = some v) (hroom : n + m ≤ cap) (hfit : n * 2 + cs.length ≤ cur.length) (h1 : ∀ v ∈ cs, v.oneCell' = true) :
    ∃ w', (Builtin.append_ #[22, 22] ty #[.slice (some ⟨g, 0, none⟩) n cap, .slice sp m c]).run Try.prog w = .ok (.slice (some ⟨g, 0, none⟩) (n + m) cap) w' ∧ Cells w' g (splice cur (n * 2) cs) ∧ w.grownBy w' (some g) := by
  obtain ⟨i, hq, _, hi, _⟩ := info_parts infoSp
  have hu := run_underlying (P := Try.prog) Try.underlying22
  by_cases h0 : cs.length = 0
  · obtain rfl : cs = [] := List.eq_nil_of_length_eq_zero h0
    obtain rfl : m = 0 := by simp at hn; omega
    refine ⟨w, ?_, by unfold Cells at *; simpa [splice] using hg, ⟨rfl, rfl, rfl, Nat.le_refl _, fun _ _ _ => rfl⟩⟩
    have hl : ∀ (x : Addr), (loadCells x 0).run Try.prog w = .ok #[] w := fun x => by simpa using run_loadCells_list (P := Try.prog) w x [] (by simp)
    have hr0 : n ≤ cap := by omega
    cases sp <;> simp [Builtin.append_, hu, Builtin.lenOf, Builtin.firstCells, sizeOf, typeInfo, hq, storeCells, hl, hr0]
  · obtain ⟨ad, rfl, hsrc⟩ := hpos (by omega)
    have hr := run_append_room (P := Try.prog) w 22 ty 24 i Try.underlying22 hq g n cap cur.toArray hg ad m c cs (by rw [hi]; exact hn) hsrc h1 hroom (by rw [hi]; simpa using hfit)
    rw [hi] at hr
    refine ⟨_, hr, ?_, setRow_grown w g _⟩
    have := setRow_heap w g cur.toArray ((cur.toArray.toList.take (n * 2) ++ cs ++ cur.toArray.toList.drop (n * 2 + cs.length)).toArray) 24 (0, 0) hg
    unfold Cells splice
    simpa using this
theorem wpList_append_sp (w : World) {ops : Array Oper} {rest : List Oper} {o : Oper} {a : Act} {Q : Exit → Act → World → Prop} (hgd : o.guard = none) (d s : Operand)
    (ho : o.op = .call { callee := .builtin .append, args := #[d, s], argTypes := #[22, 22] }) (sp : Option Addr) (g n cap m c : Nat) (cur cs : List Value) (hg : Cells w g cur)
    (hd : a.eval d = .slice (some ⟨g, 0, none⟩) n cap) (hs : a.eval s = .slice sp m c) (hn : cs.length = m * 2)
    (hpos : 0 < cs.length → ∃ ad, sp = some ad ∧ ∀ j v, cs[j]? = some v → w.cell? (ad.add j) = some v) (hroom : n + m ≤ cap) (hfit : n * 2 + cs.length ≤ cur.length) (h1 : ∀ v ∈ cs, v.oneCell' = true)
    (h : ∀ w', Hid (Cells w' g (splice cur (n * 2) cs)) → w.grownBy w' (some g) → wpList Try.prog ops Q rest (a.put o.dst (.slice (some ⟨g, 0, none⟩) (n + m) cap)) w') : wpList Try.prog ops Q (o :: rest) a w := by
  obtain ⟨w', hr, h2, h3⟩ := run_append_sp w o.type sp g n cap m c cur cs hg hn hpos hroom hfit h1
  exact Lib.wpList_append_run w hgd d s _ _ ho _ _ hd hs _ _ hr (h w' h2 h3)

/-- append of made zeros where there is no room: a new row. -/
theorem run_zeros_sp (w : World) (ty : TypeId) (g n cap k : Nat) (cur : List Value) (hg : Cells w g cur) (hk : 0 < k) (hgr : cap < n + k) (hn : n * 2 ≤ cur.length) (hb : n + k ≤ 10000) :
    ∃ w' cap' rest, (Builtin.append_ #[22, 3] ty #[.slice (some ⟨g, 0, none⟩) n cap, .int .i64 k]).run Try.prog w = .ok (.slice (some ⟨w.heap.size, 0, none⟩) (n + k) cap') w' ∧
      Cells w' w.heap.size (cur.take (n * 2) ++ rest) ∧ n * 2 + rest.length = cap' * 2 ∧ n + k ≤ cap' ∧ cap' ≤ maxLen ∧ w.grownBy w' none := by
  obtain ⟨i, hq, hz, hi, hby⟩ := info_parts infoSp
  have hold : (Builtin.firstCells i.size n (.slice (some ⟨g, 0, none⟩) n cap)).run Try.prog w.drew = .ok (cur.take (n * 2)).toArray w.drew := by
    rw [hi]
    refine run_firstCells_some (P := Try.prog) w.drew 2 n ⟨g, 0, none⟩ n cap (cur.take (n * 2)) (by simp; omega) fun j v hj => ?_
    rw [Addr.add_lit, Nat.zero_add]
    rw [List.getElem?_take] at hj
    split at hj
    · exact (hg.cell j).trans hj
    · cases hj
  have hfit : Builtin.nextslicecap (n + k) cap * i.bytes ≤ 281474976710656 := by rw [hby]; exact growslice_fits hgr (by omega)
  have hr := Lib.run_append_grow_zeros (P := Try.prog) w 22 3 ty 24 i (.agg #[.int .i64 0, .int .i64 0]) .i64 .i64 Try.underlying22 Try.underlying3 hq hz (some ⟨g, 0, none⟩) n cap (cur.take (n * 2)) hold k hk (by omega) hgr (by omega) (by rw [hby]; omega) hfit
  have hge := grownCap_ge w (n + k) cap 24
  have hle := grownCap_le_maxLen w (n + k) cap 24 (by unfold maxLen; omega)
  obtain ⟨c', hc'⟩ : ∃ c', grownCap w (n + k) cap 24 = c' := ⟨_, rfl⟩
  rw [hc'] at hr hge hle
  refine ⟨_, c', (Builtin.zeroCells (Value.agg #[.int .i64 0, .int .i64 0]).cells k).toList ++ (Builtin.zeroCells (Value.agg #[.int .i64 0, .int .i64 0]).cells (c' - (n + k))).toList, hr, ?_, ?_, hge, hle, ?_⟩
  · unfold Cells
    have h := heap_alloc_new w.drew (.cells ((cur.take (n * 2)).toArray ++ Builtin.zeroCells (Value.agg #[.int .i64 0, .int .i64 0]).cells k ++ Builtin.zeroCells (Value.agg #[.int .i64 0, .int .i64 0]).cells (c' - (n + k))) 24)
    refine Eq.trans h ?_
    congr 2
    apply Array.ext'
    simp
  · simp [size_zeroCells, Value.cells]; omega
  · exact (Below.refl w.heap.size w).drew.trans (((Below.refl _ _).alloc (Nat.le_refl _) _).mono (by simp)) |> fun h => ⟨h.os, h.tape, h.output, h.size, fun k hk _ => h.block k hk⟩

theorem run_clear_sp (w : World) (ty : TypeId) (dp : Option Addr) (g off k c : Nat) (cur : List Value) (hg : Cells w g cur) (hpos : 0 < k → dp = some ⟨g, off, none⟩) (hfit : off + k * 2 ≤ cur.length) :
    ∃ w' zs, (Builtin.clear_ #[22] ty #[.slice dp k c]).run Try.prog w = .ok (.tuple #[]) w' ∧ zs.length = k * 2 ∧ Cells w' g (splice cur off zs) ∧ w.grownBy w' (some g) := by
  have hu := run_underlying (P := Try.prog) Try.underlying22
  rcases k with _ | k
  · refine ⟨w, [], ?_, rfl, by unfold Cells at *; simpa [splice] using hg, ⟨rfl, rfl, rfl, Nat.le_refl _, fun _ _ _ => rfl⟩⟩
    cases dp <;> simp [Builtin.clear_, hu]
  · obtain rfl := hpos (by omega)
    obtain ⟨i, hq, hz, hi, _⟩ := info_parts infoSp
    obtain ⟨zs, hzs⟩ : ∃ zs, (Builtin.zeroCells (Value.agg #[.int .i64 0, .int .i64 0]).cells (k + 1)).toList = zs := ⟨_, rfl⟩
    have hzl : zs.length = (k + 1) * 2 := by rw [← hzs]; simp [size_zeroCells, Value.cells]
    have hz1 : ∀ v ∈ zs, v.oneCell' = true := by
      intro v hv
      rw [← hzs] at hv
      simp [Builtin.zeroCells, Value.cells] at hv
      obtain ⟨a, _, rfl⟩ := hv
      rcases Nat.mod_two_eq_zero_or_one a with h | h <;> simp [h] <;> rfl
    have hst := run_storeCells_at (P := Try.prog) g off 24 zs 0 cur.toArray w hg (by simp; omega) hz1
    simp only [Nat.add_zero] at hst
    refine ⟨_, zs, ?_, hzl, setRow_heap w g _ _ _ _ hg, setRow_grown w g (splice cur off zs).toArray⟩
    simp [Builtin.clear_, hu, zeroValue, typeInfo, hq, hz, hzs, hst, splice]
theorem wpList_clear_sp (w : World) {ops : Array Oper} {rest : List Oper} {o : Oper} {a : Act} {Q : Exit → Act → World → Prop} (hgd : o.guard = none) (d : Operand)
    (ho : o.op = .call { callee := .builtin .clear, args := #[d], argTypes := #[22] }) (dp : Option Addr) (g off k c : Nat) (cur : List Value) (hg : Cells w g cur)
    (hd : a.eval d = .slice dp k c) (hpos : 0 < k → dp = some ⟨g, off, none⟩) (hfit : off + k * 2 ≤ cur.length)
    (h : ∀ w' zs, Hid (zs.length = k * 2) → Hid (Cells w' g (splice cur off zs)) → w.grownBy w' (some g) → wpList Try.prog ops Q rest (a.put o.dst (.tuple #[])) w') : wpList Try.prog ops Q (o :: rest) a w := by
  obtain ⟨w', zs, hr, h1, h2, h3⟩ := run_clear_sp w o.type dp g off k c cur hg hpos hfit
  refine wpList_plain hgd fun _ hK => ?_
  unfold Oper.wp execOp
  simp only [ho, resolve, invoke, builtin, Sem.run_bind, Sem.run_pure, Result.andThen_ok, List.map_toArray, List.map_cons, List.map_nil, hd, hr]
  exact hK _ _ (h w' zs h1 h2 h3)

/-- Two slices in two blocks do not overlap. -/
theorem apart (w : World) (g1 g2 o1 o2 la ca lb cb : Nat) (c1 c2 : List Value) (h1 : Cells w g1 c1) (h2 : Cells w g2 c2) (hne : g1 ≠ g2) (hk : c2 ≠ []) :
    (callFunc 37 #[.slice (some ⟨g1, o1, none⟩) la ca, .slice (some ⟨g2, o2, none⟩) lb cb]).run Try.prog w = .ok (.value (.bool false)) w := by
  have hz : ∀ w, (Go.sizeOf 24).run Try.prog w = .ok 2 w := fun w => by
    obtain ⟨i, hq, hz, hi, _⟩ := info_parts infoSp
    simp [sizeOf, typeInfo, hq, hi]
  rw [run_callFunc_extern Try.func37 (by kernel_rfl) (by kernel_rfl) (by kernel_rfl) (e := Extern.SlicesOverlaps.overlaps #[22, 22] #[4]) (by kernel_rfl),
    Lib.run_overlaps_apart w 22 4 24 Try.underlying22 2 hz ⟨g1, o1, none⟩ ⟨g2, o2, none⟩ la ca lb cb hne 24 24 c1.length c2.length
      (by unfold Cells at h1; simp [World.shape?, h1]) (by unfold Cells at h2; simp [World.shape?, h2]) (by intro h; exact hk (List.eq_nil_of_length_eq_zero h))
      (by unfold Cells at h1; simp [World.frozen?, h1]) (by unfold Cells at h1; simp [World.frozen?, h1])]
  rfl
end Go.Proofs.Ytfeiapkifoakoaa
