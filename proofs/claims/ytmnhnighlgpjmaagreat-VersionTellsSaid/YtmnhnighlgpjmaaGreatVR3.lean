/-
  The reference of layer 8: Line.
-/
import Derived.Test.YtmnhnighlgpjmaaGreatVR2
import Derived.Deep.RegionHeld3
namespace Go.Proofs.YtmnhnighlgpjmaaGreat
set_option linter.unusedVariables false
set_option linter.unusedSimpArgs false
open Go.RowKit

theorem keep_belowR {w w' : World} (hb : Below w.heap.size w w') {a : Addr} {v : Value} (h : w.cell? a = some v) : w'.cell? a = some v := (hb.cell (World.block_lt_of_cell? w a h)).trans h
theorem str_lt {a b : Str} (h : a < b) : Op.bytesLess (bs a).toList (bs b).toList = true := by
  rw [toList_bs, toList_bs, bytesLess_lt, decide_eq_true_iff]; exact h
theorem str_nlt {a b : Str} (h : ¬ a < b) : Op.bytesLess (bs a).toList (bs b).toList = false := by
  rw [toList_bs, toList_bs, bytesLess_lt, decide_eq_false_iff_not]; exact h
theorem insertS {L : List Str} {k : Nat} {s : Str} (hs : L.Pairwise (fun x y => x ≤ y)) (hk : k ≤ L.length) (h1 : ∀ j (h : j < L.length), j < k → L[j] < s) (h2 : ∀ h : k < L.length, ¬ L[k] < s) :
    (L.take k ++ [s] ++ L.drop k).Pairwise (fun x y => x ≤ y) ∧ (L.take k ++ [s] ++ L.drop k).Perm (L ++ [s]) := by
  constructor
  · have h0 : (L.take k ++ L.drop k).Pairwise (fun x y => x ≤ y) := by rw [List.take_append_drop]; exact hs
    rw [List.pairwise_append] at h0
    have hlt : ∀ x ∈ L.take k, x ≤ s := fun x hx => by
      obtain ⟨j, hj, rfl⟩ := List.getElem_of_mem hx
      rw [List.length_take] at hj
      rw [List.getElem_take]
      exact List.le_of_lt (h1 j (by omega) (by omega))
    have hge : ∀ y ∈ L.drop k, s ≤ y := fun y hy => by
      obtain ⟨j, hj, rfl⟩ := List.getElem_of_mem hy
      rw [List.length_drop] at hj
      rw [List.getElem_drop]
      have hk2 : k < L.length := by omega
      have h3 : s ≤ L[k] := List.not_lt.1 (h2 hk2)
      rcases Nat.eq_zero_or_pos j with rfl | hj0
      · simpa using h3
      · exact List.le_trans h3 (List.pairwise_iff_getElem.1 hs k (k + j) hk2 (by omega) (by omega))
    rw [List.pairwise_append, List.pairwise_append]
    refine ⟨⟨h0.1, List.pairwise_singleton _ _, fun x hx y hy => by rw [List.mem_singleton.1 hy]; exact hlt x hx⟩, h0.2.1, fun x hx y hy => ?_⟩
    rcases List.mem_append.1 hx with hx | hx
    · exact h0.2.2 x hx y hy
    · rw [List.mem_singleton.1 hx]; exact hge y hy
  · have e : L.take k ++ [s] ++ L.drop k = L.take k ++ s :: L.drop k := by simp
    rw [e]
    refine List.perm_middle.trans ?_
    rw [List.take_append_drop]
    exact List.perm_append_singleton s L |>.symm
/-- What Line has made of the first i strings. -/
structure LnOk (X O : List Str) (i : Nat) : Prop where
  srt : O.Pairwise (fun x y => x ≤ y)
  perm : O.Perm ((X.take i).tail)
theorem LnOk.start (X : List Str) : LnOk X [] 1 := by
  refine ⟨List.Pairwise.nil, ?_⟩
  cases X <;> simp
theorem LnOk.next {X O : List Str} {i k : Nat} (h : LnOk X O i) (hi : i < X.length) (hi1 : 1 ≤ i) (hk : k ≤ O.length) (h1 : ∀ j (hj : j < O.length), j < k → O[j] < X[i]) (h2 : ∀ hk : k < O.length, ¬ O[k] < X[i]) : LnOk X (O.take k ++ [X[i]] ++ O.drop k) (i + 1) := by
  obtain ⟨a, b⟩ := insertS h.srt hk h1 h2
  refine ⟨a, b.trans ?_⟩
  rw [List.take_succ_eq_append_getElem hi]
  have : (X.take i ++ [X[i]]).tail = (X.take i).tail ++ [X[i]] := by
    cases hX : X.take i with
    | nil =>
      have h5 : (X.take i).length = 0 := by rw [hX]; rfl
      rw [List.length_take] at h5
      omega
    | cons x t => rfl
  rw [this]
  exact h.perm.append_right _
theorem LnOk.len {X O : List Str} {i : Nat} (h : LnOk X O i) (hi : i ≤ X.length) : O.length = i - 1 := by
  rw [h.perm.length_eq, List.length_tail, List.length_take]; omega
theorem LnOk.over {l : VL} {v : Str} {X O : List Str} (h : LnOk X O X.length) (ha : AllOk l v X) : LineOk l v (v :: O) := by
  obtain ⟨t, rfl⟩ := ha.hd
  have hp : O.Perm t := by
    have := h.perm
    rw [List.take_length] at this
    exact this
  refine ⟨⟨O, rfl, h.srt⟩, (List.Perm.cons v hp).nodup_iff.2 ha.nd, fun x => ?_⟩
  rw [← ha.mem x, List.mem_cons, List.mem_cons, hp.mem_iff]
/-- A slice value that reads as q, wherever it lies. -/
structure SrcS (w : World) (u : Value) (q : List Str) : Prop where
  ex : ∃ A cap, u = .slice A q.length cap ∧ (A = none → q.length = 0) ∧ ∀ ad, A = some ad → ∀ j u, (sv q)[j]? = some u → w.cell? (ad.add j) = some u
theorem SrcS.of {w : World} {B : Nat} {u : Value} {q : List Str} (h : StrRow w B u q) : SrcS w u q := by
  obtain ⟨A, cap, rfl, h1, h2, h3, h4⟩ := h
  refine ⟨A, cap, rfl, fun h => by have := h3 h; omega, fun ad ha j u hu => ?_⟩
  subst ha
  rw [sv_get] at hu
  by_cases hj : j < q.length
  · rw [List.getElem?_eq_getElem hj] at hu
    simp only [Option.map_some, Option.some.injEq] at hu
    obtain ⟨b, off, e, _, h2⟩ := h4 (by omega)
    injection e with e
    subst e
    rw [Go.WideShapes.add_plain, h2 j hj, hu]
  · rw [List.getElem?_eq_none (by omega)] at hu; simp at hu
theorem SrcS.below {w w' : World} {u : Value} {q : List Str} (h : SrcS w u q) (hb : Below w.heap.size w w') : SrcS w' u q := by
  obtain ⟨A, cap, hv, h1, h2⟩ := h
  exact ⟨A, cap, hv, h1, fun ad ha j u hu => keep_belowR hb (h2 ad ha j u hu)⟩
set_option maxRecDepth 100000 in
theorem run_appR (w : World) (ty : TypeId) (base : Nat) (v u : Value) (L q : List Str) (hv : OwnS w base v L) (hu : SrcS w u q) (hl : L.length + q.length ≤ 1000) (hb : base ≤ w.heap.size) :
    ∃ v' w', (Builtin.append_ #[27, 27] ty #[v, u]).run Tryz.prog w = .ok v' w' ∧ OwnS w' base v' (L ++ q) ∧ w.grownBy w' v.ownBlock ∧ Below base w w' := by
  obtain ⟨i0, hi, hz0, hz1, hz2⟩ := info_parts infoS
  obtain ⟨A, cap, rfl, k3, hcells⟩ := hu
  rcases A with _ | ad
  · obtain rfl : q = [] := List.eq_nil_of_length_eq_zero (k3 rfl)
    have hu := run_underlying (P := Tryz.prog) Tryz.underlying27
    have hvs : ∃ A n cap, v = .slice A n cap ∧ n ≤ cap := by
      rcases hv.2 with ⟨rfl, _⟩ | ⟨g, cap, cur, rfl, _, _, h1, _⟩
      · exact ⟨none, 0, 0, rfl, Nat.le_refl _⟩
      · exact ⟨_, _, _, rfl, h1⟩
    obtain ⟨A, n, cp, rfl, hnc⟩ := hvs
    refine ⟨.slice A n cp, w, ?_, by rw [List.append_nil]; exact hv, grown_refl _ _, Below.refl _ _⟩
    cases A <;> simp [Builtin.append_, hu, Builtin.lenOf, Builtin.firstCells, sizeOf, typeInfo, hi, storeCells, hnc]
  · obtain ⟨v', w', hr, h2, h3, _, _⟩ := run_append_own_at (P := Tryz.prog) w base 27 ty 9 i0 (.string (bs [])) 1 16 Tryz.underlying27 hi hz0 hz1 hz2 rfl (by decide) v L.length (sv L) hv ad q.length cap (sv q) (by rw [sv_length]; omega) (hcells ad rfl) (sv_one _) (by unfold maxLen; omega) (by omega) hb
    refine ⟨v', w', hr, ?_, h3, (Below.refl _ _).grown h3 hb (fun k hk => (hv.lt k hk).1)⟩
    unfold OwnS
    rw [sv_append, List.length_append]
    exact h2
theorem step_appR {ops : Array Oper} {o : Oper} {a : Act} {w : World} {K : Act → World → Prop} {Q : Exit → Act → World → Prop} {E : Prop} (hgd : o.guard = none) (d s : Operand)
    (ho : o.op = .call { callee := .builtin .append, args := #[d, s], argTypes := #[27, 27] }) (base : Nat) (v u : Value) (L q : List Str) (hd : a.eval d = v) (hs : a.eval s = u)
    (hv : Hid (OwnS w base v L)) (hu : SrcS w u q) (hl : L.length + q.length ≤ 1000) (hb : base ≤ w.heap.size)
    (h : ∀ v' w', Hid (OwnS w' base v' (L ++ q)) → Hid (w.grownBy w' v.ownBlock) → Hid (Below base w w') → K (a.put o.dst v') w') :
    if Region.wanted o (yielded ops a.tmps) = true then Oper.wp Tryz.prog o a w K Q else E := by
  have hw' : Region.wanted o (yielded ops a.tmps) = true := by simp [Region.wanted, hgd]
  rw [if_pos hw']
  obtain ⟨v', w', hr, h2, h3, h4⟩ := run_appR w o.type base v u L q hv.out hu hl hb
  unfold Oper.wp execOp
  simp only [ho, resolve, invoke, builtin, Sem.run_bind, Sem.run_pure, Result.andThen_ok, List.map_toArray, List.map_cons, List.map_nil, hd, hs, hr]
  exact h v' w' h2 h3 h4
theorem ownS_empty (w : World) (base : Nat) (hb : base ≤ w.heap.size) : OwnS (w.alloc (.cells #[] 9)) base (.slice (some ⟨w.heap.size, 0, none⟩) 0 0) [] := World.ownsRow_made w #[] 0 hb (by decide) rfl
theorem OwnS.allocS {w : World} {base : Nat} {v : Value} {l : List Str} (h : OwnS w base v l) (o : Obj) : OwnS (w.alloc o) base v l := h.below (below_new w o)
theorem srcS_one {w : World} {b : Nat} {s : Str} (c : w.cell? ⟨b, 0, none⟩ = some (.string (bs s))) : SrcS w (.slice (some ⟨b, 0, none⟩) 1 1) [s] := by
  refine ⟨_, 1, rfl, (fun h => by cases h), fun ad ha j u hu => ?_⟩
  injection ha with ha
  subst ha
  rw [Go.WideShapes.add_plain, Nat.zero_add]
  match j, hu with
  | 0, hu => simp [sv] at hu; subst hu; exact c
theorem StrRow.take {w : World} {B : Nat} {A : Option Addr} {n cap k : Nat} {l : List Str} (h : StrRow w B (.slice A n cap) l) (hk : k ≤ l.length) : StrRow w B (.slice A k cap) (l.take k) := by
  obtain ⟨A2, cap2, hv, h1, h2, h3, h4⟩ := h
  injection hv with e1 e2 e3
  subst e1; subst e3
  have hl : (l.take k).length = k := by rw [List.length_take]; omega
  refine ⟨A, cap, by rw [hl], by omega, h2, h3, fun h0 => ?_⟩
  obtain ⟨b, off, ha, hb, hc⟩ := h4 (by omega)
  refine ⟨b, off, ha, hb, fun i hi => ?_⟩
  rw [List.getElem_take]
  exact hc i (by omega)
theorem SrcS.drop {w : World} {B : Nat} {b off n cap k : Nat} {l : List Str} (h : StrRow w B (.slice (some ⟨b, off, none⟩) n cap) l) (hk : k ≤ l.length) (x : Nat) (hx : k < l.length → x = off + k) : SrcS w (.slice (some ⟨b, x, none⟩) (l.length - k) (cap - k)) (l.drop k) := by
  obtain ⟨A2, cap2, hv, h1, h2, h3, h4⟩ := h
  injection hv with e1 e2 e3
  subst e1; subst e3
  have hl : (l.drop k).length = l.length - k := List.length_drop
  refine ⟨_, cap - k, by rw [hl], (fun h => by cases h), fun ad ha j u hu => ?_⟩
  injection ha with ha
  subst ha
  have hj : j < l.length - k := by
    have := (List.getElem?_eq_some_iff.1 hu).1
    rw [sv_length, hl] at this; exact this
  obtain ⟨b2, off2, hb2, _, hc⟩ := h4 (by omega)
  injection hb2 with hb2
  injection hb2 with e1 e2 _
  subst e1; subst e2
  have hx2 := hx (by omega)
  rw [sv_get, List.getElem?_drop, List.getElem?_eq_getElem (by omega)] at hu
  simp only [Option.map_some, Option.some.injEq] at hu
  rw [Go.WideShapes.add_plain, hx2, Nat.add_assoc, hc (k + j) (by omega), hu]
theorem OwnS.drewS {w : World} {base : Nat} {v : Value} {l : List Str} (h : OwnS w base v l) : OwnS w.drew base v l := h
theorem below_twoS (w : World) (o p : Obj) : Below w.heap.size w ((w.alloc o).alloc p).drew := (((Below.refl _ _).alloc (Nat.le_refl _) _).alloc (by simp) _).drew
theorem srcS_snd {W w2 : World} {s : Str} {t t2 : TypeId}
    (hg : ((W.alloc (.cells #[] t)).alloc (.cells #[.string (bs s)] t2)).drew.grownBy w2 (Value.slice (some ⟨W.heap.size, 0, none⟩) 0 0).ownBlock) : SrcS w2 (.slice (some ⟨W.heap.size + 1, 0, none⟩) 1 1) [s] := by
  have hs : Blk ((W.alloc (.cells #[] t)).alloc (.cells #[.string (bs s)] t2)).drew (W.heap.size + 1) t2 #[.string (bs s)] := by
    show ((W.heap.push _).push _)[W.heap.size + 1]? = _
    rw [show W.heap.size + 1 = (W.heap.push (.cells #[] t)).size by simp, Array.getElem?_push_size]
  have hne : some (W.heap.size + 1) ≠ (Value.slice (some ⟨W.heap.size, 0, none⟩) 0 0).ownBlock := by
    intro e
    simp [Value.ownBlock] at e
  exact srcS_one (hg.cell (hs.cell 0) hne)
theorem srcS_fst {W w2 : World} {s : Str} {t t2 : TypeId}
    (hg : ((W.alloc (.cells #[.string (bs s)] t2)).alloc (.cells #[] t)).drew.grownBy w2 (Value.slice (some ⟨W.heap.size + 1, 0, none⟩) 0 0).ownBlock) : SrcS w2 (.slice (some ⟨W.heap.size, 0, none⟩) 1 1) [s] := by
  have hs : Blk ((W.alloc (.cells #[.string (bs s)] t2)).alloc (.cells #[] t)).drew W.heap.size t2 #[.string (bs s)] := by
    show ((W.heap.push _).push _)[W.heap.size]? = _
    rw [Array.getElem?_push_lt (by simp)]; simp
  have hne : some W.heap.size ≠ (Value.slice (some ⟨W.heap.size + 1, 0, none⟩) 0 0).ownBlock := by
    intro e
    simp [Value.ownBlock] at e
  exact srcS_one (hg.cell (hs.cell 0) hne)
theorem srcS_new {w2 : World} {s : Str} {t2 : TypeId} : SrcS (w2.alloc (.cells #[.string (bs s)] t2)) (.slice (some ⟨w2.heap.size, 0, none⟩) 1 1) [s] := srcS_one ((Blk.new w2 _ _).cell 0)
theorem ownS_one (w : World) (v : Str) : OwnS (w.alloc (.cells #[.string (bs v)] 9)) w.heap.size (.slice (some ⟨w.heap.size, 0, none⟩) 1 1) [v] :=
  ⟨rfl, .inr ⟨w.heap.size, 1, #[.string (bs v)], rfl, Nat.le_refl _, heap_alloc_new w _, Nat.le_refl _, by decide, rfl, rfl⟩⟩
theorem pushR (W : World) (v : Str) (O : List Str) (u : Value) (hu : SrcS W u O) (hO : O.length ≤ 900) :
    ∃ g' cap' w3, (Builtin.append_ #[27, 27] 27 #[.slice (some ⟨W.heap.size, 0, none⟩) 1 1, u]).run Tryz.prog (W.alloc (.cells #[.string (bs v)] 9)) = .ok (.slice (some ⟨g', 0, none⟩) (O.length + 1) cap') w3 ∧
      OwnS w3 W.heap.size (.slice (some ⟨g', 0, none⟩) (O.length + 1) cap') (v :: O) ∧ Below W.heap.size W w3 := by
  have hb := below_new W (.cells #[.string (bs v)] 9)
  obtain ⟨v', w3, hr, h2, h3, h4⟩ := run_appR (W.alloc (.cells #[.string (bs v)] 9)) 27 W.heap.size _ u [v] O (ownS_one W v) (hu.below hb) (by simp; omega) hb.size
  obtain ⟨g', cap', rfl⟩ := own_succ (k := O.length) (show OwnS _ _ _ (v :: O) from h2)
  exact ⟨g', cap', w3, hr, h2, hb.trans h4⟩
end Go.Proofs.YtmnhnighlgpjmaaGreat
