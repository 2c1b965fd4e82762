/-
  Layer 8: what serves what: the mathematics.
  Maps with strings as keys, whatever their elements are.
  Layer 8: rows of strings and of declarations in memory.
  The program's parentsOf.
  The memory of Line: the boxes of seen, open, line, parents and visit.
  The program's Line: its closure visit.
  slices.Sort and slices.Contains on rows of strings.
  The program's Line and Serves.
-/
import Derived.Test.YtmnhnighlgpjmaaGreatBase
import Derived.Maps.OwnSet
import Derived.StringKeys
import Derived.Test.YtmnhnighlgpjmaaGreatMemA
import Derived.RangeFuncBox
import Derived.Maps.AppendAt
import Derived.Maps.OwnOps
import Derived.Test.YtmnhnighlgpjmaaGreatVisit
import Derived.Lib.SlFresh
import Derived.Test.YtmnhnighlgpjmaaGreatLib
import Derived.Laws.EntriesVeiled
namespace Go.Proofs.YtmnhnighlgpjmaaGreat
set_option linter.unusedVariables false
set_option linter.unusedSimpArgs false

abbrev Str := List UInt8
structure Vd where
  nm : Str
  ps : List Str
abbrev VL := List Vd
/-- The parents of the first declaration with a name. -/
def parOf : VL → Str → Option (List Str)
  | [], _ => none
  | d :: l, v => if d.nm = v then some d.ps else parOf l v
def pars (l : VL) (v : Str) : List Str := (parOf l v).getD []
theorem parOf_append (l m : VL) (v : Str) : parOf (l ++ m) v = (parOf l v).or (parOf m v) := by
  induction l with
  | nil => rfl
  | cons d l ih =>
    simp only [List.cons_append, parOf]
    split
    · rfl
    · exact ih
theorem parOf_snoc_old {l : VL} {d : Vd} {v : Str} (h : (parOf l v).isSome = true) : parOf (l ++ [d]) v = parOf l v := by
  rw [parOf_append]
  cases e : parOf l v with
  | none => rw [e] at h; cases h
  | some x => rfl
theorem parOf_snoc_new {l : VL} {d : Vd} {v : Str} (h : parOf l v = none) : parOf (l ++ [d]) v = if d.nm = v then some d.ps else none := by
  rw [parOf_append, h]
  simp [parOf]
theorem parOf_none {l : VL} {v : Str} : parOf l v = none ↔ ∀ d ∈ l, d.nm ≠ v := by
  induction l with
  | nil => simp [parOf]
  | cons d l ih =>
    simp only [parOf, List.mem_cons, forall_eq_or_imp]
    split
    · rename_i h; simp [h]
    · rename_i h; rw [ih]; simp [h]
theorem parOf_some {l : VL} {v : Str} {ps : List Str} (h : parOf l v = some ps) : ∃ i, ∃ hi : i < l.length, l[i].nm = v ∧ l[i].ps = ps ∧ ∀ j (hj : j < l.length), j < i → l[j].nm ≠ v := by
  induction l with
  | nil => cases h
  | cons d l ih =>
    simp only [parOf] at h
    split at h
    · rename_i hd
      injection h with h
      exact ⟨0, by simp, hd, h, fun j hj h0 => by omega⟩
    · rename_i hd
      obtain ⟨i, hi, h1, h2, h3⟩ := ih h
      refine ⟨i + 1, by simpa using hi, h1, h2, fun j hj hji => ?_⟩
      cases j with
      | zero => exact hd
      | succ j => exact h3 j (by simpa using hj) (by omega)
theorem mem_pars {l : VL} {v p : Str} (h : p ∈ pars l v) : ∃ d ∈ l, d.nm = v ∧ p ∈ d.ps ∧ parOf l v = some d.ps := by
  unfold pars at h
  cases e : parOf l v with
  | none => rw [e] at h; simp at h
  | some ps =>
    rw [e] at h
    obtain ⟨i, hi, h1, h2, _⟩ := parOf_some e
    exact ⟨l[i], List.getElem_mem hi, h1, by rw [h2]; exact h, by rw [h2]⟩
/-- v serves w. -/
inductive Sv (l : VL) : Str → Str → Prop
  | refl (v : Str) : Sv l v v
  | step {v p w : Str} (h : p ∈ pars l v) (k : Sv l p w) : Sv l v w
theorem Sv.trans {l : VL} {a b c : Str} (h : Sv l a b) (k : Sv l b c) : Sv l a c := by
  induction h with
  | refl => exact k
  | step h1 _ ih => exact .step h1 (ih k)
theorem Sv.one {l : VL} {v p : Str} (h : p ∈ pars l v) : Sv l v p := .step h (.refl p)
theorem Sv.last {l : VL} {a c : Str} (h : Sv l a c) : a = c ∨ ∃ b, Sv l a b ∧ c ∈ pars l b := by
  induction h with
  | refl => exact .inl rfl
  | step h1 h2 ih =>
    rcases ih with rfl | ⟨b, h3, h4⟩
    · exact .inr ⟨_, .refl _, h1⟩
    · exact .inr ⟨b, .step h1 h3, h4⟩
theorem Sv.closed {l : VL} {S : Str → Prop} {a b : Str} (h : Sv l a b) (ha : S a) (hc : ∀ x, S x → ∀ p ∈ pars l x, S p) : S b := by
  induction h with
  | refl => exact ha
  | step h1 h2 ih => exact ih (hc _ ha _ h1)
/-- A set that holds what it leads to, and the length of what is in it. -/
structure Uni (l : VL) (U : List Str) : Prop where
  cl : ∀ x ∈ U, ∀ p ∈ pars l x, p ∈ U
  len : U.length ≤ 200
  sz : ∀ x ∈ U, x.length ≤ 1000
theorem nodup_sub {α : Type} [DecidableEq α] : ∀ (L U : List α), L.Nodup → (∀ x ∈ L, x ∈ U) → L.length ≤ U.length
  | [], U, _, _ => by simp
  | a :: L, U, h, hs => by
    have h1 := nodup_sub L (U.erase a) (List.nodup_cons.1 h).2 (fun x hx => (List.mem_erase_of_ne (fun e : x = a => (List.nodup_cons.1 h).1 (e ▸ hx))).2 (hs x (List.mem_cons_of_mem _ hx)))
    have h2 := List.length_erase_of_mem (hs a List.mem_cons_self)
    have h3 := List.length_pos_of_mem (hs a List.mem_cons_self)
    rw [List.length_cons]; omega
theorem Uni.le {l : VL} {U L : List Str} (hU : Uni l U) (hn : L.Nodup) (hs : ∀ x ∈ L, x ∈ U) : L.length ≤ 200 := Nat.le_trans (nodup_sub L U hn hs) hU.len
/-- How many declarations are not yet seen. -/
def cnt (l : VL) (L : List Str) : Nat := l.countP fun d => !L.contains d.nm
theorem cnt_mono {l : VL} {L M : List Str} (h : ∀ x ∈ L, x ∈ M) : cnt l M ≤ cnt l L := by
  unfold cnt
  refine List.countP_mono_left fun d _ hd => ?_
  simp only [Bool.not_eq_true', List.contains_eq_mem, decide_eq_false_iff_not] at hd ⊢
  exact fun h2 => hd (h _ h2)
theorem cnt_le (l : VL) (L : List Str) : cnt l L ≤ l.length := List.countP_le_length
theorem cnt_lt : ∀ {l : VL} {L : List Str} {v : Str}, v ∉ L → (∃ d ∈ l, d.nm = v) → cnt l (L ++ [v]) + 1 ≤ cnt l L
  | [], _, _, _, ⟨d, hd, _⟩ => by cases hd
  | d :: l, L, v, hv, h => by
    have hm : cnt l (L ++ [v]) ≤ cnt l L := cnt_mono (fun x hx => List.mem_append_left _ hx)
    unfold cnt at hm ⊢
    rw [List.countP_cons, List.countP_cons]
    by_cases e : d.nm = v
    · have e1 : (!(L ++ [v]).contains d.nm) = false := by simp [e]
      have e2 : (!L.contains d.nm) = true := by simp [e, hv]
      simp only [e1, e2, if_true, Bool.false_eq_true, if_false]; omega
    · obtain ⟨d2, h1, h2⟩ := h
      rcases List.mem_cons.1 h1 with rfl | h1
      · exact absurd h2 e
      · have ih := cnt_lt hv ⟨d2, h1, h2⟩
        unfold cnt at ih
        have e3 : (!(L ++ [v]).contains d.nm) = (!L.contains d.nm) := by simp [e]
        simp only [e3]; omega
/-- The visit of v has made L' of L. -/
structure Vis (l : VL) (v : Str) (L L' : List Str) : Prop where
  pre : L <+: L'
  nd : L'.Nodup
  mem : v ∈ L'
  sv : ∀ x ∈ L', x ∈ L ∨ Sv l v x
  cl : ∀ x ∈ L', x ∉ L → ∀ p ∈ pars l x, p ∈ L'
  fst : v ∉ L → (L ++ [v]) <+: L'
/-- .. after k of its parents. -/
structure VisK (l : VL) (v : Str) (L : List Str) (k : Nat) (L' : List Str) : Prop where
  pre : (L ++ [v]) <+: L'
  nd : L'.Nodup
  sv : ∀ x ∈ L', x ∈ L ∨ Sv l v x
  cl : ∀ x ∈ L', x ∉ L → x ≠ v → ∀ p ∈ pars l x, p ∈ L'
  done : ∀ i (h : i < (pars l v).length), i < k → (pars l v)[i] ∈ L'
theorem Vis.old {l : VL} {v : Str} {L : List Str} (hn : L.Nodup) (h : v ∈ L) : Vis l v L L :=
  ⟨List.prefix_refl _, hn, h, fun x hx => .inl hx, fun x hx h2 => absurd hx h2, fun h2 => absurd h h2⟩
theorem VisK.start {l : VL} {v : Str} {L : List Str} (hn : L.Nodup) (h : v ∉ L) : VisK l v L 0 (L ++ [v]) := by
  refine ⟨List.prefix_refl _, ?_, fun x hx => ?_, fun x hx h1 h2 => ?_, fun i _ h0 => by omega⟩
  · rw [List.nodup_append]
    exact ⟨hn, by simp, fun a ha b hb => by rw [List.mem_singleton] at hb; subst hb; exact fun e => h (e ▸ ha)⟩
  · rcases List.mem_append.1 hx with hx | hx
    · exact .inl hx
    · rw [List.mem_singleton.1 hx]; exact .inr (.refl _)
  · rcases List.mem_append.1 hx with hx | hx
    · exact absurd hx h1
    · exact absurd (List.mem_singleton.1 hx) h2
theorem VisK.step {l : VL} {v : Str} {L L' L'' : List Str} {k : Nat} (h : VisK l v L k L') (hk : k < (pars l v).length) (h2 : Vis l (pars l v)[k] L' L'') : VisK l v L (k + 1) L'' := by
  have hsub : ∀ x ∈ L', x ∈ L'' := fun x hx => h2.pre.subset hx
  refine ⟨h.pre.trans h2.pre, h2.nd, fun x hx => ?_, fun x hx h3 h4 p hp => ?_, fun i hi hik => ?_⟩
  · rcases h2.sv x hx with h3 | h3
    · exact h.sv x h3
    · exact .inr (.step (List.getElem_mem hk) h3)
  · by_cases hx2 : x ∈ L'
    · exact hsub _ (h.cl x hx2 h3 h4 p hp)
    · exact h2.cl x hx hx2 p hp
  · by_cases e : i = k
    · subst e; exact h2.mem
    · exact hsub _ (h.done i hi (by omega))
theorem VisK.over {l : VL} {v : Str} {L L' : List Str} {k : Nat} (h : VisK l v L k L') (hk : (pars l v).length ≤ k) : Vis l v L L' := by
  have hv : v ∈ L' := h.pre.subset (by simp)
  refine ⟨(List.prefix_append L [v]).trans h.pre, h.nd, hv, h.sv, fun x hx h1 p hp => ?_, fun _ => h.pre⟩
  by_cases e : x = v
  · subst e
    obtain ⟨i, hi, rfl⟩ := List.getElem_of_mem hp
    exact h.done i hi (by omega)
  · exact h.cl x hx h1 e p hp
theorem Vis.uni {l : VL} {v : Str} {L L' U : List Str} (h : Vis l v L L') (hU : Uni l U) (hL : ∀ x ∈ L, x ∈ U) (hv : v ∈ U) : ∀ x ∈ L', x ∈ U := fun x hx => by
  rcases h.sv x hx with h1 | h1
  · exact hL x h1
  · exact h1.closed (S := fun x => x ∈ U) hv hU.cl
theorem VisK.uni {l : VL} {v : Str} {L L' U : List Str} {k : Nat} (h : VisK l v L k L') (hU : Uni l U) (hL : ∀ x ∈ L, x ∈ U) (hv : v ∈ U) : ∀ x ∈ L', x ∈ U := fun x hx => by
  rcases h.sv x hx with h1 | h1
  · exact hL x h1
  · exact h1.closed (S := fun x => x ∈ U) hv hU.cl
/-- The strings that v serves, v first, the others in ascending order. -/
structure LineOk (l : VL) (v : Str) (L : List Str) : Prop where
  hd : ∃ t, L = v :: t ∧ t.Pairwise (fun x y => x ≤ y)
  nd : L.Nodup
  mem : ∀ x, x ∈ L ↔ Sv l v x
theorem Vis.all {l : VL} {v : Str} {L : List Str} (h : Vis l v [] L) : (∃ t, L = v :: t) ∧ ∀ x, x ∈ L ↔ Sv l v x := by
  refine ⟨?_, fun x => ⟨fun hx => ?_, fun hx => ?_⟩⟩
  · obtain ⟨t, ht⟩ := h.fst (by simp)
    exact ⟨t, ht.symm⟩
  · exact (h.sv x hx).resolve_left (by simp)
  · exact hx.closed (S := fun x => x ∈ L) h.mem (fun y hy => h.cl y hy (by simp))
theorem str_total (a b : Str) : (decide (a ≤ b) || decide (b ≤ a)) = true := by
  rcases Std.Total.total (r := ((· ≤ ·) : Str → Str → Prop)) a b with h | h <;> simp [h]
theorem LineOk.of {l : VL} {v : Str} {t : List Str} (h : Vis l v [] (v :: t)) : LineOk l v (v :: t.mergeSort (fun x y => decide (x ≤ y))) := by
  have hp := List.mergeSort_perm t (fun x y => decide (x ≤ y))
  obtain ⟨_, hm⟩ := h.all
  refine ⟨⟨_, rfl, ?_⟩, ?_, fun x => ?_⟩
  · have := List.pairwise_mergeSort (le := fun x y : Str => decide (x ≤ y)) (fun a b c h1 h2 => by
      simp only [decide_eq_true_eq] at h1 h2 ⊢
      exact List.le_trans h1 h2) str_total t
    exact this.imp (fun h => by simpa using h)
  · exact (List.Perm.cons v hp).nodup_iff.2 h.nd
  · rw [← hm x, List.mem_cons, List.mem_cons, hp.mem_iff]
theorem sorted_ext : ∀ {a b : List Str}, a.Pairwise (fun x y => x ≤ y) → b.Pairwise (fun x y => x ≤ y) → a.Nodup → b.Nodup → (∀ x, x ∈ a ↔ x ∈ b) → a = b
  | [], [], _, _, _, _, _ => rfl
  | [], y :: b, _, _, _, _, h => by have := (h y).2 (by simp); cases this
  | x :: a, [], _, _, _, _, h => by have := (h x).1 (by simp); cases this
  | x :: a, y :: b, ha, hb, na, nb, h => by
    have hxy : x = y := by
      rcases List.mem_cons.1 ((h x).1 (by simp)) with e | e
      · exact e
      · rcases List.mem_cons.1 ((h y).2 (by simp)) with e2 | e2
        · exact e2.symm
        · exact List.le_antisymm ((List.pairwise_cons.1 ha).1 y e2) ((List.pairwise_cons.1 hb).1 x e)
    subst hxy
    congr 1
    refine sorted_ext (List.pairwise_cons.1 ha).2 (List.pairwise_cons.1 hb).2 (List.nodup_cons.1 na).2 (List.nodup_cons.1 nb).2 (fun z => ?_)
    have hz := h z
    rw [List.mem_cons, List.mem_cons] at hz
    constructor
    · intro hza
      exact (hz.1 (.inr hza)).resolve_left (fun e => (List.nodup_cons.1 na).1 (e ▸ hza))
    · intro hzb
      exact (hz.2 (.inr hzb)).resolve_left (fun e => (List.nodup_cons.1 nb).1 (e ▸ hzb))
theorem LineOk.eq {l : VL} {v : Str} {L M : List Str} (h : LineOk l v L) (k : LineOk l v M) : L = M := by
  obtain ⟨t, rfl, ht⟩ := h.hd
  obtain ⟨s, rfl, hs⟩ := k.hd
  congr 1
  refine sorted_ext ht hs (List.nodup_cons.1 h.nd).2 (List.nodup_cons.1 k.nd).2 (fun x => ?_)
  have h1 := h.mem x
  rw [← k.mem x, List.mem_cons, List.mem_cons] at h1
  constructor
  · intro hx
    exact (h1.1 (.inr hx)).resolve_left (fun e => (List.nodup_cons.1 h.nd).1 (e ▸ hx))
  · intro hx
    exact (h1.2 (.inr hx)).resolve_left (fun e => (List.nodup_cons.1 k.nd).1 (e ▸ hx))
/-- The universe of a list and a string. -/
def uniOf (l : VL) (v : Str) : List Str := v :: l.flatMap (·.ps)
def Fw (l : VL) : Prop := l.length ≤ 12 ∧ ∀ d ∈ l, d.ps.length ≤ 6 ∧ d.nm.length ≤ 100 ∧ ∀ p ∈ d.ps, p.length ≤ 100
theorem flat_len : ∀ (l : VL) (n : Nat), l.length ≤ n → (∀ d ∈ l, d.ps.length ≤ 6) → (l.flatMap (·.ps)).length ≤ 6 * n
  | [], n, _, _ => by simp
  | d :: l, n, hn, h => by
    rw [List.flatMap_cons, List.length_append]
    have h1 := h d (by simp)
    have h2 := flat_len l (n - 1) (by simp at hn; omega) (fun d hd => h d (List.mem_cons_of_mem _ hd))
    simp at hn
    omega
theorem uniOf_ok {l : VL} {v : Str} (h : Fw l) (hv : v.length ≤ 100) : Uni l (uniOf l v) := by
  refine ⟨fun x _ p hp => ?_, ?_, fun x hx => ?_⟩
  · obtain ⟨d, hd, _, h2, _⟩ := mem_pars hp
    exact List.mem_cons_of_mem _ (List.mem_flatMap.2 ⟨d, hd, h2⟩)
  · unfold uniOf
    rw [List.length_cons]
    have := flat_len l 12 h.1 (fun d hd => (h.2 d hd).1)
    omega
  · rcases List.mem_cons.1 hx with rfl | hx
    · omega
    · obtain ⟨d, hd, h2⟩ := List.mem_flatMap.1 hx
      have := (h.2 d hd).2.2 x h2
      omega
end Go.Proofs.YtmnhnighlgpjmaaGreat

namespace Go.Proofs.YtmnhnighlgpjmaaGreat
set_option linter.unusedVariables false
set_option linter.unusedSimpArgs false
open Go.Maps Go.RowKit Go.WideMaps

/-- An element reads as itself. -/
def asIs (v : Value) : Option (DataW Value × List MemPlace) := some (.held v, [])
/-- Block b is a map of at most n entries whose elements are f. -/
def MapIs (k : TypeId) (w : World) (b n : Nat) (f : ByteArray → Option Value) : Prop :=
  ∃ D : DataW Value, w.ownsMap Tryz.prog k asIs b n D ∧ ∀ s : ByteArray,
    (f s = none → has D (.string s.data.toList) = false) ∧ ∀ v, f s = some v → has D (.string s.data.toList) = true ∧ ∀ zd, D.atKey (.string s.data.toList) zd = .held v
theorem MapIs.new (k : TypeId) (w : World) : MapIs k (w.alloc (.map #[] 0)) w.heap.size 0 (fun _ => none) :=
  ⟨.map [], World.ownsMap_made _ _ _ _, fun s => ⟨fun _ => rfl, fun v h => by cases h⟩⟩
theorem MapIs.kept {k : TypeId} {w w' : World} {b n : Nat} {f : ByteArray → Option Value} {row : Option Nat} (h : MapIs k w b n f) (hg : w.grownBy w' row) (hne : some b ≠ row) : MapIs k w' b n f := by
  obtain ⟨D, h1, h2⟩ := h
  exact ⟨D, h1.kept hg hne, h2⟩
theorem MapIs.lt {k : TypeId} {w : World} {b n : Nat} {f : ByteArray → Option Value} (h : MapIs k w b n f) : b < w.heap.size := by
  obtain ⟨D, h1, h2⟩ := h
  exact h1.lt
theorem MapIs.below {k : TypeId} {w w' : World} {b n : Nat} {f : ByteArray → Option Value} (h : MapIs k w b n f) (hb : Below w.heap.size w w') : MapIs k w' b n f :=
  h.kept (row := none) ⟨hb.os, hb.tape, hb.output, hb.size, fun k hk _ => hb.block k hk⟩ (by simp)
theorem MapIs.heap {k : TypeId} {w w' : World} {b n : Nat} {f : ByteArray → Option Value} (h : MapIs k w b n f) (hb : w'.heap[b]? = w.heap[b]?) : MapIs k w' b n f := by
  obtain ⟨D, ⟨es, clock, h1, h3⟩, h2⟩ := h
  exact ⟨D, ⟨es, clock, hb.trans h1, h3⟩, h2⟩
theorem MapIs.mono {k : TypeId} {w : World} {b n m : Nat} {f : ByteArray → Option Value} (h : MapIs k w b n f) (hm : n ≤ m) : MapIs k w b m f := by
  obtain ⟨D, h1, h2⟩ := h
  exact ⟨D, h1.mono hm, h2⟩
theorem MapIs.look {k t e : TypeId} {w : World} {b n : Nat} {f : ByteArray → Option Value} (h : MapIs k w b n f) (hk : Tryz.prog.underlying k = some .string) (ht : Tryz.prog.underlying t = some (.map k e)) {z : Value} (hz : (zeroValue e).run Tryz.prog w = .ok z w)
    (s : ByteArray) (hs : s.size ≤ maxLen) : (Instr.lookup t (.map (some b)) (.string s) false).run Tryz.prog w = .ok ((f s).getD z) w := by
  obtain ⟨D, h1, h2⟩ := h
  obtain ⟨v, ps, hr, hv⟩ := h1.lookup (string_keyed hk) ht hz (zd := .held z) (zp := []) rfl (keyOf_string_mk hk hs)
  replace hv : DataW.held v = D.atKey (.string s.data.toList) (.held z) := congrArg Prod.fst (Option.some.inj hv)
  have e : v = (f s).getD z := by
    cases hf : f s with
    | none =>
      rw [atKey_of_not_has ((h2 s).1 hf)] at hv
      injection hv with hv
    | some u =>
      rw [((h2 s).2 u hf).2] at hv
      injection hv with hv
  exact e ▸ hr
theorem MapIs.look_ok {k t e : TypeId} {w : World} {b n : Nat} {f : ByteArray → Option Value} (h : MapIs k w b n f) (hk : Tryz.prog.underlying k = some .string) (ht : Tryz.prog.underlying t = some (.map k e)) {z : Value} (hz : (zeroValue e).run Tryz.prog w = .ok z w)
    (s : ByteArray) (hs : s.size ≤ maxLen) : (Instr.lookup t (.map (some b)) (.string s) true).run Tryz.prog w = .ok (.tuple #[(f s).getD z, .bool (f s).isSome]) w := by
  obtain ⟨D, h1, h2⟩ := h
  obtain ⟨v, ps, hr, hv⟩ := h1.look_ok (string_keyed hk) ht hz (zd := .held z) (zp := []) rfl (keyOf_string_mk hk hs)
  replace hv : DataW.held v = D.atKey (.string s.data.toList) (.held z) := congrArg Prod.fst (Option.some.inj hv)
  have e : v = (f s).getD z ∧ has D (.string s.data.toList) = (f s).isSome := by
    cases hf : f s with
    | none =>
      rw [atKey_of_not_has ((h2 s).1 hf)] at hv
      injection hv with hv
      exact ⟨hv, (h2 s).1 hf⟩
    | some u =>
      rw [((h2 s).2 u hf).2] at hv
      injection hv with hv
      exact ⟨hv, ((h2 s).2 u hf).1⟩
  rw [e.2] at hr
  exact e.1 ▸ hr
def upd (f : ByteArray → Option Value) (s : ByteArray) (v : Value) : ByteArray → Option Value := fun x => if x = s then some v else f x
theorem lit_ne {s x : ByteArray} (h : x ≠ s) : (Lit.string x.data.toList) ≠ .string s.data.toList := fun e => h (by
  injection e with e
  have : x.data = s.data := Array.ext' e
  cases x; cases s; cases this; rfl)
theorem MapIs.put {k t e : TypeId} {w : World} {b n : Nat} {f : ByteArray → Option Value} (h : MapIs k w b n f) (hk : Tryz.prog.underlying k = some .string) (ht : Tryz.prog.underlying t = some (.map k e)) (hn : n < maxLen) (s : ByteArray) (hs : s.size ≤ maxLen) (v : Value) :
    ∃ w', (Instr.mapUpdate t (.map (some b)) (.string s) v).run Tryz.prog w = .ok () w' ∧ MapIs k w' b (n + 1) (upd f s v) ∧ w.grownBy w' (some b) ∧ w'.heap.size = w.heap.size := by
  obtain ⟨D, h1, h2⟩ := h
  have hkey := keyOf_string_mk hk hs
  have hkl := (string_keyed hk).key hkey
  obtain ⟨w', hr, h3, h4⟩ := h1.store (string_keyed hk) ht hn (d := .held v) (ps := []) hkey rfl
  have hM : IsMap D := by obtain ⟨es, _, _, _, _, hD⟩ := h1; exact ⟨_, hD⟩
  refine ⟨w', hr, ⟨_, h3, fun x => ?_⟩, ?_, ?_⟩
  · by_cases e : x = s
    · subst e
      unfold upd
      rw [if_pos rfl]
      refine ⟨fun h => (by cases h), fun u hu => ?_⟩
      injection hu with hu
      subst hu
      exact ⟨has_put_same hM hkl _, fun zd => atKey_put_same hM hkl _ _⟩
    · unfold upd
      rw [if_neg e, has_put_other (lit_ne e)]
      refine ⟨(h2 x).1, fun u hu => ⟨((h2 x).2 u hu).1, fun zd => ?_⟩⟩
      rw [atKey_put_other (lit_ne e)]
      exact ((h2 x).2 u hu).2 zd
  · exact h4.grown
  · obtain ⟨es, clock, es', clock', _, rfl⟩ := h4
    simp [Go.ChangeMaps.setBlock]
/-- 'm[k] = v' in a walk. -/
theorem wpList_mapput {w : World} {ops : Array Oper} {rest : List Oper} {o : Oper} {a : Act} {Q : Exit → Act → World → Prop}
    (hg : o.guard = none) (m x v : Operand) (t : TypeId) (hop : o.op = Op.mapUpdate t m x v) {b : Nat} {s : ByteArray} {val : Value} {w' : World}
    (hr : (Instr.mapUpdate t (.map (some b)) (.string s) val).run Tryz.prog w = .ok () w') (hm : a.eval m = .map (some b)) (hx : a.eval x = .string s) (hv : a.eval v = val)
    (hK : wpList Tryz.prog ops Q rest (a.put o.dst undef) w') : wpList Tryz.prog ops Q (o :: rest) a w := by
  refine wpList_plain hg fun K' hK' => ?_
  unfold Oper.wp
  simp [execOp, hop, hm, hx, hv, hr, Result.andThen]
  exact hK' _ _ hK
end Go.Proofs.YtmnhnighlgpjmaaGreat

namespace Go.Proofs.YtmnhnighlgpjmaaGreat
set_option linter.unusedVariables false
set_option linter.unusedSimpArgs false
open Go.RowKit

theorem infoS : (Tryz.prog.info? 9).map (fun i => (i.zero, i.size, i.bytes)) = some (some (.string (bs [])), 1, 16) := by kernel_rfl
def sv (l : List Str) : List Value := l.map fun s => .string (bs s)
theorem sv_length (l : List Str) : (sv l).length = l.length := by simp [sv]
theorem sv_append (a b : List Str) : sv (a ++ b) = sv a ++ sv b := by simp [sv]
theorem sv_get (l : List Str) (i : Nat) : (sv l)[i]? = l[i]?.map (fun s => .string (bs s)) := by simp [sv]
theorem sv_one (l : List Str) : ∀ u ∈ sv l, u.oneCell' = true := fun u hu => by
  unfold sv at hu
  obtain ⟨z, _, rfl⟩ := List.mem_map.1 hu
  rfl
/-- A slice value that reads as the strings l, in memory below block B. -/
def StrRow (w : World) (B : Nat) (v : Value) (l : List Str) : Prop :=
  ∃ A cap, v = .slice A l.length cap ∧ l.length ≤ cap ∧ cap ≤ maxLen ∧ (A = none → cap = 0) ∧ (0 < l.length → ∃ b off, A = some ⟨b, off, none⟩ ∧ b < B ∧ ∀ i (h : i < l.length), w.cell? ⟨b, off + i, none⟩ = some (.string (bs l[i])))
theorem StrRow.below {w w' : World} {B : Nat} {v : Value} {l : List Str} (h : StrRow w B v l) (hb : Below B w w') : StrRow w' B v l := by
  obtain ⟨A, cap, hv, h1, h2, h3, hA⟩ := h
  refine ⟨A, cap, hv, h1, h2, h3, fun h0 => ?_⟩
  obtain ⟨b, off, ha, hB, hc⟩ := hA h0
  exact ⟨b, off, ha, hB, fun k hk => (hb.cell (p := ⟨b, off + k, none⟩) hB).trans (hc k hk)⟩
theorem StrRow.mono {w : World} {B B' : Nat} {v : Value} {l : List Str} (h : StrRow w B v l) (hb : B ≤ B') : StrRow w B' v l := by
  obtain ⟨A, cap, hv, h1, h2, h3, hA⟩ := h
  refine ⟨A, cap, hv, h1, h2, h3, fun h0 => ?_⟩
  obtain ⟨b, off, ha, hB, hc⟩ := hA h0
  exact ⟨b, off, ha, by omega, hc⟩
theorem StrRow.keep {w w' : World} {v : Value} {l : List Str} (h : StrRow w w.heap.size v l) (hb : Below w.heap.size w w') : StrRow w' w'.heap.size v l := (h.below hb).mono hb.size
theorem srow_nil' (w : World) (B : Nat) : StrRow w B (.slice none 0 0) [] := ⟨none, 0, rfl, by simp, by decide, fun _ => rfl, fun h => by simp at h⟩
/-- v owns the strings l. -/
def OwnS (w : World) (base : Nat) (v : Value) (l : List Str) : Prop := w.ownsRow base 9 1 v l.length (sv l)
theorem OwnS.nil (w : World) (base : Nat) : OwnS w base (.slice none 0 0) [] := World.ownsRow_nil _ _ _ _
theorem OwnS.form {w : World} {base : Nat} {v : Value} {l : List Str} (h : OwnS w base v l) : (v = .slice none 0 0 ∧ l = []) ∨ ∃ g cap cur, v = .slice (some ⟨g, 0, none⟩) l.length cap ∧ base ≤ g ∧ w.heap[g]? = some (.cells cur 9 (0, 0)) ∧ l.length ≤ cap ∧ cap ≤ maxLen ∧ cur.size = cap ∧ cur.toList.take l.length = sv l := by
  rcases h.2 with ⟨h1, h2⟩ | ⟨g, cap, cur, h1, h2, h3, h4, h5, h6, h7⟩
  · exact .inl ⟨h1, List.eq_nil_of_length_eq_zero h2⟩
  · exact .inr ⟨g, cap, cur, h1, h2, h3, h4, h5, by simpa using h6, by simpa using h7⟩
theorem OwnS.srow {w : World} {base : Nat} {v : Value} {l : List Str} (h : OwnS w base v l) : StrRow w w.heap.size v l := by
  rcases h.form with ⟨rfl, rfl⟩ | ⟨g, cap, cur, rfl, h2, h3, h4, h5, h6, h7⟩
  · exact srow_nil' _ _
  · refine ⟨_, cap, rfl, h4, h5, (fun h => by cases h), fun _ => ⟨g, 0, rfl, (Array.getElem?_eq_some_iff.1 h3).1, fun i hi => ?_⟩⟩
    rw [Nat.zero_add, cell_of_row _ _ _ _ _ _ h3, ← Array.getElem?_toList]
    have h8 : (cur.toList.take l.length)[i]? = (sv l)[i]? := by rw [h7]
    rw [List.getElem?_take, if_pos hi, sv_get, List.getElem?_eq_getElem hi] at h8
    exact h8
theorem OwnS.below {w w' : World} {base : Nat} {v : Value} {l : List Str} (h : OwnS w base v l) (hb : Below w.heap.size w w') : OwnS w' base v l :=
  World.ownsRow.kept h (grown_below hb none) (by cases v.ownBlock <;> simp)
theorem OwnS.lt {w : World} {base : Nat} {v : Value} {l : List Str} (h : OwnS w base v l) (k : Nat) (hk : v.ownBlock = some k) : base ≤ k ∧ k < w.heap.size := World.ownsRow.lt h k hk
/-- A slice value that reads as the declarations l. -/
def VRow (w : World) (B : Nat) (v : Value) (l : VL) : Prop :=
  ∃ A cap, v = .slice A l.length cap ∧ l.length ≤ cap ∧ cap ≤ maxLen ∧ (A = none → cap = 0) ∧ (0 < l.length → ∃ b off, A = some ⟨b, off, none⟩ ∧ b < B ∧ ∀ i (h : i < l.length), ∃ u, w.cell? ⟨b, off + i * 2, none⟩ = some (.string (bs l[i].nm)) ∧ w.cell? ⟨b, off + i * 2 + 1, none⟩ = some u ∧ StrRow w B u l[i].ps)
theorem VRow.below {w w' : World} {B : Nat} {v : Value} {l : VL} (h : VRow w B v l) (hb : Below B w w') : VRow w' B v l := by
  obtain ⟨A, cap, hv, h1, h2, h3, hA⟩ := h
  refine ⟨A, cap, hv, h1, h2, h3, fun h0 => ?_⟩
  obtain ⟨b, off, ha, hB, hc⟩ := hA h0
  refine ⟨b, off, ha, hB, fun k hk => ?_⟩
  obtain ⟨u, c1, c2, c3⟩ := hc k hk
  exact ⟨u, (hb.cell (p := ⟨b, off + k * 2, none⟩) hB).trans c1, (hb.cell (p := ⟨b, off + k * 2 + 1, none⟩) hB).trans c2, c3.below hb⟩
theorem VRow.mono {w : World} {B B' : Nat} {v : Value} {l : VL} (h : VRow w B v l) (hb : B ≤ B') : VRow w B' v l := by
  obtain ⟨A, cap, hv, h1, h2, h3, hA⟩ := h
  refine ⟨A, cap, hv, h1, h2, h3, fun h0 => ?_⟩
  obtain ⟨b, off, ha, hB, hc⟩ := hA h0
  refine ⟨b, off, ha, by omega, fun k hk => ?_⟩
  obtain ⟨u, c1, c2, c3⟩ := hc k hk
  exact ⟨u, c1, c2, c3.mono hb⟩
theorem VRow.keep {w w' : World} {v : Value} {l : VL} (h : VRow w w.heap.size v l) (hb : Below w.heap.size w w') : VRow w' w'.heap.size v l := (h.below hb).mono hb.size
/-- A map whose elements are the parents of the declarations. -/
def ParF (w : World) (B : Nat) (l : VL) (f : ByteArray → Option Value) : Prop := ∀ s : Str, (f (bs s) = none ∧ parOf l s = none) ∨ ∃ u ps, f (bs s) = some u ∧ parOf l s = some ps ∧ StrRow w B u ps
theorem ParF.below {w w' : World} {B : Nat} {l : VL} {f : ByteArray → Option Value} (h : ParF w B l f) (hb : Below B w w') : ParF w' B l f := fun s => by
  rcases h s with h | ⟨u, ps, h1, h2, h3⟩
  · exact .inl h
  · exact .inr ⟨u, ps, h1, h2, h3.below hb⟩
theorem ParF.nil (w : World) (B : Nat) : ParF w B [] (fun _ => none) := fun s => .inl ⟨rfl, rfl⟩
theorem ParF.old {w : World} {B : Nat} {l : VL} {d : Vd} {f : ByteArray → Option Value} (h : ParF w B l f) (hs : (f (bs d.nm)).isSome = true) : ParF w B (l ++ [d]) f := fun s => by
  rcases h s with ⟨h1, h2⟩ | ⟨u, ps, h1, h2, h3⟩
  · refine .inl ⟨h1, ?_⟩
    rw [parOf_snoc_new h2, if_neg (fun e => by rw [e, h1] at hs; cases hs)]
  · exact .inr ⟨u, ps, h1, by rw [parOf_snoc_old (by rw [h2]; rfl)]; exact h2, h3⟩
theorem ParF.new {w : World} {B : Nat} {l : VL} {d : Vd} {u : Value} {f : ByteArray → Option Value} (h : ParF w B l f) (hs : f (bs d.nm) = none) (hu : StrRow w B u d.ps) : ParF w B (l ++ [d]) (upd f (bs d.nm) u) := fun s => by
  by_cases e : s = d.nm
  · subst e
    refine .inr ⟨u, d.ps, by simp [upd], ?_, hu⟩
    rcases h d.nm with ⟨_, h2⟩ | ⟨_, _, h1, _⟩
    · rw [parOf_snoc_new h2, if_pos rfl]
    · rw [hs] at h1; cases h1
  · have e2 : bs s ≠ bs d.nm := fun h => e (bs_inj h)
    have e3 : upd f (bs d.nm) u (bs s) = f (bs s) := by unfold upd; rw [if_neg e2]
    rw [e3]
    rcases h s with ⟨h1, h2⟩ | ⟨u2, ps, h1, h2, h3⟩
    · exact .inl ⟨h1, by rw [parOf_snoc_new h2, if_neg (fun h => e h.symm)]⟩
    · exact .inr ⟨u2, ps, h1, by rw [parOf_snoc_old (by rw [h2]; rfl)]; exact h2, h3⟩
end Go.Proofs.YtmnhnighlgpjmaaGreat

namespace Go.Proofs.YtmnhnighlgpjmaaGreat
set_option linter.unusedVariables false
set_option linter.unusedSimpArgs false
open Go.RowKit

theorem zeroStrs (w : World) : (zeroValue 27).run Tryz.prog w = .ok (.slice none 0 0) w := by kernel_rfl
def ParPost (l : VL) (w : World) (e : Ending) (w' : World) : Prop := ∃ ms n f, e = .returned (.map (some ms)) ∧ MapIs 9 w' ms n f ∧ ParF w w.heap.size l f ∧ Below w.heap.size w w' ∧ w.heap.size ≤ ms ∧ n ≤ l.length
def PrRel (l : VL) (w : World) (i : Value) (wl : World) : Prop := ∃ k n f, i = .int .i64 (k : Nat) ∧ k ≤ l.length ∧ n ≤ k ∧ MapIs 9 wl w.heap.size n f ∧ ParF w w.heap.size (l.take k) f ∧ Below w.heap.size w wl
set_option maxRecDepth 100000 in
set_option maxHeartbeats 4000000 in
theorem parentsP (v : Value) (l : VL) (w : World) (hl : l.length ≤ 1000) (hs : ∀ d ∈ l, d.nm.length ≤ 1000) (hr : VRow w w.heap.size v l) :
    Calls Tryz.prog 25 #[v] w (ParPost l w) := by
  obtain ⟨A, cap, rfl, h1, h2, h3, hA⟩ := hr
  have HA := Lib.hid hA
  have HS := Lib.hid hs
  have hmm := @run_makeMap Tryz.prog
  have HM : Hid (MapIs 9 (w.alloc (.map #[] 0)) w.heap.size 0 (fun _ => none)) := Lib.hid (MapIs.new _ _)
  have HB : Hid (Below w.heap.size w (w.alloc (.map #[] 0))) := Lib.hid ((Below.refl _ _).alloc (Nat.le_refl _) _)
  clear hA hs h1 h2 h3
  go_enter Tryz.func25, Tryz.ntmps25
  go_wp2_with fail
  clear hmm
  go_loopw [11] (fun i wl => PrRel l w i wl) (fun i _ => l.length - (intOf i).toNat)
  case atStart => exact ⟨0, 0, _, rfl, by omega, by omega, HM.out, ParF.nil _ _, HB.out⟩
  case round =>
    clear HM HB
    obtain ⟨k, n, f, rfl, hk, hn, hM, hF, hB⟩ := hrel
    by_cases hlt : k < l.length
    · obtain ⟨b, off, rfl, hb1, hc⟩ := HA.out (by omega)
      obtain ⟨u, c1, c2, hu⟩ := hc k hlt
      have c1' := (hB.cell (p := ⟨b, off + k * 2, none⟩) hb1).trans c1
      have c2' := (hB.cell (p := ⟨b, off + k * 2 + 1, none⟩) hb1).trans c2
      have hTk : l.take (k + 1) = l.take k ++ [l[k]] := List.take_succ_eq_append_getElem hlt
      have hsz := HS.out _ (List.getElem_mem hlt)
      obtain ⟨d, hd⟩ : ∃ d, l[k] = d := ⟨_, rfl⟩
      rw [hd] at c1' hu hTk hsz
      obtain ⟨uA, ucap, hu1, _⟩ := id hu
      subst hu1
      obtain ⟨W, hW⟩ : ∃ W, wr.alloc (.cells #[.string (bs d.nm), .slice uA d.ps.length ucap] 32) = W := ⟨_, rfl⟩
      have hMW : MapIs 9 W w.heap.size n f := by rw [← hW]; exact hM.below (below_new wr _)
      have hBW : Below w.heap.size w W := by rw [← hW]; exact hB.alloc hB.size _
      have hbz : (bs d.nm).size ≤ maxLen := by rw [bs_size]; unfold maxLen; omega
      have hlk := hMW.look_ok (t := 40) Tryz.underlying9 Tryz.underlying40 (zeroStrs W) (bs d.nm) hbz
      rcases hF d.nm with ⟨hf0, hp0⟩ | ⟨u0, ps0, hf0, hp0, _⟩
      · rw [hf0] at hlk
        obtain ⟨w2, hput, hM2, hg2, hsz2⟩ := hMW.put (t := 40) Tryz.underlying9 Tryz.underlying40 (by unfold maxLen; omega) (bs d.nm) hbz (.slice uA d.ps.length ucap)
        have hF2 := hF.new hf0 hu
        rw [← hTk] at hF2
        have HF := Lib.hid hF2
        have HM2 := Lib.hid hM2
        have HB2 : Hid (Below w.heap.size w w2) := Lib.hid (hBW.trans (Below.of_grown hg2 hBW.size (Nat.le_refl _)))
        have HPUT := Lib.hid hput
        have HW := Lib.hid hW
        subst hW
        clear hM hF hB hc c1 c2 hu hTk hd hf0 hp0 hMW hBW hM2 hF2 hg2 hput hsz2
        go_wp2_with (at_mapUpdate; refine wpList_mapput rfl _ _ _ _ rfl HPUT.out rfl rfl rfl ?_)
        go_roundw
        case rel => exact ⟨k + 1, n + 1, _, by go_num, by omega, by omega, HM2.out, HF.out, HB2.out⟩
        case measure => simp [intOf]; omega
      · rw [hf0] at hlk
        have hF2 := hF.old (d := d) (by rw [hf0]; rfl)
        rw [← hTk] at hF2
        have HF := Lib.hid hF2
        have HM2 := Lib.hid hMW
        have HB2 := Lib.hid hBW
        subst hW
        clear hM hF hB hc c1 c2 hu hTk hd hf0 hp0 hMW hBW hF2
        go_wp2_with fail
        go_roundw
        case rel => exact ⟨k + 1, n, _, by go_num, by omega, by omega, HM2.out, HF.out, HB2.out⟩
        case measure => simp [intOf]; omega
    · have HP : Hid (ParPost l w (.returned (.map (some w.heap.size))) wr) := Lib.hid ⟨_, n, f, rfl, hM, by rw [List.take_of_length_le (by omega)] at hF; exact hF, hB, Nat.le_refl _, by omega⟩
      clear hM hF hB
      go_wp2_with fail
      go_ret
      exact HP.out
end Go.Proofs.YtmnhnighlgpjmaaGreat

namespace Go.Proofs.YtmnhnighlgpjmaaGreat
set_option linter.unusedVariables false
set_option linter.unusedSimpArgs false
open Go.RowKit

def seenF (S : List Str) (x : ByteArray) : Option Value := if x.data.toList ∈ S then some (.bool true) else none
theorem seenF_yes {S : List Str} {s : Str} (h : s ∈ S) : seenF S (bs s) = some (.bool true) := by unfold seenF; rw [if_pos (by simpa [bs] using h)]
theorem seenF_no {S : List Str} {s : Str} (h : s ∉ S) : seenF S (bs s) = none := by unfold seenF; rw [if_neg (by simpa [bs] using h)]
theorem seenF_upd (S : List Str) (s : Str) : upd (seenF S) (bs s) (.bool true) = seenF (S ++ [s]) := by
  funext x
  unfold upd seenF
  have e : x = bs s ↔ x.data.toList = s := ⟨fun h => by rw [h]; simp [bs], fun h => by rw [← h, bs_data]⟩
  by_cases h : x = bs s
  · rw [if_pos h, if_pos (by rw [e.1 h]; simp)]
  · rw [if_neg h]
    by_cases h2 : x.data.toList ∈ S
    · rw [if_pos h2, if_pos (List.mem_append_left _ h2)]
    · rw [if_neg h2, if_neg (fun h3 => by
        rcases List.mem_append.1 h3 with h3 | h3
        · exact h2 h3
        · exact h (e.2 (List.mem_singleton.1 h3)))]
structure LnA where
  base : Nat
  bs : Nat
  bo : Nat
  bl : Nat
  bp : Nat
  bv : Nat
  ms : Nat
  mp : Nat
  ov : Value
  np : Nat
  pf : ByteArray → Option Value
def LnA.fv (a : LnA) : Value := .func (.func 26) #[] #[.pointer (some ⟨a.bs, 0, none⟩), .pointer (some ⟨a.bo, 0, none⟩), .pointer (some ⟨a.bl, 0, none⟩), .pointer (some ⟨a.bp, 0, none⟩), .pointer (some ⟨a.bv, 0, none⟩)]
structure LnB (a : LnA) : Prop where
  bs : a.base ≤ a.bs
  bo : a.base ≤ a.bo
  bl : a.base ≤ a.bl
  bp : a.base ≤ a.bp
  bv : a.base ≤ a.bv
  ms : a.base ≤ a.ms
  mp : a.base ≤ a.mp
  nsp : a.ms ≠ a.mp
  nol : a.bo ≠ a.bl
structure LnAt (a : LnA) (l : VL) (w : World) (lv : Value) (S L : List Str) : Prop where
  b : LnB a
  seen : Boxed w a.bs 42 (.map (some a.ms))
  opn : Boxed w a.bo 27 a.ov
  lin : Boxed w a.bl 27 lv
  par : Boxed w a.bp 40 (.map (some a.mp))
  vis : Boxed w a.bv 43 a.fv
  sm : MapIs 9 w a.ms S.length (seenF S)
  pm : MapIs 9 w a.mp a.np a.pf
  pok : ParF w a.base l a.pf
  own : OwnS w a.base lv L
  le : a.base ≤ w.heap.size
theorem MapIs.not_cells {k : TypeId} {w : World} {b n : Nat} {f : ByteArray → Option Value} {c : Array Value} {t : TypeId} {x : Nat × Nat} (h : MapIs k w b n f) : w.heap[b]? ≠ some (.cells c t x) := by
  obtain ⟨D, ⟨es, clock, h1, _⟩, _⟩ := h
  rw [h1]; intro e; injection e with e; cases e
theorem MapIs.ne_box {k t : TypeId} {w : World} {b m n : Nat} {v : Value} {f : ByteArray → Option Value} (h : MapIs k w m n f) (hb : Boxed w b t v) : b ≠ m := fun e => h.not_cells (e ▸ hb)
theorem MapIs.ne_own {k e : TypeId} {w : World} {m n j base sz : Nat} {v : Value} {xs : List Value} {f : ByteArray → Option Value} (h : MapIs k w m n f) (ho : w.ownsRow base e sz v j xs) : some m ≠ v.ownBlock := by
  intro hv
  rcases ho.2 with ⟨rfl, _⟩ | ⟨g, cap, cur, rfl, _, hg, _⟩
  · simp [Value.ownBlock] at hv
  · simp [Value.ownBlock] at hv
    subst hv
    exact h.not_cells hg
theorem some_ne {a b : Nat} (h : a ≠ b) : some a ≠ some b := fun e => h (by injection e)
theorem own_or {v : Value} {row : Option Nat} (h : row ≠ v.ownBlock) : v.ownBlock = none ∨ v.ownBlock ≠ row := .inr (fun e => h e.symm)
theorem LnAt.below {a : LnA} {l : VL} {w w' : World} {lv : Value} {S L : List Str} (h : LnAt a l w lv S L) (hb : Below w.heap.size w w') : LnAt a l w' lv S L := by
  have hg := grown_below hb none
  exact ⟨h.b, h.seen.kept hg (by simp), h.opn.kept hg (by simp), h.lin.kept hg (by simp), h.par.kept hg (by simp), h.vis.kept hg (by simp), h.sm.below hb, h.pm.below hb, h.pok.below (hb.mono h.le), h.own.below hb, Nat.le_trans h.le hb.size⟩
theorem LnAt.mark {a : LnA} {l : VL} {w w1 : World} {lv : Value} {S L : List Str} (h : LnAt a l w lv S L) (s : Str) (hM : MapIs 9 w1 a.ms (S.length + 1) (upd (seenF S) (Go.Proofs.YtmnhnighlgpjmaaGreat.bs s) (.bool true))) (hg : w.grownBy w1 (some a.ms)) : LnAt a l w1 lv (S ++ [s]) L := by
  refine ⟨h.b, h.seen.kept hg (some_ne (h.sm.ne_box h.seen)), h.opn.kept hg (some_ne (h.sm.ne_box h.opn)), h.lin.kept hg (some_ne (h.sm.ne_box h.lin)), h.par.kept hg (some_ne (h.sm.ne_box h.par)), h.vis.kept hg (some_ne (h.sm.ne_box h.vis)), ?_, h.pm.kept hg (some_ne (fun e => h.b.nsp e.symm)), h.pok.below (Below.of_grown hg h.le h.b.ms), World.ownsRow.kept h.own hg (own_or (h.sm.ne_own h.own)), Nat.le_trans h.le hg.size⟩
  rw [seenF_upd] at hM
  simpa using hM
theorem box_ne {w : World} {b c : Nat} {t u : TypeId} {v x : Value} (h : Boxed w b t v) (k : Boxed w c u x) (hn : t ≠ u) : b ≠ c := fun e => by
  subst e
  unfold Boxed at h k
  rw [h] at k; injection k with k; injection k with _ k _
  exact hn k
theorem LnAt.push {a : LnA} {l : VL} {w w3 : World} {lv lv' : Value} {S L : List Str} (h : LnAt a l w lv S L) (s : Str) (ho : w3.ownsRow a.base 9 1 lv' (L.length + 1) (sv L ++ [.string (Go.Proofs.YtmnhnighlgpjmaaGreat.bs s)])) (hg : w.grownBy w3 lv.ownBlock) :
    w3.cell? ⟨a.bl, 0, none⟩ = some lv ∧ w3.frozen? ⟨a.bl, 0, none⟩ = false ∧ LnAt a l (w3.setCell ⟨a.bl, 0, none⟩ lv') lv' S (L ++ [s]) ∧ Below a.base w (w3.setCell ⟨a.bl, 0, none⟩ lv') := by
  have nb : ∀ {b : Nat} {t : TypeId} {v : Value}, Boxed w b t v → t ≠ 9 → some b ≠ lv.ownBlock := fun hb hne => not_blk h.own (show Blk w _ _ #[_] from hb) hne
  have k1 := h.seen.kept hg (nb h.seen (by decide))
  have k2 := h.opn.kept hg (nb h.opn (by decide))
  have k3 := h.lin.kept hg (nb h.lin (by decide))
  have k4 := h.par.kept hg (nb h.par (by decide))
  have k5 := h.vis.kept hg (nb h.vis (by decide))
  have k6 := h.sm.kept hg (h.sm.ne_own h.own)
  have k7 := h.pm.kept hg (h.pm.ne_own h.own)
  have hB3 : Below a.base w w3 := by
    cases e : lv.ownBlock with
    | none => rw [e] at hg; exact (⟨hg.os, hg.tape, hg.output, hg.size, fun k hk => hg.block k (Nat.lt_of_lt_of_le hk h.le) (by simp)⟩ : Below a.base w w3)
    | some g => rw [e] at hg; exact Below.of_grown hg h.le (h.own.lt g e).1
  have hg2 := grown_set w3 a.bl 0 lv'
  have hB4 := hB3.setCell (p := ⟨a.bl, 0, none⟩) h.b.bl lv'
  have ho2 : OwnS w3 a.base lv' (L ++ [s]) := by
    unfold OwnS
    rw [sv_append, List.length_append]
    exact ho
  refine ⟨k3.cell, k3.frozen, ⟨h.b, k1.kept hg2 (some_ne (box_ne k1 k3 (by decide))), k2.kept hg2 (some_ne h.b.nol), k3.set lv', k4.kept hg2 (some_ne (box_ne k4 k3 (by decide))), k5.kept hg2 (some_ne (box_ne k5 k3 (by decide))), k6.kept hg2 (some_ne (fun e => k6.ne_box k3 e.symm)), k7.kept hg2 (some_ne (fun e => k7.ne_box k3 e.symm)), h.pok.below hB4, World.ownsRow.kept ho2 hg2 (own_or (not_blk ho2 (show Blk w3 _ _ #[_] from k3) (by decide))), ?_⟩, hB4⟩
  exact Nat.le_trans h.le hB4.size
end Go.Proofs.YtmnhnighlgpjmaaGreat

namespace Go.Proofs.YtmnhnighlgpjmaaGreat
set_option linter.unusedVariables false
set_option linter.unusedSimpArgs false
open Go.RowKit

theorem zeroBool (w : World) : (zeroValue 4).run Tryz.prog w = .ok (.bool false) w := by kernel_rfl
def VisPost (a : LnA) (l : VL) (v : Str) (L : List Str) (w : World) (e : Ending) (w' : World) : Prop := e = .returned (.tuple #[]) ∧ ∃ lv' L', Vis l v L L' ∧ LnAt a l w' lv' L' L' ∧ Below a.base w w'
def VkRel (a : LnA) (l : VL) (v : Str) (L : List Str) (w : World) (i : Value) (wl : World) : Prop := ∃ (k : Nat) (lv' : Value) (L' : List Str), i = .int .i64 k ∧ k ≤ (pars l v).length ∧ VisK l v L k L' ∧ LnAt a l wl lv' L' L' ∧ Below a.base w wl
theorem LnAt.look {a : LnA} {l : VL} {w : World} {lv : Value} {S L : List Str} (h : LnAt a l w lv S L) (v : Str) (hv : v.length ≤ 1000) : (Instr.lookup 42 (.map (some a.ms)) (.string (bs v)) false).run Tryz.prog w = .ok ((seenF S (bs v)).getD (.bool false)) w :=
  h.sm.look Tryz.underlying9 Tryz.underlying42 (zeroBool w) (bs v) (by rw [bs_size]; unfold maxLen; omega)
theorem LnAt.plook {a : LnA} {l : VL} {w : World} {lv : Value} {S L : List Str} (h : LnAt a l w lv S L) (v : Str) (hv : v.length ≤ 1000) : ∃ pu, (Instr.lookup 40 (.map (some a.mp)) (.string (bs v)) false).run Tryz.prog w = .ok pu w ∧ StrRow w a.base pu (pars l v) := by
  have hr := h.pm.look Tryz.underlying9 Tryz.underlying40 (zeroStrs w) (bs v) (by rw [bs_size]; unfold maxLen; omega)
  refine ⟨_, hr, ?_⟩
  unfold pars
  rcases h.pok v with ⟨h1, h2⟩ | ⟨u, ps, h1, h2, h3⟩
  · rw [h1, h2]; exact srow_nil' _ _
  · rw [h1, h2]; exact h3
set_option maxRecDepth 100000 in
set_option maxHeartbeats 4000000 in
theorem vis_old {a : LnA} {l : VL} {w : World} {lv : Value} {L : List Str} (h : LnAt a l w lv L L) (v : Str) (d : Int) (hv : v.length ≤ 1000) (hn : L.Nodup) (hm : v ∈ L) :
    Calls Tryz.prog 26 #[.string (bs v), .int .i64 d, .pointer (some ⟨a.bs, 0, none⟩), .pointer (some ⟨a.bo, 0, none⟩), .pointer (some ⟨a.bl, 0, none⟩), .pointer (some ⟨a.bp, 0, none⟩), .pointer (some ⟨a.bv, 0, none⟩)] w (VisPost a l v L w) := by
  have c1 := h.seen.cell
  have hlk := h.look v hv
  rw [seenF_yes hm, Option.getD_some] at hlk
  have HF : Hid (VisPost a l v L w (.returned (.tuple #[])) w) := Lib.hid ⟨rfl, lv, L, Vis.old hn hm, h, Below.refl _ _⟩
  clear h hm hn
  go_enter Tryz.func26, Tryz.ntmps26
  go_wp2_with fail
  go_end0
  exact HF.out
set_option maxRecDepth 100000 in
set_option maxHeartbeats 8000000 in
theorem visitP {a : LnA} {l : VL} {U : List Str} (hU : Uni l U) : ∀ (n : Nat) (w : World) (lv : Value) (L : List Str) (v : Str) (d : Int), cnt l L < n → LnAt a l w lv L L → L.Nodup → (∀ x ∈ L, x ∈ U) → v ∈ U → 0 ≤ d → d + cnt l L ≤ 4000 →
    Calls Tryz.prog 26 #[.string (bs v), .int .i64 d, .pointer (some ⟨a.bs, 0, none⟩), .pointer (some ⟨a.bo, 0, none⟩), .pointer (some ⟨a.bl, 0, none⟩), .pointer (some ⟨a.bp, 0, none⟩), .pointer (some ⟨a.bv, 0, none⟩)] w (VisPost a l v L w) := by
  intro n
  induction n with
  | zero => intro w lv L v d hn; omega
  | succ n ih =>
    intro w lv L v d hn h hnd hL hv hd0 hd
    have hvl := hU.sz v hv
    by_cases hm : v ∈ L
    · exact vis_old h v d hvl hnd hm
    have hLl := hU.le hnd hL
    obtain ⟨i0, hi, hz0, hz1, hz2⟩ := info_parts infoS
    have c1 := h.seen.cell
    have hlk := h.look v hvl
    rw [seenF_no hm, Option.getD_none] at hlk
    have hd2 : (d == 4096) = false := by
      have : d ≠ 4096 := by omega
      simpa using this
    obtain ⟨w1, hput, hM1, hg1, hs1⟩ := h.sm.put Tryz.underlying9 (t := 42) Tryz.underlying42 (by unfold maxLen; omega) (bs v) (by rw [bs_size]; unfold maxLen; omega) (.bool true)
    have h1 := h.mark v hM1 hg1
    have hB1 : Below a.base w w1 := Below.of_grown hg1 h.le h.b.ms
    have cl1 := h1.lin.cell
    have h2 := h1.below (below_new w1 (.cells #[.string (bs v)] 9))
    obtain ⟨lv', w3, hrun, ho3, hg3, _, _⟩ := run_append_own_at (P := Tryz.prog) (w1.alloc (.cells #[.string (bs v)] 9)) a.base 27 27 9 i0 (.string (bs [])) 1 16 Tryz.underlying27 hi hz0 hz1 hz2 rfl (by decide) _ _ _ h2.own ⟨w1.heap.size, 0, none⟩ 1 1 [.string (bs v)] rfl (fun j u hu => by
      cases j with
      | zero =>
        simp at hu
        subst hu
        exact (Blk.new w1 _ _).cell 0
      | succ j => simp at hu) (fun u hu => by rw [List.mem_singleton.1 hu]; rfl) (by unfold maxLen; omega) (by omega) h2.le
    obtain ⟨hcl3, hfz, h4, hB4⟩ := h2.push v ho3 hg3
    obtain ⟨g', cap', rfl⟩ := own_succ ho3
    have hBw : Below a.base w (w3.setCell ⟨a.bl, 0, none⟩ (.slice (some ⟨g', 0, none⟩) (L.length + 1) cap')) := (hB1.alloc h1.le _).trans hB4
    obtain ⟨W, hW⟩ : ∃ W, w3.setCell ⟨a.bl, 0, none⟩ (.slice (some ⟨g', 0, none⟩) (L.length + 1) cap') = W := ⟨_, rfl⟩
    rw [hW] at h4 hBw
    have cp := h4.par.cell
    obtain ⟨pu, hpl, hps⟩ := h4.plook v hvl
    obtain ⟨pA, pcap, rfl, hp1, hp2, hp3, hpr⟩ := hps
    have hpm : (pars l v).length ≤ maxLen := by omega
    have hcn : (pars l v) ≠ [] → cnt l (L ++ [v]) + 1 ≤ cnt l L := fun hne => by
      obtain ⟨p, hp⟩ := List.exists_mem_of_ne_nil _ hne
      obtain ⟨dd, hdd, hnm, _⟩ := mem_pars hp
      exact cnt_lt hm ⟨dd, hdd, hnm⟩
    have hLu : ∀ x ∈ L, x ∈ U := hL
    have HPUT := Lib.hid hput
    have HRUN := Lib.hid hrun
    have H4 := Lib.hid h4
    have HBW := Lib.hid hBw
    have HPR := Lib.hid hpr
    have HVK := Lib.hid (VisK.start (l := l) hnd hm)
    have HCN := Lib.hid hcn
    have HL := Lib.hid hL
    have HW := Lib.hid hW
    have IH := Lib.hid ih
    clear ih hput hrun h4 hBw hpr hcn hL hW hm hnd h h1 h2 hM1 hg1 hs1 hB1 hB4 ho3 hg3 hLu hLl hz0 hz1 hz2 hi
    unfold maxLen at hpm
    have hWr := HW.out
    go_enter Tryz.func26, Tryz.ntmps26
    go_wp2_with first | (at_mapUpdate; refine wpList_mapput rfl _ _ _ _ rfl HPUT.out rfl rfl rfl ?_) | (at_builtin; go_loud (refine Lib.wpList_append_run_sl _ rfl _ _ 27 rfl _ _ rfl rfl HRUN.out ?_))
    clear hWr c1 hlk cl1 hfz hcl3 cp hpl
    go_loopw [30] (fun i wl => VkRel a l v L w i wl) (fun i _ => (pars l v).length - (intOf i).toNat)
    case atStart => exact ⟨0, _, _, rfl, by omega, HVK.out, H4.out, HBW.out⟩
    case round =>
      obtain ⟨k, lv2, L2, rfl, hk, hvk, hA, hB⟩ := hrel
      by_cases hlt : k < (pars l v).length
      · obtain ⟨b, off, rfl, hb1, hc⟩ := HPR.out (by omega)
        have q := (hB.cell (p := ⟨b, off + k, none⟩) hb1).trans ((HBW.out.cell (p := ⟨b, off + k, none⟩) hb1).symm.trans (hc k hlt))
        have cv : wr.cell? ⟨a.bv, 0, none⟩ = some (.func (.func 26) #[] #[.pointer (some ⟨a.bs, 0, none⟩), .pointer (some ⟨a.bo, 0, none⟩), .pointer (some ⟨a.bl, 0, none⟩), .pointer (some ⟨a.bp, 0, none⟩), .pointer (some ⟨a.bv, 0, none⟩)]) := hA.vis.cell
        have hpU := hU.cl v hv _ (List.getElem_mem hlt)
        have hcm := cnt_mono (l := l) (fun x hx => hvk.pre.subset hx)
        have hcl := HCN.out (fun e => by rw [e] at hlt; simp at hlt)
        have hst := fun L5 => hvk.step (L'' := L5) hlt
        obtain ⟨p, hp⟩ : ∃ p, (pars l v)[k] = p := ⟨_, rfl⟩
        rw [hp] at q hpU
        simp only [hp] at hst
        have HC := Lib.hid (IH.out wr lv2 L2 p (d + 1) (by omega) hA hvk.nd (hvk.uni hU HL.out hv) hpU (by omega) (by omega))
        have HST := Lib.hid hst
        have HB := Lib.hid hB
        have hd4 : d ≤ 4000 := by omega
        have hki : (k : Int) < (pars l v).length := by omega
        clear hc hpU hcm hcl hst hp hvk hA hB
        go_wp2_with fail
        refine HC.out.mono ?_; rintro e w5 ⟨rfl, lv5, L5, hv5, hA5, hB5⟩
        have H5 := Lib.hid hv5
        have HA5 := Lib.hid hA5
        have HB5 := Lib.hid (HB.out.trans hB5)
        clear hv5 hA5 hB5 HC q cv
        go_wp2_with fail
        go_roundw
        case rel => exact ⟨k + 1, lv5, L5, by go_num, by omega, HST.out _ H5.out, HA5.out, HB5.out⟩
        case measure => simp [intOf]; omega
      · have HF : Hid (VisPost a l v L w (.returned (.tuple #[])) wr) := Lib.hid ⟨rfl, lv2, L2, hvk.over (by omega), hA, hB⟩
        clear hvk hA hB
        go_wp2_with fail
        go_end0
        exact HF.out
end Go.Proofs.YtmnhnighlgpjmaaGreat

namespace Go.Proofs.YtmnhnighlgpjmaaGreat
set_option linter.unusedVariables false
set_option linter.unusedSimpArgs false
open Go.RowKit Go.Sort Go.Proofs

theorem heap_putS {w : World} {g n k : Nat} {cur : Array Value} {e : TypeId} {fr : Nat × Nat} (d : Array Str) (hb : w.heap[g]? = some (.cells cur e fr)) :
    (putRow encStr (Sort.ahead w n) g k d).heap[g]? = some (.cells (putCells encStr k d cur) e fr) := by
  have hg : g < w.heap.size := (Array.getElem?_eq_some_iff.1 hb).1
  simp [putRow, mapBlock, Sort.ahead, Array.getElem?_modify, hb, onCells]
theorem grown_putS {w : World} {g n k : Nat} (d : Array Str) : w.grownBy (putRow encStr (Sort.ahead w n) g k d) (some g) := by
  refine ⟨rfl, rfl, rfl, by simp [putRow, mapBlock, Sort.ahead], fun j hj hne => ?_⟩
  have : g ≠ j := fun e => hne (by rw [e])
  simp [putRow, mapBlock, Sort.ahead, Array.getElem?_modify, this]
theorem holds_ownS {w : World} {base g cap n : Nat} {a b : List Str} (h : OwnS w base (.slice (some ⟨g, 0, none⟩) n cap) (a ++ b)) : Holds encStr w g a.length b.toArray := by
  rcases h.form with ⟨hv, _⟩ | ⟨g2, cap2, cur, hv, h2, h3, h4, h5, h6, h7⟩
  · cases hv
  · injection hv with e1 e2 e3
    injection e1 with e1
    injection e1 with e1 _ _
    subst e1
    intro j hj
    have hj' : j < b.length := by simpa using hj
    refine ⟨?_, by simp [World.frozen?, h3]⟩
    rw [cell_of_row _ _ _ _ _ _ h3, ← Array.getElem?_toList]
    have h8 : (cur.toList.take (a ++ b).length)[a.length + j]? = (sv (a ++ b))[a.length + j]? := by rw [h7]
    rw [List.getElem?_take, if_pos (by rw [List.length_append]; omega), sv_get, List.getElem?_append_right (by omega), Nat.add_sub_cancel_left, List.getElem?_eq_getElem hj'] at h8
    rw [h8]
    simp [hj', encStr, bs]
theorem own_putS {w : World} {base g cap n m : Nat} {a b ts : List Str} (h : OwnS w base (.slice (some ⟨g, 0, none⟩) n cap) (a ++ b)) (hl : ts.length = b.length) : OwnS (putRow encStr (Sort.ahead w m) g a.length ts.toArray) base (.slice (some ⟨g, 0, none⟩) n cap) (a ++ ts) := by
  rcases h.form with ⟨hv, _⟩ | ⟨g2, cap2, cur, hv, h2, h3, h4, h5, h6, h7⟩
  · cases hv
  · injection hv with e1 e2 e3
    injection e1 with e1
    injection e1 with e1 _ _
    subst e1; subst e3; subst e2
    have hlen : (a ++ ts).length = (a ++ b).length := by rw [List.length_append, List.length_append, hl]
    unfold OwnS
    rw [hlen]
    refine ⟨by rw [sv_length, hlen, Nat.mul_one], .inr ⟨g, cap, _, rfl, h2, heap_putS _ h3, h4, h5, by simp [putCells, h6], ?_⟩⟩
    rw [Nat.mul_one]
    apply List.ext_getElem?
    intro j
    by_cases hj : j < (a ++ b).length
    · rw [List.getElem?_take_of_lt hj, Array.getElem?_toList]
      have hjc : j < cur.size := by omega
      by_cases hja : j < a.length
      · have h8 : (cur.toList.take (a ++ b).length)[j]? = (sv (a ++ b))[j]? := by rw [h7]
        rw [List.getElem?_take_of_lt hj, Array.getElem?_toList, sv_get, List.getElem?_append_left hja] at h8
        rw [sv_get, List.getElem?_append_left hja, ← h8]
        simp [putCells, hjc, show ¬ a.length ≤ j by omega]
      · have hjt : j - a.length < ts.length := by rw [List.length_append] at hj; omega
        rw [sv_get, List.getElem?_append_right (by omega), List.getElem?_eq_getElem hjt]
        simp [putCells, hjc, show a.length ≤ j by omega, show j < a.length + ts.length by omega, hjt, encStr, bs]
    · rw [List.getElem?_take_eq_none (by omega), List.getElem?_eq_none (by rw [sv_length]; omega)]
def srtS (l : List Str) : List Str := l.mergeSort fun x y => decide (x ≤ y)
theorem srtS_len (l : List Str) : (srtS l).length = l.length := by unfold srtS; simp
/-- slices.Sort of the end of a row. -/
theorem sortSP {g cap n : Nat} {a b : List Str} {w : World} {base o c : Nat} (h : OwnS w base (.slice (some ⟨g, 0, none⟩) n cap) (a ++ b)) (hb : b ≠ []) (ho : o = a.length) (hl : b.length ≤ 1000000) :
    Calls Tryz.prog 27 #[.slice (some ⟨g, o, none⟩) b.length c] w fun e w' => e = .returned (.tuple #[]) ∧ OwnS w' base (.slice (some ⟨g, 0, none⟩) n cap) (a ++ srtS b) ∧ w.grownBy w' (some g) := by
  subst ho
  rcases h.form with ⟨hv, _⟩ | ⟨g2, cap2, cur, hv, h2, h3, _⟩
  · cases hv
  · injection hv with e1 e2 e3
    injection e1 with e1
    injection e1 with e1 _ _
    subst e1
    refine (Tryz.slices_Sort_string g a.length c b w (holds_ownS h) (Array.getElem?_eq_some_iff.1 h3).1 (by omega)).mono ?_
    rintro e w' ⟨rfl, m, os, rfl⟩
    have h8 := own_putS (m := m) h (ts := b.mergeSort fun x y => decide (x ≤ y)) (by simp)
    have hg : (putRow encStr (Sort.ahead w m) g a.length (b.mergeSort fun x y => decide (x ≤ y)).toArray).grownBy (grow (putRow encStr (Sort.ahead w m) g a.length (b.mergeSort fun x y => decide (x ≤ y)).toArray) os) none := ⟨rfl, rfl, rfl, by simp, fun k hk _ => heap_grow_old _ _ hk⟩
    refine ⟨rfl, World.ownsRow.kept h8 hg (.inr (by simp [Value.ownBlock])), ?_⟩
    exact (grown_putS _).trans ⟨hg.os, hg.tape, hg.output, hg.size, fun k hk _ => hg.block k hk (by simp)⟩
theorem sortS_none (A : Option Addr) (c : Nat) (w : World) : Calls Tryz.prog 27 #[.slice A 0 c] w fun e w' => e = .returned (.tuple #[]) ∧ w = w' := by
  refine (Tryz.slices_Sort_string_none A c w).mono ?_
  rintro e w' ⟨rfl, rfl⟩
  exact ⟨rfl, rfl⟩
theorem grown_refl (w : World) (r : Option Nat) : w.grownBy w r := ⟨rfl, rfl, rfl, Nat.le_refl _, fun _ _ _ => rfl⟩
theorem sortTail {g cap n : Nat} {v : Str} {t : List Str} {w : World} {base c : Nat} (h : OwnS w base (.slice (some ⟨g, 0, none⟩) n cap) (v :: t)) (hl : t.length ≤ 1000000) :
    Calls Tryz.prog 27 #[.slice (some ⟨g, 1, none⟩) t.length c] w fun e w' => e = .returned (.tuple #[]) ∧ OwnS w' base (.slice (some ⟨g, 0, none⟩) n cap) (v :: srtS t) ∧ w.grownBy w' (some g) := by
  by_cases ht : t = []
  · subst ht
    refine (sortS_none _ c w).mono ?_
    rintro e w' ⟨rfl, rfl⟩
    exact ⟨rfl, by simpa [srtS] using h, grown_refl _ _⟩
  · exact sortSP (a := [v]) h ht rfl hl
/-- slices.Sort of a whole row. -/
theorem sortAll {v : Value} {t : List Str} {w : World} {base : Nat} (h : OwnS w base v t) (hl : t.length ≤ 1000000) :
    Calls Tryz.prog 27 #[v] w fun e w' => e = .returned (.tuple #[]) ∧ OwnS w' base v (srtS t) ∧ w.grownBy w' v.ownBlock := by
  rcases h.form with ⟨rfl, rfl⟩ | ⟨g, cap, cur, rfl, h2, h3, h4, h5, h6, h7⟩
  · refine (sortS_none none 0 w).mono ?_
    rintro e w' ⟨rfl, rfl⟩
    exact ⟨rfl, by simpa [srtS] using h, grown_refl _ _⟩
  · by_cases ht : t = []
    · subst ht
      refine (sortS_none _ cap w).mono ?_
      rintro e w' ⟨rfl, rfl⟩
      exact ⟨rfl, by simpa [srtS] using h, grown_refl _ _⟩
    · exact sortSP (a := []) h ht rfl hl
theorem containsS_eq (l : List Str) (x : Str) : Lib.containsS (l.map bs) (bs x) = decide (x ∈ l) := by
  rw [Bool.eq_iff_iff, Lib.containsS_iff, decide_eq_true_iff, List.mem_map]
  exact ⟨fun ⟨y, h1, h2⟩ => bs_inj h2 ▸ h1, fun h => ⟨x, h, rfl⟩⟩
/-- slices.Contains. -/
theorem containsP (v : Value) (l : List Str) (x : Str) (w : World) (B : Nat) (h : StrRow w B v l) (hl : l.length ≤ 1000000) :
    Calls Tryz.prog 24 #[v, .string (bs x)] w fun e w' => e = .returned (.bool (decide (x ∈ l))) ∧ w = w' := by
  obtain ⟨A, cap, rfl, h1, h2, h3, hA⟩ := h
  rcases Nat.eq_zero_or_pos l.length with h0 | h0
  · obtain rfl : l = [] := List.eq_nil_of_length_eq_zero h0
    refine (Tryz.slices_Contains_string_empty A cap (bs x) w).mono ?_
    rintro e w' ⟨rfl, rfl⟩
    exact ⟨by simp, rfl⟩
  · obtain ⟨b, off, rfl, hb, hc⟩ := hA h0
    refine (Tryz.slices_Contains_string b off l.length cap (l.map bs) (bs x) w (by simp) (by omega) (fun j hj => ?_)).mono ?_
    · have hj' : j < l.length := by simpa using hj
      rw [hc j hj', List.getD_eq_getElem?_getD, List.getElem?_map, List.getElem?_eq_getElem hj']
      rfl
    · rintro e w' ⟨rfl, rfl⟩
      refine ⟨?_, rfl⟩
      rw [List.take_of_length_le (by simp), containsS_eq]
end Go.Proofs.YtmnhnighlgpjmaaGreat

namespace Go.Proofs.YtmnhnighlgpjmaaGreat
set_option linter.unusedVariables false
set_option linter.unusedSimpArgs false
open Go.RowKit

def LinePost (l : VL) (v : Str) (w : World) (e : Ending) (w' : World) : Prop := ∃ u L, e = .returned u ∧ LineOk l v L ∧ L.length ≤ 200 ∧ StrRow w' w'.heap.size u L ∧ Below w.heap.size w w'
def LoRel (a : LnA) (l : VL) (v : Str) (W : World) (g : Nat) (wl : World) : Prop := (g = 1 ∧ wl = W) ∨ (g = 0 ∧ ∃ lv L, Vis l v [] L ∧ LnAt a l wl lv L L ∧ Below a.base W wl)
theorem seenF_nil : seenF [] = fun _ => none := by funext x; simp [seenF]
/-- The memory as Line begins. -/
theorem ln_start {w w1 : World} {l : VL} {v : Str} {mp np : Nat} {pf : ByteArray → Option Value} (hM : MapIs 9 w1 mp np pf) (hF : ParF w w.heap.size l pf) (hB : Below w.heap.size w w1) (hmp : w.heap.size ≤ mp) {W : World} {fv : Value}
    (hfv : fv = .func (.func 26) #[] #[.pointer (some ⟨w1.heap.size + 1 + 1, 0, none⟩), .pointer (some ⟨w1.heap.size + 1 + 1 + 1 + 1 + 1, 0, none⟩), .pointer (some ⟨w1.heap.size + 1 + 1 + 1, 0, none⟩), .pointer (some ⟨w1.heap.size, 0, none⟩), .pointer (some ⟨w1.heap.size + 1 + 1 + 1 + 1 + 1 + 1, 0, none⟩)])
    (hW : (((((((w1.alloc (.cells #[.map (some mp)] 40)).alloc (.map #[] 0)).alloc (.cells #[.map (some (w1.heap.size + 1))] 42)).alloc (.cells #[.slice none 0 0] 27)).alloc (.cells #[.string (bs v)] 9)).alloc (.cells #[.slice (some ⟨w1.heap.size + 1 + 1 + 1 + 1, 0, none⟩) 1 1] 27)).alloc (.cells #[fv] 43)) = W) :
    W.cell? ⟨w1.heap.size + 1 + 1 + 1 + 1 + 1, 0, none⟩ = some (.slice (some ⟨w1.heap.size + 1 + 1 + 1 + 1, 0, none⟩) 1 1) ∧ W.frozen? ⟨w1.heap.size + 1 + 1 + 1 + 1 + 1, 0, none⟩ = false ∧ W.cell? ⟨w1.heap.size + 1 + 1 + 1 + 1, 0, none⟩ = some (.string (bs v)) ∧ Below w.heap.size w W ∧
      LnAt ⟨w.heap.size, w1.heap.size + 1 + 1, w1.heap.size + 1 + 1 + 1 + 1 + 1, w1.heap.size + 1 + 1 + 1, w1.heap.size, w1.heap.size + 1 + 1 + 1 + 1 + 1 + 1, w1.heap.size + 1, mp, .slice (some ⟨w1.heap.size + 1 + 1 + 1 + 1, 0, none⟩) 0 1, np, pf⟩ l (W.setCell ⟨w1.heap.size + 1 + 1 + 1 + 1 + 1, 0, none⟩ (.slice (some ⟨w1.heap.size + 1 + 1 + 1 + 1, 0, none⟩) 0 1)) (.slice none 0 0) [] [] := by
  have hs1 := size_new w1 (.cells #[.map (some mp)] 40)
  have b1 := Boxed.new w1 40 (.map (some mp))
  have m1 := hM.below (below_new w1 (.cells #[.map (some mp)] 40))
  have B1 := hB.alloc hB.size (.cells #[.map (some mp)] 40)
  obtain ⟨W1, hW1⟩ : ∃ W1, w1.alloc (.cells #[.map (some mp)] 40) = W1 := ⟨_, rfl⟩
  rw [hW1] at hW hs1 b1 m1 B1
  have hs2 := size_new W1 (.map #[] 0)
  have n2 := MapIs.new 9 W1
  have b1 := b1.alloc (.map #[] 0)
  have m1 := m1.below (below_new W1 (.map #[] 0))
  have B2 := B1.alloc B1.size (.map #[] 0)
  obtain ⟨W2, hW2⟩ : ∃ W2, W1.alloc (.map #[] 0) = W2 := ⟨_, rfl⟩
  rw [hW2] at hW hs2 n2 b1 m1 B2
  have o3 := Obj.cells #[.map (some (w1.heap.size + 1))] 42
  have hs3 := size_new W2 (.cells #[.map (some (w1.heap.size + 1))] 42)
  have b3 := Boxed.new W2 42 (.map (some (w1.heap.size + 1)))
  have b1 := b1.alloc (.cells #[.map (some (w1.heap.size + 1))] 42)
  have m1 := m1.below (below_new W2 (.cells #[.map (some (w1.heap.size + 1))] 42))
  have n2 := n2.below (below_new W2 (.cells #[.map (some (w1.heap.size + 1))] 42))
  have B3 := B2.alloc B2.size (.cells #[.map (some (w1.heap.size + 1))] 42)
  obtain ⟨W3, hW3⟩ : ∃ W3, W2.alloc (.cells #[.map (some (w1.heap.size + 1))] 42) = W3 := ⟨_, rfl⟩
  rw [hW3] at hW hs3 n2 b1 b3 m1 B3
  have hs4 := size_new W3 (.cells #[.slice none 0 0] 27)
  have b4 := Boxed.new W3 27 (.slice none 0 0)
  have b1 := b1.alloc (.cells #[.slice none 0 0] 27)
  have b3 := b3.alloc (.cells #[.slice none 0 0] 27)
  have m1 := m1.below (below_new W3 (.cells #[.slice none 0 0] 27))
  have n2 := n2.below (below_new W3 (.cells #[.slice none 0 0] 27))
  have B4 := B3.alloc B3.size (.cells #[.slice none 0 0] 27)
  obtain ⟨W4, hW4⟩ : ∃ W4, W3.alloc (.cells #[.slice none 0 0] 27) = W4 := ⟨_, rfl⟩
  rw [hW4] at hW hs4 n2 b1 b3 b4 m1 B4
  have hs5 := size_new W4 (.cells #[.string (bs v)] 9)
  have b5 := Boxed.new W4 9 (.string (bs v))
  have b1 := b1.alloc (.cells #[.string (bs v)] 9)
  have b3 := b3.alloc (.cells #[.string (bs v)] 9)
  have b4 := b4.alloc (.cells #[.string (bs v)] 9)
  have m1 := m1.below (below_new W4 (.cells #[.string (bs v)] 9))
  have n2 := n2.below (below_new W4 (.cells #[.string (bs v)] 9))
  have B5 := B4.alloc B4.size (.cells #[.string (bs v)] 9)
  obtain ⟨W5, hW5⟩ : ∃ W5, W4.alloc (.cells #[.string (bs v)] 9) = W5 := ⟨_, rfl⟩
  rw [hW5] at hW hs5 n2 b1 b3 b4 b5 m1 B5
  have hs6 := size_new W5 (.cells #[.slice (some ⟨w1.heap.size + 1 + 1 + 1 + 1, 0, none⟩) 1 1] 27)
  have b6 := Boxed.new W5 27 (.slice (some ⟨w1.heap.size + 1 + 1 + 1 + 1, 0, none⟩) 1 1)
  have b1 := b1.alloc (.cells #[.slice (some ⟨w1.heap.size + 1 + 1 + 1 + 1, 0, none⟩) 1 1] 27)
  have b3 := b3.alloc (.cells #[.slice (some ⟨w1.heap.size + 1 + 1 + 1 + 1, 0, none⟩) 1 1] 27)
  have b4 := b4.alloc (.cells #[.slice (some ⟨w1.heap.size + 1 + 1 + 1 + 1, 0, none⟩) 1 1] 27)
  have b5 := b5.alloc (.cells #[.slice (some ⟨w1.heap.size + 1 + 1 + 1 + 1, 0, none⟩) 1 1] 27)
  have m1 := m1.below (below_new W5 (.cells #[.slice (some ⟨w1.heap.size + 1 + 1 + 1 + 1, 0, none⟩) 1 1] 27))
  have n2 := n2.below (below_new W5 (.cells #[.slice (some ⟨w1.heap.size + 1 + 1 + 1 + 1, 0, none⟩) 1 1] 27))
  have B6 := B5.alloc B5.size (.cells #[.slice (some ⟨w1.heap.size + 1 + 1 + 1 + 1, 0, none⟩) 1 1] 27)
  obtain ⟨W6, hW6⟩ : ∃ W6, W5.alloc (.cells #[.slice (some ⟨w1.heap.size + 1 + 1 + 1 + 1, 0, none⟩) 1 1] 27) = W6 := ⟨_, rfl⟩
  rw [hW6] at hW hs6 n2 b1 b3 b4 b5 b6 m1 B6
  have b7 := Boxed.new W6 43 fv
  have b1 := b1.alloc (.cells #[fv] 43)
  have b3 := b3.alloc (.cells #[fv] 43)
  have b4 := b4.alloc (.cells #[fv] 43)
  have b5 := b5.alloc (.cells #[fv] 43)
  have b6 := b6.alloc (.cells #[fv] 43)
  have m1 := m1.below (below_new W6 (.cells #[fv] 43))
  have n2 := n2.below (below_new W6 (.cells #[fv] 43))
  have B7 := B6.alloc B6.size (.cells #[fv] 43)
  rw [hW] at n2 b1 b3 b4 b5 b6 b7 m1 B7
  rw [hs6, hs5, hs4, hs3, hs2, hs1] at b7
  rw [hs5, hs4, hs3, hs2, hs1] at b6
  rw [hs4, hs3, hs2, hs1] at b5
  rw [hs3, hs2, hs1] at b4
  rw [hs2, hs1] at b3
  rw [hs1] at n2
  have hmlt := hM.lt
  have hsz := hB.size
  have hg := grown_set W (w1.heap.size + 1 + 1 + 1 + 1 + 1) 0 (.slice (some ⟨w1.heap.size + 1 + 1 + 1 + 1, 0, none⟩) 0 1)
  have B8 := B7.setCell (p := ⟨w1.heap.size + 1 + 1 + 1 + 1 + 1, 0, none⟩) (by show w.heap.size ≤ w1.heap.size + 1 + 1 + 1 + 1 + 1; omega) (.slice (some ⟨w1.heap.size + 1 + 1 + 1 + 1, 0, none⟩) 0 1)
  refine ⟨b6.cell, b6.frozen, b5.cell, B7, ⟨⟨?_, ?_, ?_, ?_, ?_, ?_, ?_, ?_, ?_⟩, b3.kept hg (some_ne (box_ne b3 b6 (by decide))), b6.set _, b4.kept hg (some_ne (by omega)), b1.kept hg (some_ne (box_ne b1 b6 (by decide))), ?_, ?_, m1.kept hg (some_ne (fun e => m1.ne_box b6 e.symm)), hF.below B8, OwnS.nil _ _, B8.size⟩⟩
  · show w.heap.size ≤ w1.heap.size + 1 + 1; omega
  · show w.heap.size ≤ w1.heap.size + 1 + 1 + 1 + 1 + 1; omega
  · show w.heap.size ≤ w1.heap.size + 1 + 1 + 1; omega
  · exact hsz
  · show w.heap.size ≤ w1.heap.size + 1 + 1 + 1 + 1 + 1 + 1; omega
  · show w.heap.size ≤ w1.heap.size + 1; omega
  · exact hmp
  · show w1.heap.size + 1 ≠ mp; omega
  · show w1.heap.size + 1 + 1 + 1 + 1 + 1 ≠ w1.heap.size + 1 + 1 + 1; omega
  · have := b7.kept hg (some_ne (box_ne b7 b6 (by decide)))
    rw [hfv] at this
    exact this
  · rw [seenF_nil]
    exact n2.kept hg (some_ne (fun e => n2.ne_box b6 e.symm))
set_option maxRecDepth 100000 in
set_option maxHeartbeats 8000000 in
theorem lineP (u : Value) (l : VL) (v : Str) (U : List Str) (w : World) (hU : Uni l U) (hv : v ∈ U) (hl : l.length ≤ 1000) (hs : ∀ d ∈ l, d.nm.length ≤ 1000) (hr : VRow w w.heap.size u l) :
    Calls Tryz.prog 11 #[u, .string (bs v)] w (LinePost l v w) := by
  have HP := Lib.hid (parentsP u l w hl hs hr)
  have hmm := @run_makeMap Tryz.prog
  go_enter Tryz.func11, Tryz.ntmps11
  go_wp2_with fail
  refine HP.out.mono ?_; rintro e w1 ⟨mp, np, pf, rfl, hM, hF, hB, hmp, hnp⟩
  clear HP
  obtain ⟨W, hW⟩ : ∃ W : World, (((((((w1.alloc (.cells #[.map (some mp)] 40)).alloc (.map #[] 0)).alloc (.cells #[.map (some (w1.heap.size + 1))] 42)).alloc (.cells #[.slice none 0 0] 27)).alloc (.cells #[.string (bs v)] 9)).alloc (.cells #[.slice (some ⟨w1.heap.size + 1 + 1 + 1 + 1, 0, none⟩) 1 1] 27)).alloc (.cells #[.func (.func 26) #[] #[.pointer (some ⟨w1.heap.size + 1 + 1, 0, none⟩), .pointer (some ⟨w1.heap.size + 1 + 1 + 1 + 1 + 1, 0, none⟩), .pointer (some ⟨w1.heap.size + 1 + 1 + 1, 0, none⟩), .pointer (some ⟨w1.heap.size, 0, none⟩), .pointer (some ⟨w1.heap.size + 1 + 1 + 1 + 1 + 1 + 1, 0, none⟩)]] 43)) = W := ⟨_, rfl⟩
  obtain ⟨co, fo, cb, hBW, hA⟩ := ln_start hM hF hB hmp rfl hW
  have HA := Lib.hid hA
  have HBW := Lib.hid hBW
  clear hM hF hB hmp hA hBW
  go_wp2_with fail
  clear hW hmm
  obtain ⟨h, hh⟩ : ∃ h, w1.heap.size = h := ⟨_, rfl⟩
  rw [hh] at co fo cb HA
  simp only [hh]
  go_loopg [10] 1 (fun g _ wl => LoRel ⟨w.heap.size, h + 1 + 1, h + 1 + 1 + 1 + 1 + 1, h + 1 + 1 + 1, h, h + 1 + 1 + 1 + 1 + 1 + 1, h + 1, mp, .slice (some ⟨h + 1 + 1 + 1 + 1, 0, none⟩) 0 1, np, pf⟩ l v W g wl)
  case atStart => exact .inl ⟨rfl, rfl⟩
  case round =>
    rcases hrel with ⟨rfl, rfl⟩ | ⟨rfl, lv, L, hvis, hA, hB⟩
    · obtain ⟨W2, hW2⟩ : ∃ W2, wr.setCell ⟨h + 1 + 1 + 1 + 1 + 1, 0, none⟩ (.slice (some ⟨h + 1 + 1 + 1 + 1, 0, none⟩) 0 1) = W2 := ⟨_, rfl⟩
      have hA2 := HA.out
      rw [hW2] at hA2
      have cv := hA2.vis.cell
      unfold LnA.fv at cv
      have hbb := hA2.b.bo
      have HB2 : Hid (Below w.heap.size wr W2) := Lib.hid (by rw [← hW2]; exact (Below.refl _ _).setCell (p := ⟨h + 1 + 1 + 1 + 1 + 1, 0, none⟩) hbb _)
      have HV := Lib.hid (visitP hU (l.length + 1) W2 (.slice none 0 0) [] v 0 (by have := cnt_le l []; omega) hA2 List.nodup_nil (fun x hx => by cases hx) hv (by omega) (by have := cnt_le l []; omega))
      clear hA2 hbb HA
      go_wp2_with fail
      clear hW2
      refine HV.out.mono ?_; rintro e w5 ⟨rfl, lv5, L5, hv5, hA5, hB5⟩
      have H5 := Lib.hid hv5
      have HA5 := Lib.hid hA5
      have HB5 := Lib.hid (HB2.out.trans hB5)
      clear hv5 hA5 hB5 HV HB2
      go_wp2_with fail
      go_roundg 0
      case rel => exact .inr ⟨rfl, lv5, L5, H5.out, HA5.out, HB5.out⟩
      case measure => omega
    · have c1 := hA.opn.cell
      simp only at c1
      have c2 := hA.lin.cell
      simp only at c2
      obtain ⟨⟨t, rfl⟩, _⟩ := hvis.all
      have hlen := hU.le hvis.nd (hvis.uni hU (fun x hx => by cases hx) hv)
      have hlo : LineOk l v (v :: srtS t) := LineOk.of hvis
      have hto : (v :: srtS t).length ≤ 200 := by rw [List.length_cons, srtS_len]; simpa using hlen
      rcases hA.own.form with ⟨_, h0⟩ | ⟨g, cap, cur, rfl, hg1, hg2, hg3, hg4, _⟩
      · cases h0
      have ho := hA.own
      have hlb := hA.lin
      simp only at ho hlb
      rw [List.length_cons] at hg3 hlen ho c2 hlb
      have HF : Hid (∀ w' : World, OwnS w' w.heap.size (.slice (some ⟨g, 0, none⟩) (t.length + 1) cap) (v :: srtS t) → Below w.heap.size w w' → LinePost l v w (.returned (.slice (some ⟨g, 0, none⟩) (t.length + 1) cap)) w') := Lib.hid (fun w' h1 h2 => ⟨_, _, rfl, hlo, hto, h1.srow, h2⟩)
      have HB := Lib.hid (HBW.out.trans hB)
      have HO := Lib.hid ho
      have HLB := Lib.hid hlb
      have HCAP := Lib.hid hg4
      have hcm : cap ≤ 9223372036854775807 := hg4
      clear hvis hA hB hlo hto hg2 hg4 ho hlb HBW HA hU hr hs
      by_cases hc1 : cap = 1
      · subst hc1
        obtain rfl : t = [] := List.eq_nil_of_length_eq_zero (by omega)
        go_wp2_with fail
        refine (sortS_none _ _ _).mono ?_; rintro e w5 ⟨rfl, rfl⟩
        go_wp2_with fail
        go_ret
        exact HF.out _ (by simpa [srtS] using HO.out) HB.out
      · have HST := Lib.hid (sortTail (c := cap - 1) HO.out (by omega))
        go_wp2_with fail
        clear c1 c2
        refine HST.out.mono ?_; rintro e w5 ⟨rfl, ho5, hgr⟩
        have c2 := (HLB.out.kept hgr (not_blk HO.out (show Blk wr _ _ #[_] from HLB.out) (by decide))).cell
        have HFF := Lib.hid (HF.out _ ho5 (HB.out.trans (Below.of_grown hgr HB.out.size hg1)))
        clear ho5 hgr HST
        go_wp2_with fail
        go_ret
        exact HFF.out
noncomputable def svB (l : VL) (a b : Str) : Bool := @decide (Sv l a b) (Classical.propDecidable _)
theorem svB_iff {l : VL} {a b : Str} : svB l a b = true ↔ Sv l a b := by unfold svB; exact @decide_eq_true_iff _ (Classical.propDecidable _)
theorem svB_eq {l : VL} {a b : Str} {c : Bool} (h : Sv l a b ↔ c = true) : svB l a b = c := by
  rw [Bool.eq_iff_iff, svB_iff]; exact h
set_option maxRecDepth 100000 in
set_option maxHeartbeats 4000000 in
theorem servesP (u : Value) (l : VL) (v x : Str) (U : List Str) (w : World) (hU : Uni l U) (hv : v ∈ U) (hl : l.length ≤ 1000) (hs : ∀ d ∈ l, d.nm.length ≤ 1000) (hr : VRow w w.heap.size u l) :
    Calls Tryz.prog 8 #[u, .string (bs v), .string (bs x)] w fun e w' => e = .returned (.bool (svB l v x)) ∧ Below w.heap.size w w' := by
  by_cases e : v = x
  · subst e
    have hb : ((bs v).toList == (bs v).toList) = true := by simp
    have HF : Hid (svB l v v = true) := Lib.hid (svB_iff.2 (.refl v))
    rw [HF.out]
    clear hU hr hs
    go_enter Tryz.func8, Tryz.ntmps8
    go_wp2_with fail
    go_ret
    exact ⟨rfl, Below.refl _ _⟩
  · have hb : ((bs v).toList == (bs x).toList) = false := by
      cases h : ((bs v).toList == (bs x).toList) with
      | false => rfl
      | true => exact absurd (bs_inj (bytes_beq.1 h)) e
    have HP := Lib.hid (lineP u l v U w hU hv hl hs hr)
    obtain ⟨sb, hsb⟩ : ∃ sb, svB l v x = sb := ⟨_, rfl⟩
    have HSB := Lib.hid hsb
    rw [hsb]
    clear hU hr hs hsb
    go_enter Tryz.func8, Tryz.ntmps8
    go_wp2_with fail
    refine HP.out.mono ?_; rintro e w1 ⟨u1, L, rfl, hlo, hL, hrow, hB⟩
    have HC := Lib.hid (containsP u1 L x w1 _ hrow (by omega))
    have HB := Lib.hid hB
    have hD : decide (x ∈ L) = sb := by
      rw [← HSB.out, Bool.eq_iff_iff, svB_iff, decide_eq_true_iff]; exact hlo.mem x
    rw [hD] at HC
    clear hD hlo hrow hB HP HSB
    go_wp2_with fail
    refine HC.out.mono ?_; rintro e w2 ⟨rfl, rfl⟩
    go_wp2_with fail
    go_ret
    exact ⟨rfl, HB.out⟩
end Go.Proofs.YtmnhnighlgpjmaaGreat
