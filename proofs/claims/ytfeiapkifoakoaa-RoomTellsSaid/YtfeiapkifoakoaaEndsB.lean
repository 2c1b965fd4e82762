/-
  For the walk of the reference's ends: a row of the call's own behind a draw.
-/
import Derived.Test.YtfeiapkifoakoaaEnds
import Derived.Deep.RegionLaw
namespace Go.Proofs.Ytfeiapkifoakoaa
set_option linter.unusedVariables false
set_option linter.unusedSimpArgs false
open Go.RowKit

/-- append at a step of a region that draws; nothing at all may be appended. -/
theorem step_app {ops : Array Oper} {o : Oper} {a : Act} {w : World} {K : Act → World → Prop} {Q : Exit → Act → World → Prop} {E : Prop} (hgd : o.guard = none) (s x : Operand) (t : TypeId)
    (ho : o.op = .call { callee := .builtin .append, args := #[s, x], argTypes := #[t, t] })
    (base : Nat) (e : TypeId) (i : TypeInfo) (z : Value) (size bytes : Nat) (ht : Try.prog.underlying t = some (.slice e)) (hi : Try.prog.info? e = some i) (hz : i.zero = some z)
    (hsize : i.size = size) (hby : i.bytes = bytes) (hzs : z.cells.size = size) (hsz : 0 < size)
    (v : Value) (n : Nat) (xs : List Value) (hs : a.eval s = v) (hown : w.ownsRow base e size v n xs)
    (ad : Addr) (m c : Nat) (news : List Value) (hx : a.eval x = .slice (some ad) m c) (hl : news.length = m * size) (hnews : ∀ j u, news[j]? = some u → w.cell? (ad.add j) = some u) (h1 : ∀ u ∈ news, u.oneCell' = true)
    (h63 : n + m ≤ maxLen) (hbytes : (n + m) * bytes ≤ 140737488355328) (hbase : base ≤ w.heap.size)
    (h : ∀ v' w', w'.ownsRow base e size v' (n + m) (xs ++ news) → w.grownBy w' v.ownBlock → K (a.put o.dst v') w') :
    if Region.wanted o (yielded ops a.tmps) = true then Oper.wp Try.prog o a w K Q else E := by
  have hw : Region.wanted o (yielded ops a.tmps) = true := by simp [Region.wanted, hgd]
  rw [if_pos hw]
  exact wp_append_own w s x t ho base e i z size bytes ht hi hz hsize hby hzs hsz v n xs hs hown ad m c news hx hl hnews h1 h63 hbytes hbase fun v' w' h2 h3 _ => h v' w' h2 h3

structure Buf (B : Nat) (W : World) (v : Value) (xs : List Value) (w : World) : Prop where
  own : w.ownsRow B 3 1 v xs.length xs
  bel : Below B W w
  le : B ≤ w.heap.size
theorem Buf.alloc {B : Nat} {W w : World} {v : Value} {xs : List Value} (h : Buf B W v xs w) (o : Obj) : Buf B W v xs (w.alloc o) := ⟨h.own.alloc o, h.bel.alloc h.le o, by have := h.le; simp; omega⟩
theorem Buf.drew {B : Nat} {W w : World} {v : Value} {xs : List Value} (h : Buf B W v xs w) : Buf B W v xs w.drew := ⟨h.own, h.bel.drew, h.le⟩
theorem Buf.empty {B : Nat} {W w : World} (h : Below B W w) (hB : B ≤ w.heap.size) : Buf B W (.slice (some ⟨w.heap.size, 0, none⟩) 0 0) [] (w.alloc (.cells #[] 3)) :=
  ⟨⟨rfl, .inr ⟨w.heap.size, 0, #[], rfl, hB, by show (w.heap.push _)[w.heap.size]? = _; simp, Nat.le_refl _, by decide, rfl, rfl⟩⟩, h.alloc hB _, Nat.le_trans hB (by simp)⟩
def Kept (v : Value) (w w' : World) : Prop := ∀ b u, b < w.heap.size → v.ownBlock ≠ some b → w.cell? ⟨b, 0, none⟩ = some u → w'.cell? ⟨b, 0, none⟩ = some u
theorem step_any {ops : Array Oper} {o : Oper} {a : Act} {w : World} {K : Act → World → Prop} {Q : Exit → Act → World → Prop} {E : Prop} (hgd : o.guard = none) (s x : Operand)
    (ho : o.op = .call { callee := .builtin .append, args := #[s, x], argTypes := #[48, 48] })
    (i : TypeInfo) (hi : Try.prog.info? 3 = some i) (hz : i.zero = some (.int .i64 0)) (hsize : i.size = 1) (hby : i.bytes = 8)
    (B : Nat) (W : World) (v : Value) (xs : List Value) (hs : a.eval s = v) (hb : Buf B W v xs w)
    (ad : Addr) (m c : Nat) (news : List Value) (hx : a.eval x = .slice (some ad) m c) (hl : news.length = m) (hnews : ∀ j u, news[j]? = some u → w.cell? (ad.add j) = some u) (h1 : ∀ u ∈ news, u.oneCell' = true)
    (h63 : xs.length + m ≤ 1000)
    (h : ∀ v' w', RowKit.Hid (Buf B W v' (xs ++ news) w') → RowKit.Hid (Kept v w w') → K (a.put o.dst v') w') :
    if Region.wanted o (yielded ops a.tmps) = true then Oper.wp Try.prog o a w K Q else E := by
  refine step_app hgd s x _ ho B 3 i (.int .i64 0) 1 8 Try.underlying48 hi hz hsize hby rfl (by decide) v xs.length xs hs hb.own ad m c news hx (by omega) hnews h1 (by simp [maxLen]; omega) (by omega) hb.le ?_
  intro v' w' h2 h3
  refine h v' w' (Lib.hid ⟨by rw [List.length_append, hl]; exact h2, hb.bel.grown h3 hb.le (fun k hk => (hb.own.lt k hk).1), Nat.le_trans hb.le h3.size⟩) (Lib.hid fun b u hbs hne hc => ?_)
  exact (World.cell?_of_block (h3.block b hbs (fun e => hne e.symm))).trans hc
theorem step_old {ops : Array Oper} {o : Oper} {a : Act} {w : World} {K : Act → World → Prop} {Q : Exit → Act → World → Prop} {E : Prop} (hgd : o.guard = none) (s x : Operand)
    (ho : o.op = .call { callee := .builtin .append, args := #[s, x], argTypes := #[48, 48] })
    (i : TypeInfo) (hi : Try.prog.info? 3 = some i) (hz : i.zero = some (.int .i64 0)) (hsize : i.size = 1) (hby : i.bytes = 8)
    (B : Nat) (W : World) (v : Value) (xs : List Value) (hs : a.eval s = v) (hb : Buf B W v xs w)
    (ad : Addr) (m c : Nat) (news : List Value) (hx : a.eval x = .slice (some ad) m c) (hl : news.length = m) (had : ad.block < B) (hnews : ∀ j u, news[j]? = some u → W.cell? (ad.add j) = some u) (h1 : ∀ u ∈ news, u.oneCell' = true)
    (h63 : xs.length + m ≤ 1000)
    (h : ∀ v' w', RowKit.Hid (Buf B W v' (xs ++ news) w') → RowKit.Hid (Kept v w w') → K (a.put o.dst v') w') :
    if Region.wanted o (yielded ops a.tmps) = true then Oper.wp Try.prog o a w K Q else E :=
  step_any hgd s x ho i hi hz hsize hby B W v xs hs hb ad m c news hx hl (fun j u hu => (hb.bel.cell (p := ad.add j) (by unfold Addr.add; split <;> exact had)).trans (hnews j u hu)) h1 h63 h
theorem one_at {w : World} {p : Addr} {x : Value} (h : w.cell? p = some x) {j : Nat} {u : Value} (hu : [x][j]? = some u) : w.cell? (p.add j) = some u := by
  match j, hu with
  | 0, hu => simp at hu; subst hu; simpa [Addr.add] using h
theorem row_cells {w : World} {B go capo : Nat} {E : List Int} (h : w.ownsRow B 3 1 (.slice (some ⟨go, 0, none⟩) E.length capo) E.length (iv E)) (m : Nat) : ∀ j u, ((iv E).drop m)[j]? = some u → w.cell? ((⟨go, m, none⟩ : Addr).add j) = some u := by
  intro j u hu
  rw [List.getElem?_drop] at hu
  have hj : m + j < E.length := by
    have := (List.getElem?_eq_some_iff.1 hu).1
    rwa [iv_length] at this
  have e : (⟨go, m, none⟩ : Addr).add j = ⟨go, m + j, none⟩ := by unfold Addr.add; split <;> simp_all
  rw [e, h.cellAt (m + j) (by omega), hu]
theorem row_cells0 {w : World} {B go capo : Nat} {E : List Int} (h : w.ownsRow B 3 1 (.slice (some ⟨go, 0, none⟩) E.length capo) E.length (iv E)) (m : Nat) : ∀ j u, ((iv E).take m)[j]? = some u → w.cell? ((⟨go, 0, none⟩ : Addr).add j) = some u := by
  intro j u hu
  rw [List.getElem?_take] at hu
  split at hu
  · exact row_cells h 0 j u (by simpa using hu)
  · simp at hu
theorem row_cap {w : World} {B go capo : Nat} {E : List Int} (h : w.ownsRow B 3 1 (.slice (some ⟨go, 0, none⟩) E.length capo) E.length (iv E)) : E.length ≤ capo := by
  rcases h.2 with ⟨h, _⟩ | ⟨g', c', cur, h, _, _, hle, _⟩
  · simp at h
  · simp at h; omega
/-- The round's end: the row that was made is the longer list. -/
theorem own_end {w wr w4 : World} {v4 : Value} {E A C : List Int} {X : Int} {xs : List Value} (hB : Below w.heap.size w wr) (h : Buf wr.heap.size wr v4 xs w4) (hx : xs = iv (A ++ [X] ++ C)) :
    w4.ownsRow w.heap.size 3 1 v4 (A ++ [X] ++ C).length (iv (A ++ [X] ++ C)) ∧ Below w.heap.size w w4 := by
  subst hx
  have h1 := h.own
  rw [iv_length] at h1
  refine ⟨⟨h1.1, ?_⟩, hB.trans (h.bel.mono hB.size)⟩
  rcases h1.2 with h2 | ⟨g, cap, cur, h2, hg, r⟩
  · exact .inl h2
  · exact .inr ⟨g, cap, cur, h2, Nat.le_trans hB.size hg, r⟩
theorem side2 (wr : World) (X : Int) : ((wr.alloc (.cells #[] 3)).alloc (.cells #[.int .i64 X] 3)).drew.cell? ⟨wr.heap.size + 1, 0, none⟩ = some (.int .i64 X) := by
  simp
theorem side3 (wr : World) (X : Int) : ((wr.alloc (.cells #[.int .i64 X] 3)).alloc (.cells #[] 3)).drew.cell? ⟨wr.heap.size, 0, none⟩ = some (.int .i64 X) := by
  have h1 := World.cell?_alloc_new wr #[.int .i64 X] 3 0
  have h2 : Below (wr.alloc (.cells #[.int .i64 X] 3)).heap.size (wr.alloc (.cells #[.int .i64 X] 3)) ((wr.alloc (.cells #[.int .i64 X] 3)).alloc (.cells #[] 3)) := (Below.refl _ _).alloc (Nat.le_refl _) _
  exact (h2.cell (p := ⟨wr.heap.size, 0, none⟩) (by simp)).trans h1
theorem put_at {l : List Sp} {k m : Nat} {E : List Int} {X : Int} (hE : EndsAt l k E) (hlow : ∀ i (h : i < E.length), i < m → E[i] < X) (hX : ev l k = X) (hup : ∀ x ∈ E.drop m, X < x) : EndsAt l (k + 1) (E.take m ++ [X] ++ E.drop m) := by
  rw [← hX] at hlow hup ⊢
  refine EndsAt.put (by rw [List.take_append_drop]; exact hE) (fun x hx => ?_) hup
  obtain ⟨i, hi, rfl⟩ := List.mem_take_iff_getElem.1 hx
  exact hlow i (by omega) (by omega)
theorem iv_one (E : List Int) : ∀ u ∈ iv E, u.oneCell' = true := by
  intro u hu
  obtain ⟨x, _, rfl⟩ := List.mem_map.1 hu
  rfl

def EndsPost (l : List Sp) (w : World) (e : Ending) (w' : World) : Prop := ∃ v E, e = .returned v ∧ EndsAt l (2 * l.length) E ∧ w'.ownsRow w.heap.size 3 1 v E.length (iv E) ∧ Below w.heap.size w w'

end Go.Proofs.Ytfeiapkifoakoaa
