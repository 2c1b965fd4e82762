/-
  A slice of bytes that grows by one byte at a time, three times in one statement.
-/
import Derived.Test.YtijcdhkojidgeaaDoorIW
import Derived.Test.YtijcdhkojidgeaaDoorIX
import Derived.Test.YtijcdhkojidgeaaDoorII
import Derived.Deep.AppendLies
import Derived.Deep.RegionHeld3
namespace Go.Proofs.YtijcdhkojidgeaaDoor
set_option linter.unusedVariables false
set_option linter.unusedSimpArgs false
open Go.RowKit

def clU (l : List UInt8) : List Value := l.map fun b => .int .u8 (b.toNat : Nat)
def OwnU (w0 W : World) (v : Value) (l : List UInt8) : Prop := W.ownsRow w0.heap.size 5 1 v l.length (clU l) ∧ Below w0.heap.size w0 W
theorem OwnU.alloc {w0 W : World} {v : Value} {l : List UInt8} (h : OwnU w0 W v l) (o : Obj) : OwnU w0 (W.alloc o) v l := ⟨h.1.alloc o, h.2.alloc h.2.size o⟩
theorem OwnU.drew {w0 W : World} {v : Value} {l : List UInt8} (h : OwnU w0 W v l) : OwnU w0 W.drew v l := ⟨h.1.drew, h.2.drew⟩
def CellU (W : World) (v : Value) (g : Nat) (z : Int) : Prop := W.heap[g]? = some (.cells #[.int .u8 z] 5) ∧ v.ownBlock ≠ some g
theorem CellU.new {w0 W : World} {v : Value} {l : List UInt8} {g : Nat} {z : Int} (h : OwnU w0 W v l) (hg : W.heap.size = g) : CellU (W.alloc (.cells #[.int .u8 z] 5)) v g z :=
  ⟨by subst hg; exact heap_alloc_new W _, fun e => by have := (h.1.lt _ e).2; omega⟩
theorem CellU.new2 {w0 W : World} {v : Value} {l : List UInt8} {g : Nat} {z : Int} (hg : W.heap.size = g) (h : OwnU w0 W v l) : CellU (W.alloc (.cells #[.int .u8 z] 5)) v g z := CellU.new h hg
theorem CellU.alloc {W : World} {v : Value} {g : Nat} {z : Int} (h : CellU W v g z) (o : Obj) : CellU (W.alloc o) v g z :=
  ⟨by rw [heap_alloc_old W o (Array.getElem?_eq_some_iff.1 h.1).1]; exact h.1, h.2⟩
theorem CellU.drew {W : World} {v : Value} {g : Nat} {z : Int} (h : CellU W v g z) : CellU W.drew v g z := h

theorem infoU0 : (Tryd.prog.info? 5).map (fun i => (i.zero, i.size, i.bytes)) = some (some (.int .u8 0), 1, 1) := by kernel_rfl
theorem infoU : ∃ i0, Tryd.prog.info? 5 = some i0 ∧ i0.zero = some (.int .u8 0) ∧ i0.size = 1 ∧ i0.bytes = 1 := by
  have h := infoU0
  cases hi : Tryd.prog.info? 5 with
  | none => rw [hi] at h; cases h
  | some i =>
    rw [hi] at h
    simp only [Option.map_some, Option.some.injEq, Prod.mk.injEq] at h
    exact ⟨i, rfl, h.1, h.2.1, h.2.2⟩

theorem run_app1 (W w0 : World) (v : Value) (l : List UInt8) (g0 c0 : Nat) (z : Int) (u : UInt8) (ty : TypeId) (hO : OwnU w0 W v l) (hC : CellU W v g0 z) (hz : (u.toNat : Int) = z) (hl : l.length ≤ 1000) :
    ∃ v' w', (Builtin.append_ #[43, 43] ty #[v, .slice (some ⟨g0, 0, none⟩) 1 c0]).run Tryd.prog W = .ok v' w' ∧ OwnU w0 w' v' (l ++ [u]) ∧ (∀ g2 z2, CellU W v g2 z2 → CellU w' v' g2 z2) := by
  obtain ⟨i0, hi0, hz0, hz1, hz2⟩ := infoU
  subst hz
  obtain ⟨g, cap, w', hr, h2, h3, h4, h5⟩ := run_append_lies (P := Tryd.prog) W 43 ty w0.heap.size 5 i0 (.int .u8 0) 1 1 Tryd.underlying43 hi0 hz0 hz1 hz2 rfl (by omega) v l.length (clU l) hO.1 ⟨g0, 0, none⟩ 1 c0 [.int .u8 (u.toNat : Nat)] rfl
    (World.news_of_block hC.1) (fun x hx => by simp at hx; subst hx; rfl) (by omega) (by unfold maxLen; omega) (by omega) hO.2.size W.heap.size rfl
  refine ⟨_, w', hr, ⟨?_, hO.2.grown h3 hO.2.size (fun k hk => (hO.1.lt k hk).1)⟩, fun g2 z2 hc => ⟨?_, fun e => ?_⟩⟩
  · have e1 : (l ++ [u]).length = l.length + 1 := by simp
    have e2 : clU (l ++ [u]) = clU l ++ [.int .u8 (u.toNat : Nat)] := by simp [clU]
    rw [e1, e2]
    exact h2
  · rw [h3.block g2 (Array.getElem?_eq_some_iff.1 hc.1).1 (fun e => hc.2 e.symm)]
    exact hc.1
  · have eg : g = g2 := by simpa [Value.ownBlock] using e
    subst eg
    rcases h4 with h4 | h4
    · exact hc.2 h4
    · have := (Array.getElem?_eq_some_iff.1 hc.1).1
      omega
theorem wp_app1 {o : Oper} {a : Act} {W : World} {K : Act → World → Prop} {Q : Exit → Act → World → Prop} (s x : Operand) (ho : o.op = .call { callee := .builtin .append, args := #[s, x], argTypes := #[43, 43] })
    {v : Value} {w0 : World} {l : List UInt8} (hO : OwnU w0 W v l) (hs : a.eval s = v) {g0 c0 : Nat} (hx : a.eval x = .slice (some ⟨g0, 0, none⟩) 1 c0) {z : Int} (hC : CellU W v g0 z) (u : UInt8) (hz : (u.toNat : Int) = z) (hl : l.length ≤ 1000)
    (h : ∀ v' w', Hid (OwnU w0 w' v' (l ++ [u])) → Hid (∀ g2 z2, CellU W v g2 z2 → CellU w' v' g2 z2) → K (a.put o.dst v') w') : o.wp Tryd.prog a W K Q := by
  obtain ⟨v', w', hr, h1, h2⟩ := run_app1 W w0 v l g0 c0 z u o.type hO hC hz hl
  unfold Oper.wp execOp
  simp only [ho, resolve, invoke, builtin, Sem.run_bind, Sem.run_pure, Result.andThen_ok, List.map_toArray, List.map_cons, List.map_nil, hs, hx, hr]
  exact h v' w' (Lib.hid h1) (Lib.hid h2)
theorem wpList_app1 {ops : Array Oper} {rest : List Oper} {o : Oper} {a : Act} {W : World} {Q : Exit → Act → World → Prop} (hgd : o.guard = none) (s x : Operand) (ho : o.op = .call { callee := .builtin .append, args := #[s, x], argTypes := #[43, 43] })
    {v : Value} {w0 : World} {l : List UInt8} (hO : OwnU w0 W v l) (hs : a.eval s = v) {g0 c0 : Nat} (hx : a.eval x = .slice (some ⟨g0, 0, none⟩) 1 c0) {z : Int} (hC : CellU W v g0 z) (u : UInt8) (hz : (u.toNat : Int) = z) (hl : l.length ≤ 1000)
    (h : ∀ v' w', Hid (OwnU w0 w' v' (l ++ [u])) → Hid (∀ g2 z2, CellU W v g2 z2 → CellU w' v' g2 z2) → wpList Tryd.prog ops Q rest (a.put o.dst v') w') : wpList Tryd.prog ops Q (o :: rest) a W :=
  wpList_plain hgd fun _ hK => wp_app1 s x ho hO hs hx hC u hz hl fun v' w' h1 h2 => hK _ _ (h v' w' h1 h2)
theorem step_app1 {ops : Array Oper} {o : Oper} {a : Act} {W : World} {K : Act → World → Prop} {Q : Exit → Act → World → Prop} {E : Prop} (hgd : o.guard = none) (s x : Operand) (ho : o.op = .call { callee := .builtin .append, args := #[s, x], argTypes := #[43, 43] })
    {v : Value} {w0 : World} {l : List UInt8} (hO : OwnU w0 W v l) (hs : a.eval s = v) {g0 c0 : Nat} (hx : a.eval x = .slice (some ⟨g0, 0, none⟩) 1 c0) {z : Int} (hC : CellU W v g0 z) (u : UInt8) (hz : (u.toNat : Int) = z) (hl : l.length ≤ 1000)
    (h : ∀ v' w', Hid (OwnU w0 w' v' (l ++ [u])) → Hid (∀ g2 z2, CellU W v g2 z2 → CellU w' v' g2 z2) → K (a.put o.dst v') w') :
    if Region.wanted o (yielded ops a.tmps) = true then Oper.wp Tryd.prog o a W K Q else E := by
  have hw : Region.wanted o (yielded ops a.tmps) = true := by simp [Region.wanted, hgd]
  rw [if_pos hw]
  exact wp_app1 s x ho hO hs hx hC u hz hl h

theorem conv_nilU (w : World) : (convert 43 9 (.slice none 0 0)).run Tryd.prog w = .ok (.string (arr [])) w := by kernel_rfl
/-- string(b). -/
theorem conv_own {w0 W : World} {v : Value} {l : List UInt8} (h : OwnU w0 W v l) : (convert 43 9 v).run Tryd.prog W = .ok (.string (arr l)) W := by
  rcases h.1.2 with ⟨rfl, h0⟩ | ⟨g, cap, cur, rfl, hb, hg, hn, hm, hc, ht⟩
  · obtain rfl : l = [] := List.eq_nil_of_length_eq_zero h0
    exact conv_nilU W
  · refine run_convert_bytes_back (P := Tryd.prog) W 43 9 5 ⟨g, 0, none⟩ cap l Tryd.underlying43 Tryd.underlying5 Tryd.underlying9 (fun j hj => ?_)
    have hadd : (⟨g, 0, none⟩ : Addr).add j = ⟨g, j, none⟩ := by unfold Addr.add; split <;> simp_all
    have h1 : (clU l)[j]? = some (.int .u8 l[j].toNat) := by simp [clU, hj]
    rw [show l.length * 1 = l.length by omega] at ht
    rw [← ht, List.getElem?_take, if_pos hj] at h1
    rw [hadd]
    simp only [World.cell?, hg]
    simpa using h1

theorem pad_take (c : UInt8) (s : ByteArray) (k : Nat) (h : k < s.size) : pad c (s.data.toList.take (k + 1)) = pad c (s.data.toList.take k) ++ pad c [s[k]] := by
  rw [take_snoc s k h, pad_app]
theorem parse_cases (l : List UInt8) : (∃ i, parsN l = (i, 0) ∧ rightB i = true) ∨ parsN l = (Ins.zero, 2) ∨ parsN l = (Ins.zero, 6) := by
  unfold parsN parsOp
  split
  · exact .inr (.inl rfl)
  · split
    · split
      · rename_i h
        exact .inl ⟨_, rfl, h⟩
      · exact .inr (.inr rfl)
    · exact .inr (.inl rfl)
end Go.Proofs.YtijcdhkojidgeaaDoor
