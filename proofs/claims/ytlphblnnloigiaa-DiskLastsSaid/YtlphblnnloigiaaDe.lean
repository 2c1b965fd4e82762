/-
  Layer 6: rows of operations that the law owns; without.
-/
import Derived.Test.YtlphblnnloigiaaDr
namespace Go.Proofs.Ytlphblnnloigiaa
set_option linter.unusedVariables false
set_option linter.unusedSimpArgs false
open Go.RowKit

/-- An operation with the slice of what it keeps. -/
structure Ae where
  a : Ac
  A : Option Addr
  n : Nat
  c : Nat
instance : Inhabited Ae := ⟨⟨default, none, 0, 0⟩⟩
def ge (l : List Ae) (i : Nat) : Ae := l.getD i default
theorem ge_get (l : List Ae) (i : Nat) (h : i < l.length) : ge l i = l[i] := by unfold ge; rw [List.getD_eq_getElem?_getD, List.getElem?_eq_getElem h]; rfl
def Ae.cs (x : Ae) : List Value := [.int .i64 x.a.o, .int .i64 x.a.f, .int .i64 x.a.g, .int .i64 x.a.n, .string x.a.s, .slice x.A x.n x.c]
def ae (l : List Ae) : List Value := l.flatMap Ae.cs
theorem ae_cons (x : Ae) (l : List Ae) : ae (x :: l) = x.cs ++ ae l := rfl
theorem ae_length : ∀ (l : List Ae), (ae l).length = l.length * 6
  | [] => rfl
  | x :: l => by rw [ae_cons, List.length_append, ae_length l, List.length_cons]; show 6 + _ = _; omega
theorem ae_append (a b : List Ae) : ae (a ++ b) = ae a ++ ae b := by simp [ae]
theorem cs_one (x : Ae) : ∀ u ∈ x.cs, u.oneCell' = true := by
  intro u hu
  unfold Ae.cs at hu
  simp only [List.mem_cons, List.not_mem_nil, or_false] at hu
  rcases hu with rfl | rfl | rfl | rfl | rfl | rfl <;> rfl
theorem ae_at : ∀ (l : List Ae) (i j : Nat), i < l.length → j < 6 → (ae l)[i * 6 + j]? = (ge l i).cs[j]?
  | [], i, j, h, _ => by simp at h
  | x :: l, 0, j, _, hj => by
    rw [ae_cons, Nat.zero_mul, Nat.zero_add, List.getElem?_append_left (by show j < 6; omega)]; rfl
  | x :: l, i + 1, j, h, hj => by
    have := ae_at l i j (by simpa using h) hj
    have e : ge (x :: l) (i + 1) = ge l i := by simp [ge]
    rw [e, ae_cons, List.getElem?_append_right (by show 6 ≤ _; omega), ← this]
    congr 1; show (i + 1) * 6 + j - 6 = _; omega
theorem infoE : (Try.prog.info? 30).map (fun i => (i.zero, i.size, i.bytes)) = some (some (.agg #[.int .i64 0, .int .i64 0, .int .i64 0, .int .i64 0, .string (bs []), .slice none 0 0]), 6, 72) := by kernel_rfl
def OwnE (w : World) (base : Nat) (v : Value) (l : List Ae) : Prop := w.ownsRow base 30 6 v l.length (ae l)
theorem OwnE.nil (w : World) (base : Nat) : OwnE w base (.slice none 0 0) [] := World.ownsRow_nil _ _ _ _
theorem OwnE.cells {w : World} {base : Nat} {v : Value} {l : List Ae} (h : OwnE w base v l) : ∃ A cap, v = .slice A l.length cap ∧ (0 < l.length → ∃ g, A = some ⟨g, 0, none⟩ ∧ g < w.heap.size ∧ ∀ i, i < l.length → ∀ j, j < 6 → w.cell? ⟨g, i * 6 + j, none⟩ = (ge l i).cs[j]?) := by
  rcases h.2 with ⟨rfl, h0⟩ | ⟨g, cap, cur, rfl, hb, hg, h1, h2, h3, h4⟩
  · exact ⟨none, 0, by rw [h0], fun h => by omega⟩
  · refine ⟨_, cap, rfl, fun _ => ⟨g, rfl, (Array.getElem?_eq_some_iff.1 hg).1, fun i hi j hj => ?_⟩⟩
    rw [← ae_at l i j hi hj, ← h4, List.getElem?_take, if_pos (by omega), cell_of_row _ _ _ _ _ _ hg, ← Array.getElem?_toList]
theorem OwnE.kept {w w' : World} {base : Nat} {v : Value} {l : List Ae} (h : OwnE w base v l) (hb : Below w.heap.size w w') : OwnE w' base v l := World.ownsRow.kept h (grown_below hb none) (ob_none _)
theorem OwnE.heap {w w' : World} {base : Nat} {v : Value} {l : List Ae} (h : OwnE w base v l) (hb : ∀ k, v.ownBlock = some k → k < w.heap.size → w'.heap[k]? = w.heap[k]?) : OwnE w' base v l := by
  refine ⟨h.1, ?_⟩
  rcases h.2 with h | ⟨g, cap, cur, rfl, h2, h3, r⟩
  · exact .inl h
  · exact .inr ⟨g, cap, cur, rfl, h2, (hb g rfl (Array.getElem?_eq_some_iff.1 h3).1).trans h3, r⟩
theorem OwnE.lt {w : World} {base : Nat} {v : Value} {l : List Ae} (h : OwnE w base v l) : ∀ k, v.ownBlock = some k → base ≤ k ∧ k < w.heap.size := World.ownsRow.lt h
theorem OwnE.base_le {w : World} {base base' : Nat} {v : Value} {l : List Ae} (h : OwnE w base v l) (hb : base' ≤ base) : OwnE w base' v l := by
  refine ⟨h.1, ?_⟩
  rcases h.2 with h | ⟨g, cap, cur, hv, hbg, r⟩
  · exact .inl h
  · exact .inr ⟨g, cap, cur, hv, Nat.le_trans hb hbg, r⟩

def wo (l : List Ae) (f : Int) : List Ae := l.filter fun x => !decide (x.a.f = f)
def WoPost (l : List Ae) (f : Int) (w : World) (e : Ending) (w' : World) : Prop := ∃ u, e = .returned u ∧ OwnE w' w.heap.size u (wo l f) ∧ Below w.heap.size w w'
def WoRel (l : List Ae) (f : Int) (w : World) (x i : Value) (wl : World) : Prop := ∃ k : Nat, i = .int .i64 k ∧ k ≤ l.length ∧ OwnE wl w.heap.size x (wo (l.take k) f) ∧ Below w.heap.size w wl
theorem wo_snoc (l : List Ae) (f : Int) (k : Nat) (h : k < l.length) : wo (l.take (k + 1)) f = wo (l.take k) f ++ if (ge l k).a.f = f then [] else [ge l k] := by
  unfold wo
  rw [ge_get l k h, List.take_succ_eq_append_getElem h, List.filter_append]
  congr 1
  by_cases e : l[k].a.f = f
  · rw [if_pos e, List.filter_cons_of_neg (by simp [e]), List.filter_nil]
  · rw [if_neg e, List.filter_cons_of_pos (by simp [e]), List.filter_nil]
set_option maxRecDepth 100000 in
set_option maxHeartbeats 4000000 in
theorem withoutP (v : Value) (l : List Ae) (f : Int) (w : World) (base : Nat) (h : OwnE w base v l) (hl : l.length ≤ 1000) :
    Calls Try.prog 11 #[v, .int .i64 f] w (WoPost l f w) := by
  obtain ⟨A, cap, rfl, hA⟩ := h.cells
  clear h
  obtain ⟨i0, hi, hz0, hz1, hz2⟩ := info_parts infoE
  go_enter Try.func11, Try.ntmps11
  go_wp2_with fail
  go_loopw [5, 6] (fun x i wl => WoRel l f w x i wl) (fun _ i _ => l.length - (intOf i).toNat)
  case atStart => exact ⟨0, rfl, by omega, OwnE.nil _ _, Below.refl _ _⟩
  case round =>
    obtain ⟨k, rfl, hk, hown, hB⟩ := hrel
    have HOWN := Lib.hid hown
    by_cases hlt : k < l.length
    · obtain ⟨g, rfl, hg, hc⟩ := hA (by omega)
      have hc0 := (hB.cell (p := ⟨g, k * 6 + 0, none⟩) hg).trans (hc k hlt 0 (by omega))
      have c1 := (hB.cell (p := ⟨g, k * 6 + 1, none⟩) hg).trans (hc k hlt 1 (by omega))
      have c2 := (hB.cell (p := ⟨g, k * 6 + 2, none⟩) hg).trans (hc k hlt 2 (by omega))
      have c3 := (hB.cell (p := ⟨g, k * 6 + 3, none⟩) hg).trans (hc k hlt 3 (by omega))
      have c4 := (hB.cell (p := ⟨g, k * 6 + 4, none⟩) hg).trans (hc k hlt 4 (by omega))
      have c5 := (hB.cell (p := ⟨g, k * 6 + 5, none⟩) hg).trans (hc k hlt 5 (by omega))
      have HSN := Lib.hid (wo_snoc l f k hlt)
      have HLE : Hid ((wo (l.take k) f).length ≤ 1000) := by
        have h1 := List.length_filter_le (fun x : Ae => !decide (x.a.f = f)) (l.take k)
        rw [List.length_take] at h1
        exact Lib.hid (by unfold wo; omega)
      obtain ⟨x, hx⟩ : ∃ x, ge l k = x := ⟨_, rfl⟩
      rw [hx] at hc0 c1 c2 c3 c4 c5 HSN
      have hc1 : wr.cell? ⟨g, k * 6, none⟩ = some (.int .i64 x.a.o) := hc0
      have HBB := Lib.hid hB
      have q1 : (k : Int) < l.length := by omega
      obtain ⟨⟨o, ff, gg, nn, ss, kk⟩, xA, xn, xc⟩ := x
      unfold Ae.cs at c1 c2 c3 c4 c5
      simp only [List.getElem?_cons_succ, List.getElem?_cons_zero] at c1 c2 c3 c4 c5 hc1
      simp only at HSN
      clear hA hc hc0 hx hB hown
      by_cases hf : ff = f
      · subst hf
        have HF : Hid (OwnE wr w.heap.size u5 (wo (l.take (k + 1)) ff)) := by
          rw [HSN.out, if_pos rfl, List.append_nil]; exact HOWN
        have p1 : (ff != ff) = false := by simp
        go_wp2_with fail
        go_roundw
        case rel => exact ⟨k + 1, by go_num, by omega, HF.out, HBB.out⟩
        case measure => simp [intOf]; omega
      · have p1 : (ff != f) = true := by simp [hf]
        rw [if_neg hf] at HSN
        have hle := HLE.out
        go_wp2_with (at_builtin; refine wpList_append_own _ rfl _ _ 22 rfl w.heap.size 30 i0 (.agg #[.int .i64 0, .int .i64 0, .int .i64 0, .int .i64 0, .string (bs []), .slice none 0 0]) 6 72 Try.underlying22 hi hz0 hz1 hz2 rfl (by decide) _ _ _ rfl (World.ownsRow.alloc HOWN.out _) ⟨wr.heap.size, 0, none⟩ 1 1 (Ae.cs ⟨⟨o, ff, gg, nn, ss, kk⟩, xA, xn, xc⟩) rfl rfl ?c1 (cs_one _) ?c3 ?c4 ?c5 ?_)
        case c1 =>
          intro j x hx
          rw [Addr.add_lit, Nat.zero_add, (Blk.new wr 30 #[.int .i64 o, .int .i64 ff, .int .i64 gg, .int .i64 nn, .string ss, .slice xA xn xc]).cell]
          simpa [Ae.cs] using hx
        case c3 => unfold maxLen; omega
        case c4 => omega
        case c5 => have := HBB.out.size; simp; omega
        intro v' w1 h1 h2 _
        have HF : Hid (OwnE w1 w.heap.size v' (wo (l.take (k + 1)) f)) := by
          rw [HSN.out]
          unfold OwnE
          rw [List.length_append, ae_append]; exact Lib.hid h1
        have HB3 : Hid (Below w.heap.size w w1) := Lib.hid (HBB.out.trans (((below_new wr _).mono HBB.out.size).trans ((Below.refl w.heap.size _).grown h2 (by have := HBB.out.size; simp; omega) (fun k hk => (HOWN.out.lt k hk).1))))
        clear h1 h2
        go_wp2_with fail
        go_roundw
        case rel => exact ⟨k + 1, by go_num, by omega, HF.out, HB3.out⟩
        case measure => simp [intOf]; omega
    · obtain rfl : k = l.length := by omega
      rw [List.take_length] at HOWN
      clear hown hA
      go_wp2_with fail
      go_ret
      exact ⟨_, rfl, HOWN.out, hB⟩
end Go.Proofs.Ytlphblnnloigiaa
