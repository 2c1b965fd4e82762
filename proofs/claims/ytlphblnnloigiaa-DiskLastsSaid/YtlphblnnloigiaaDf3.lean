/-
  Layer 6: slices.Clone of ints and of pieces, Arm, survives.
-/
import Derived.Test.YtlphblnnloigiaaDf2
namespace Go.Proofs.Ytlphblnnloigiaa
set_option linter.unusedVariables false
set_option linter.unusedSimpArgs false
open Go.RowKit

/-- A copy of a row of ints, in a block of its own. -/
def CloneI (w : World) (l : List Int) (e : Ending) (w' : World) : Prop := ∃ u, e = .returned u ∧ IRow w' w'.heap.size u l ∧ (∀ k, u.ownBlock = some k → w.heap.size ≤ k ∧ k < w'.heap.size) ∧ Below w.heap.size w w'
def CloneP (w : World) (l : List Pc) (e : Ending) (w' : World) : Prop := ∃ u, e = .returned u ∧ OwnP w' u l ∧ (∀ k, u.ownBlock = some k → w.heap.size ≤ k ∧ k < w'.heap.size) ∧ Below w.heap.size w w'

theorem irow_of_own {w : World} {base : Nat} {v : Value} {l : List Int} (h : w.ownsRow base 3 1 v l.length (iv l)) : IRow w w.heap.size v l := by
  rcases h.2 with ⟨rfl, h0⟩ | ⟨g, cap, cur, rfl, hb, hg, h1, h2, h3, h4⟩
  · obtain rfl : l = [] := List.eq_nil_of_length_eq_zero h0
    exact irow_nil _ _
  · refine ⟨_, cap, rfl, h1, h2, (fun e => by cases e), fun _ => ⟨g, 0, rfl, (Array.getElem?_eq_some_iff.1 hg).1, fun i hi => ?_⟩⟩
    rw [Nat.zero_add, h.cellAt i (by omega), iv_get, List.getElem?_eq_getElem hi]; rfl

set_option maxRecDepth 100000 in
set_option maxHeartbeats 1000000 in
theorem cloneI (v : Value) (l : List Int) (w : World) (hr : IRow w w.heap.size v l) (hlen : l.length ≤ 1000000) :
    Calls Try.prog 26 #[v] w (CloneI w l) := by
  obtain ⟨A, cap, rfl, hc1, hc2, hnil, hA⟩ := hr
  have heq := fun (A : Option Addr) (n c n1 c1 : Nat) (w : World) => Lib.run_eql_slice_nil (P := Try.prog) w 23 3 A n c n1 c1 Try.underlying23
  rcases A with _ | ⟨b, off, sp⟩
  · have h0 : l.length = 0 := by
      rcases Nat.eq_zero_or_pos l.length with h | h
      · exact h
      · obtain ⟨b, off, h, _⟩ := hA h; cases h
    have hc := hnil rfl
    obtain rfl : l = [] := List.eq_nil_of_length_eq_zero h0
    subst hc
    clear hnil hA h0 hlen hc1 hc2
    go_enter Try.func26, Try.ntmps26
    go_wp2_with fail
    go_ret
    exact ⟨_, rfl, irow_nil _ _, (fun k hk => by simp [Value.ownBlock] at hk), Below.refl _ _⟩
  · obtain ⟨i0, hi, hz0, hz1, hz2⟩ := info_parts infoI
    have hcl : ∀ j u, (iv l)[j]? = some u → w.cell? ((⟨b, off, sp⟩ : Addr).add j) = some u := by
      rcases Nat.eq_zero_or_pos l.length with h | h
      · obtain rfl : l = [] := List.eq_nil_of_length_eq_zero h
        intro j u hu; simp [iv] at hu
      · obtain ⟨b', off', h1, h2, h3⟩ := hA h
        injection h1 with h1
        rw [h1]
        intro j u hu
        rw [Addr.add_lit]
        have hj : j < l.length := by rw [← iv_length]; exact (List.getElem?_eq_some_iff.1 hu).1
        rw [iv_get, List.getElem?_eq_getElem hj] at hu
        rw [h3 j hj]; exact hu
    have HCL : Hid (∀ j u, (iv l)[j]? = some u → (w.alloc (.cells #[] 3)).cell? ((⟨b, off, sp⟩ : Addr).add j) = some u) := fun j u hu => keep_below (below_new _ _) (hcl j u hu)
    have hown : (w.alloc (.cells #[] 3)).ownsRow w.heap.size 3 1 (.slice (some ⟨w.heap.size, 0, none⟩) 0 0) 0 [] := World.ownsRow_made w #[] 0 (Nat.le_refl _) (by decide) rfl
    have HOWN := Lib.hid hown
    clear hcl hA hnil hown
    go_enter Try.func26, Try.ntmps26
    go_wp2_with (at_builtin; refine wpList_append_own _ rfl _ _ 23 rfl w.heap.size 3 i0 (.int .i64 0) 1 8 Try.underlying23 hi hz0 hz1 hz2 rfl (by decide) _ 0 [] rfl HOWN.out ⟨b, off, sp⟩ l.length cap (iv l) rfl ?c1 HCL.out ?c2 ?c3 ?c4 ?c5 ?_)
    case c1 => rw [iv_length]; omega
    case c2 => intro u hu; unfold iv at hu; obtain ⟨x, _, rfl⟩ := List.mem_map.1 hu; rfl
    case c3 => unfold maxLen; omega
    case c4 => omega
    case c5 => simp
    intro v' w1 h1 h2 _
    have H1 : Hid (w1.ownsRow w.heap.size 3 1 v' l.length (iv l)) := by
      show World.ownsRow _ _ _ _ _ _ _
      simpa using h1
    clear h1
    go_wp2_with fail
    go_ret
    refine ⟨_, rfl, irow_of_own H1.out, fun k hk => World.ownsRow.lt H1.out k hk, ?_⟩
    exact (below_new w _).trans (Below.of_grown h2 (by simp) (Nat.le_refl _))

set_option maxRecDepth 100000 in
set_option maxHeartbeats 1000000 in
theorem survivesP (p : Pc) (i : Nat) (v : Value) (keep : List Int) (w : World) (hr : IRow w w.heap.size v keep) (hl : keep.length ≤ maxLen) (hi : i ≤ 1000000) (ht : p.t.size ≤ 32) :
    Calls Try.prog 24 #[pv p, .int .i64 i, v] w fun e w' => e = .returned (.int .i64 (surv p i keep)) ∧ Below w.heap.size w w' := by
  unfold maxLen at hl
  have hb0 := below_new w (.cells #[.int .i64 p.f, .int .i64 p.a, .string p.t] 54)
  have HB := Lib.hid hb0
  obtain ⟨A, cap, rfl, -, -, -, hA⟩ := hr
  have HS : Hid (surv p i keep = if keep.getD i 0 = 1 then p.t.size else if keep.getD i 0 = 2 then min 16 p.t.size else 0) := rfl
  generalize surv p i keep = R at *
  unfold pv
  by_cases hlt : i < keep.length
  · obtain ⟨b, off, rfl, hb, hc⟩ := hA (by omega)
    have c1 := keep_below hb0 (hc i hlt)
    have hx : keep.getD i 0 = keep[i] := by rw [List.getD_eq_getElem?_getD, List.getElem?_eq_getElem hlt]; rfl
    rw [hx] at HS
    obtain ⟨x, hx⟩ : ∃ x, keep[i] = x := ⟨_, rfl⟩
    rw [hx] at c1 HS
    have q1 : (i : Int) < keep.length := by omega
    have d1 : decide ((i : Int) ≥ keep.length) = false := by simp; omega
    have d2 : decide (keep.length ≤ i) = false := by simp; omega
    clear hA hc hx hb0
    by_cases h1 : x = 1
    · subst h1
      have HR : Hid (R = p.t.size) := HS.out
      clear HS
      go_enter Try.func24, Try.ntmps24
      go_wp2_with fail
      go_ret
      exact ⟨by rw [HR.out]; rfl, HB.out⟩
    · by_cases h2 : x = 2
      · subst h2
        have HR : Hid (R = min 16 p.t.size) := HS.out
        clear HS
        go_enter Try.func24, Try.ntmps24
        go_wp2_with fail
        go_ret
        refine ⟨?_, HB.out⟩
        rw [HR.out, show ((min 16 p.t.size : Nat) : Int) = min 16 (p.t.size : Int) by omega]; rfl
      · have HR : Hid (R = 0) := by show _ = _; rw [HS.out, if_neg h1, if_neg h2]
        clear HS
        go_enter Try.func24, Try.ntmps24
        go_wp2_with fail
        go_ret
        exact ⟨by rw [HR.out]; rfl, HB.out⟩
  · have hx : keep.getD i 0 = 0 := by rw [List.getD_eq_getElem?_getD, List.getElem?_eq_none (by omega)]; rfl
    rw [hx] at HS
    have HR : Hid (R = 0) := HS.out
    have d1 : decide ((i : Int) ≥ keep.length) = true := by simp; omega
    have d2 : decide (keep.length ≤ i) = true := by simp; omega
    clear hA HS hx hb0
    go_enter Try.func24, Try.ntmps24
    go_wp2_with fail
    go_ret
    exact ⟨by rw [HR.out]; rfl, HB.out⟩

/-- Arm's two stores. -/
theorem DiskAt.set_arm {B : Nat → Prop} {w w1 : World} {db : Nat} {s : Dk} (h : DiskAt B w db s) (n : Int) (hn : n ≤ 9223372036854775807) (l : List Int) (hl : l.length ≤ 1000000) (u : Value) (hu : IRow w1 w1.heap.size u l) (hnew : ∀ k, u.ownBlock = some k → w.heap.size ≤ k ∧ k < w1.heap.size) (hb : Below w.heap.size w w1) :
    Op B w ((w1.setCell ⟨db, 11, none⟩ (.int .i64 (max n 0))).setCell ⟨db, 12, none⟩ u) db (s.arm n l) := by
  have e : ((n.toNat : Nat) : Int) = max n 0 := by omega
  obtain ⟨h0, v, u0, d, hv, hu0⟩ := h
  have d1 := d.heap hb.size (fun k hk _ => hb.block k hk)
  have hs1 : (w1.setCell ⟨db, 11, none⟩ (.int .i64 (max n 0))).heap.size = w1.heap.size := by simp [World.setCell]
  have hlt := d.bx.lt
  have d2 : DAt (w1.setCell ⟨db, 11, none⟩ (.int .i64 (max n 0))) db v u0 { s with calls := n.toNat } := by
    refine d1.store ?_ d1.own d1.kp d1.n1 d1.n2 d1.n3 d1.n4 ⟨d.ok.dl, d.ok.ds, d.ok.ps, d.ok.pn, d.ok.kn, d.ok.lo, by show n.toNat ≤ _; omega⟩
    obtain ⟨a0, a1, a2, a3, a4, a5, a6, a7, hd⟩ := eight d.ok.dl
    simp only [dcells, hd, e]; rfl
  refine ⟨⟨.inl h0, v, u, ?_, fun k hk => .inl (hv k hk), fun k hk => .inr ?_⟩, ?_⟩
  · refine d2.store ?_ d2.own (hu.heap (by rw [hs1]; exact Nat.le_refl _) fun k hk hkl => Below.heap_setCell _ _ _ _ (fun e => ?_)) d.n1 (fun e => ?_) (fun k hk hv2 => ?_) (fun k hk => ?_) (d.ok.arm n l hn hl)
    · obtain ⟨a0, a1, a2, a3, a4, a5, a6, a7, hd⟩ := eight d.ok.dl
      simp only [dcells, hd, Dk.arm]; rfl
    · have := hnew k hk; simp only at e; omega
    · have := hnew _ e; omega
    · have := hnew k hk; have := d.own.lt k hv2; omega
    · rw [hs1]; exact (hnew k hk).2
  · have := hnew k hk
    refine ⟨this.1, ?_⟩
    simp [World.setCell]; omega
  · exact (Fr.below hb).trans ((fr_set (B := B) h0).trans (fr_set (B := B) h0) fun _ _ h => h) fun _ _ h => h

set_option maxRecDepth 100000 in
set_option maxHeartbeats 1000000 in
theorem armP {B : Nat → Prop} {w : World} {db : Nat} {s : Dk} (h : DiskAt B w db s) (n : Int) (hn : n ≤ 9223372036854775807) (v : Value) (l : List Int) (hr : IRow w w.heap.size v l) (hl : l.length ≤ 1000000) :
    Calls Try.prog 15 #[.pointer (some ⟨db, 0, none⟩), .int .i64 n, v] w fun e w' => e = .returned (.tuple #[]) ∧ Op B w w' db (s.arm n l) := by
  have HC := Lib.hid (cloneI v l w hr hl)
  have HH := Lib.hid h
  clear h hr
  go_enter Try.func15, Try.ntmps15
  go_wp2_with fail
  refine HC.out.mono ?_; rintro e w1 ⟨u, rfl, hu, hnew, hb⟩
  obtain ⟨-, -, c11, -, fz⟩ := (HH.out.below hb).cells
  have f11 := fz 11
  have f12 := fz 12
  obtain ⟨_, _, _, dd, _⟩ := HH.out.below hb
  have c12 := dd.c_tail.2.2.2.2
  have HO := Lib.hid (HH.out.set_arm n hn l hl u hu hnew hb)
  obtain ⟨A, cap, rfl, -⟩ := hu
  clear fz dd hnew hb
  go_wp2_with fail
  go_end0
  exact ⟨rfl, HO.out⟩
end Go.Proofs.Ytlphblnnloigiaa
