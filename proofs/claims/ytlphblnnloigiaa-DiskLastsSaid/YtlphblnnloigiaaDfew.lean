/-
  Layer 6: a slice of operations in memory; few.
-/
import Derived.Test.YtlphblnnloigiaaDa
namespace Go.Proofs.Ytlphblnnloigiaa
set_option linter.unusedVariables false
set_option linter.unusedSimpArgs false
open Go.RowKit

instance : Inhabited Ac := ⟨⟨0, 0, 0, 0, bs [], []⟩⟩
def ga (l : List Ac) (i : Nat) : Ac := l.getD i default
theorem ga_get (l : List Ac) (i : Nat) (h : i < l.length) : ga l i = l[i] := by unfold ga; rw [List.getD_eq_getElem?_getD, List.getElem?_eq_getElem h]; rfl
/-- A slice of operations, in memory below B. -/
def ARow (w : World) (B : Nat) (v : Value) (l : List Ac) : Prop :=
  ∃ A cap, v = .slice A l.length cap ∧ (0 < l.length → ∃ b off, A = some ⟨b, off, none⟩ ∧ b < B ∧ ∀ k, k < l.length → ∃ u, IRow w B u (ga l k).keep ∧
    w.cell? ⟨b, off + k * 6, none⟩ = some (.int .i64 (ga l k).o) ∧ w.cell? ⟨b, off + k * 6 + 1, none⟩ = some (.int .i64 (ga l k).f) ∧ w.cell? ⟨b, off + k * 6 + 2, none⟩ = some (.int .i64 (ga l k).g) ∧
    w.cell? ⟨b, off + k * 6 + 3, none⟩ = some (.int .i64 (ga l k).n) ∧ w.cell? ⟨b, off + k * 6 + 4, none⟩ = some (.string (ga l k).s) ∧ w.cell? ⟨b, off + k * 6 + 5, none⟩ = some u)
/-- The bounds of Go's numbers and of what a call reads. -/
structure Ac.wf (a : Ac) : Prop where
  o : -9223372036854775808 ≤ a.o ∧ a.o ≤ 9223372036854775807
  f : -9223372036854775808 ≤ a.f ∧ a.f ≤ 9223372036854775807
  g : -9223372036854775808 ≤ a.g ∧ a.g ≤ 9223372036854775807
  n : -9223372036854775808 ≤ a.n ∧ a.n ≤ 9223372036854775807
  s : a.s.size ≤ 140737488351232
  k : a.keep.length ≤ 140737488351232
def Ac.w (a : Ac) : Nat := a.s.size + a.keep.length
def tot (l : List Ac) : Nat := (l.map Ac.w).sum
theorem tot_snoc (l : List Ac) (k : Nat) (h : k < l.length) : tot (l.take (k + 1)) = tot (l.take k) + (ga l k).w := by
  unfold tot
  rw [ga_get l k h, List.take_succ_eq_append_getElem h, List.map_append, List.sum_append]; simp
theorem tot_le (l : List Ac) (hz : ∀ a ∈ l, a.wf) : tot l ≤ l.length * 281474976702464 := by
  induction l with
  | nil => simp [tot]
  | cons a l ih =>
    have h1 := ih (fun x hx => hz x (by simp [hx]))
    have h2 := hz a (by simp)
    have h3 := h2.s
    have h4 := h2.k
    have : tot (a :: l) = a.w + tot l := by simp [tot]
    rw [this, List.length_cons]
    unfold Ac.w
    omega
def okN (a : Ac) : Bool := decide (¬ (4000 ≤ a.n ∧ a.n ≤ 16777216))
def fewB (l : List Ac) : Bool := l.all okN && (decide (l.length ≤ 200) && decide (tot l ≤ 5000))
theorem fewB_false {l : List Ac} {k : Nat} (h : k < l.length) (hn : okN (ga l k) = false) : fewB l = false := by
  unfold fewB
  have : l.all okN = false := by
    rw [List.all_eq_false]
    exact ⟨l[k], List.getElem_mem h, by rw [← ga_get l k h, hn]; simp⟩
  rw [this]; rfl
theorem all_ok {l : List Ac} (h : ∀ j, j < l.length → okN (ga l j) = true) : l.all okN = true := by
  rw [List.all_eq_true]
  intro x hx
  obtain ⟨j, hj, rfl⟩ := List.mem_iff_getElem.1 hx
  rw [← ga_get l j hj]; exact h j hj
def FewRel (l : List Ac) (w : World) (x i : Value) (wl : World) : Prop := ∃ (k : Nat) (z : Int), k ≤ l.length ∧ i = .int .i64 k ∧ x = .int .i64 z ∧ (-9223372036854775808 ≤ z ∧ z ≤ 9223372036854775807) ∧ Hid (l.length ≤ 200 → z = tot (l.take k)) ∧ (∀ j, j < k → okN (ga l j) = true) ∧ Below w.heap.size w wl
theorem wrap_in (z : Int) : -9223372036854775808 ≤ IntKind.i64.wrap z ∧ IntKind.i64.wrap z ≤ 9223372036854775807 := by
  rw [IntKind.wrap_i64]; omega
set_option maxRecDepth 100000 in
set_option maxHeartbeats 4000000 in
theorem fewP (v : Value) (l : List Ac) (w : World) (hr : ARow w w.heap.size v l) (hz : ∀ a ∈ l, a.wf) (hlen : l.length ≤ 9223372036854775807) :
    Calls Try.prog 6 #[v] w fun e w' => e = .returned (.bool (fewB l)) ∧ Below w.heap.size w w' := by
  obtain ⟨A, cap, rfl, hA⟩ := hr
  have HZ := Lib.hid hz; clear hz
  have HFB : Hid (fewB l = (l.all okN && (decide (l.length ≤ 200) && decide (tot l ≤ 5000)))) := rfl
  have HFF : Hid (∀ k, k < l.length → okN (ga l k) = false → fewB l = false) := Lib.hid fun k h hn => fewB_false h hn
  obtain ⟨FB, hFB⟩ : ∃ FB, fewB l = FB := ⟨_, rfl⟩
  rw [hFB] at HFB HFF ⊢
  clear hFB
  go_enter Try.func6, Try.ntmps6
  go_wp2_with fail
  go_loopw [3, 4] (fun x i wl => FewRel l w x i wl) (fun _ i _ => l.length - (intOf i).toNat)
  case atStart => exact ⟨0, 0, by omega, rfl, rfl, by omega, Lib.hid (fun _ => rfl), fun j h => by omega, Below.refl _ _⟩
  case round =>
    obtain ⟨k, z, hk, rfl, rfl, hzb, HZT, hok, hB⟩ := hrel
    have HOK := Lib.hid hok; clear hok
    by_cases hlt : k < l.length
    · obtain ⟨b, off, rfl, hb, hc⟩ := hA (by omega)
      obtain ⟨u, hu, c0, c1, c2, c3, c4, c5⟩ := hc k hlt
      obtain ⟨A2, cap2, rfl, -⟩ := hu
      have d3 := (hB.cell (p := ⟨b, off + k * 6 + 3, none⟩) hb).trans c3
      have d4 := (hB.cell (p := ⟨b, off + k * 6 + 4, none⟩) hb).trans c4
      have d5 := (hB.cell (p := ⟨b, off + k * 6 + 5, none⟩) hb).trans c5
      have hmem : ga l k ∈ l := by rw [ga_get l k hlt]; exact List.getElem_mem hlt
      have hwf := HZ.out _ hmem
      have HTS := Lib.hid (tot_snoc l k hlt)
      have HTL : Hid (tot (l.take (k + 1)) ≤ (k + 1) * 281474976702464) := by
        have := tot_le (l.take (k + 1)) (fun a ha => HZ.out a (List.mem_of_mem_take ha))
        rw [List.length_take, Nat.min_eq_left (by omega)] at this
        exact this
      have HO : Hid (okN (ga l k) = decide (¬ (4000 ≤ (ga l k).n ∧ (ga l k).n ≤ 16777216))) := rfl
      unfold Ac.w at HTS
      have hs := hwf.s
      have hkk := hwf.k
      obtain ⟨n, hn⟩ : ∃ n, (ga l k).n = n := ⟨_, rfl⟩
      obtain ⟨t, ht⟩ : ∃ t, (ga l k).s = t := ⟨_, rfl⟩
      obtain ⟨m, hm⟩ : ∃ m, (ga l k).keep.length = m := ⟨_, rfl⟩
      rw [hn] at d3 HO
      rw [ht] at d4 HTS hs
      rw [hm] at d5 HTS hkk
      have q1 : (k : Int) < l.length := by omega
      have HBB := Lib.hid hB
      clear hA hc c0 c1 c2 c3 c4 c5 hn ht hm hmem hwf hB
      by_cases hb1 : 4000 ≤ n ∧ n ≤ 16777216
      · have HF := Lib.hid (HFF.out k hlt (by rw [HO.out]; simp; omega))
        have g1 : decide (n ≥ 4000) = true := by rw [decide_eq_true_iff]; omega
        have g2 : decide (n ≤ 16777216) = true := by rw [decide_eq_true_iff]; omega
        have g3 : decide (4000 ≤ n) = true := by rw [decide_eq_true_iff]; omega
        clear hb1
        go_wp2_with fail
        go_ret
        exact ⟨by rw [HF.out]; rfl, HBB.out⟩
      · have HO2 : Hid (okN (ga l k) = true) := by show _ = _; rw [HO.out]; simp; omega
        have hg : (¬ 4000 ≤ n) ∨ (4000 ≤ n ∧ ¬ n ≤ 16777216) := by omega
        obtain ⟨z1, hz1⟩ : ∃ z1, IntKind.i64.wrap (z + (t.size : Int)) = z1 := ⟨_, rfl⟩
        obtain ⟨z2, hz2⟩ : ∃ z2, IntKind.i64.wrap (z1 + (m : Int)) = z2 := ⟨_, rfl⟩
        have hzb2 : -9223372036854775808 ≤ z2 ∧ z2 ≤ 9223372036854775807 := by rw [← hz2]; exact wrap_in _
        have HN : Hid (l.length ≤ 200 → z2 = tot (l.take (k + 1))) := Lib.hid fun h200 => by
          have h1 := HZT.out h200
          have h2 := HTS.out
          have h3 := HTL.out
          rw [IntWalk.i64_in _ (by omega)] at hz1
          rw [← hz1, IntWalk.i64_in _ (by omega)] at hz2
          omega
        have HZ2 := Lib.hid hzb2
        clear hb1 hzb2
        rcases hg with g | ⟨g, g'⟩
        · have g1 : decide (n ≥ 4000) = false := by rw [decide_eq_false_iff_not]; omega
          have g3 : decide (4000 ≤ n) = false := by rw [decide_eq_false_iff_not]; omega
          go_wp2_with fail
          go_quiet (fail)
          have HB3 : Hid (Below w.heap.size w (wr.drewN nq)) := Lib.hid (HBB.out.trans ⟨rfl, rfl, rfl, Nat.le_refl _, fun _ _ => rfl⟩)
          clear hz1 hz2
          go_wp2_with fail
          go_roundw
          case rel => exact ⟨k + 1, z2, by omega, by go_num, rfl, HZ2.out, HN, fun j hj => if e : j = k then by rw [e]; exact HO2.out else HOK.out j (by omega), HB3.out⟩
          case measure => simp [intOf]; omega
        · have g1 : decide (n ≥ 4000) = true := by rw [decide_eq_true_iff]; omega
          have g3 : decide (4000 ≤ n) = true := by rw [decide_eq_true_iff]; omega
          have g2 : decide (n ≤ 16777216) = false := by rw [decide_eq_false_iff_not]; omega
          go_wp2_with fail
          go_quiet (fail)
          have HB3 : Hid (Below w.heap.size w (wr.drewN nq)) := Lib.hid (HBB.out.trans ⟨rfl, rfl, rfl, Nat.le_refl _, fun _ _ => rfl⟩)
          clear hz1 hz2
          go_wp2_with fail
          go_roundw
          case rel => exact ⟨k + 1, z2, by omega, by go_num, rfl, HZ2.out, HN, fun j hj => if e : j = k then by rw [e]; exact HO2.out else HOK.out j (by omega), HB3.out⟩
          case measure => simp [intOf]; omega
    · obtain rfl : k = l.length := by omega
      have HALL := Lib.hid (all_ok HOK.out)
      rw [HALL.out, Bool.true_and] at HFB
      rw [List.take_length] at HZT
      have HBB := Lib.hid hB
      clear hA hB hlt
      by_cases h200 : l.length ≤ 200
      · have h1 : decide ((l.length : Int) ≤ 200) = true := by rw [decide_eq_true_iff]; omega
        have HZZ := Lib.hid (HZT.out h200)
        go_wp2_with fail
        go_ret
        refine ⟨?_, HBB.out⟩
        rw [HFB.out, decide_eq_true h200, Bool.true_and]
        have := HZZ.out
        first
          | (congr 2; rw [Bool.eq_iff_iff, decide_eq_true_iff, decide_eq_true_iff]; omega)
          | (simp; omega)
      · have h1 : decide ((l.length : Int) ≤ 200) = false := by rw [decide_eq_false_iff_not]; omega
        have h2 : decide (l.length ≤ 200) = false := decide_eq_false h200
        go_wp2_with fail
        go_ret
        refine ⟨?_, HBB.out⟩
        rw [HFB.out, h2]; rfl
end Go.Proofs.Ytlphblnnloigiaa
