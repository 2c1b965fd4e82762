/-
  The reference of isa: Decode.
-/
import Derived.Test.YtmnhnighlgpjmaaDoorK1
import Derived.RegionTactic
import Derived.ChangeAlike
namespace Go.Proofs.YtmnhnighlgpjmaaDoor
set_option linter.unusedVariables false
set_option linter.unusedSimpArgs false
open Go.RowKit

def DecPost (yes : Bool) (i : Ins) (w : World) (e : Ending) (w' : World) : Prop := e = .returned (.tuple #[if yes then insV i else zeroV, .bool yes]) ∧ Below w.heap.size w w'
theorem rDecOutP (s : ByteArray) (p : Int) (w : World) (hs : s.size ≤ 300) (h : p < 0 ∨ (s.size : Int) - 8 < p) :
    Calls Tryd.prog 8 #[.string s, .int .i64 p] w (DecPost false ⟨0, 0, 0, 0, 0⟩ w) := by
  have HF : Hid (∀ W, Below w.heap.size w W → DecPost false ⟨0, 0, 0, 0, 0⟩ w (.returned (.tuple #[zeroV, .bool false])) W) := Lib.hid (fun W hb => ⟨rfl, hb⟩)
  have hb := below_new w (.cells #[.int .i64 0, .int .i64 0, .int .i64 0, .int .i64 0, .int .i64 0] 23)
  have HP := Lib.hid (HF.out _ hb)
  clear hb
  by_cases h0 : p < 0
  · have d0 : decide (p < 0) = true := decide_eq_true h0
    go_enter Tryd.func8, Tryd.ntmps8
    go_wp2_with fail
    exact bodyPost_ret (v := .tuple #[.agg #[.int .i64 0, .int .i64 0, .int .i64 0, .int .i64 0, .int .i64 0], .bool false]) (by simp [results, Tryd.results8, go_sem]) rfl HP.out
  · have d0 : decide (p < 0) = false := decide_eq_false h0
    by_cases h1 : (s.size : Int) < p
    · have d1 : decide ((s.size : Int) < p) = true := decide_eq_true h1
      go_enter Tryd.func8, Tryd.ntmps8
      go_wp2_with fail
      exact bodyPost_ret (v := .tuple #[.agg #[.int .i64 0, .int .i64 0, .int .i64 0, .int .i64 0, .int .i64 0], .bool false]) (by simp [results, Tryd.results8, go_sem]) rfl HP.out
    · have d1 : decide ((s.size : Int) < p) = false := decide_eq_false h1
      have h0' : 0 ≤ p := by omega
      have h1' : p ≤ s.size := by omega
      have d2 : decide ((s.size : Int) - p < 8) = true := decide_eq_true (by omega)
      have h2 : (s.size : Int) - p < 8 := by omega
      clear h h0 h1
      go_enter Tryd.func8, Tryd.ntmps8
      go_wp2_with fail
      exact bodyPost_ret (v := .tuple #[.agg #[.int .i64 0, .int .i64 0, .int .i64 0, .int .i64 0, .int .i64 0], .bool false]) (by simp [results, Tryd.results8, go_sem]) rfl HP.out

theorem ins_val (s : ByteArray) (p : Nat) (h : p + 8 ≤ s.size) (N : Nat) (hN : N = (s[p + 4]'(by omega)).toNat + 256 * (s[p + 5]'(by omega)).toNat + 65536 * (s[p + 6]'(by omega)).toNat + 16777216 * (s[p + 7]'(by omega)).toNat) :
    insAt s p = ⟨((s[p]'(by omega)).toNat : Nat), ((s[p + 1]'(by omega)).toNat : Nat), ((s[p + 2]'(by omega)).toNat : Nat), ((s[p + 3]'(by omega)).toNat : Nat), if N < 2147483648 then (N : Int) else (N : Int) - 4294967296⟩ := by
  have hb : W1.bytesAt s ((p : Int) + 4) 4 = [s[p + 4]'(by omega), s[p + 5]'(by omega), s[p + 6]'(by omega), s[p + 7]'(by omega)] := by
    unfold W1.bytesAt
    have e1 : ((p : Int) + 4).toNat = p + 4 := by omega
    rw [e1]
    have hg : ∀ k (hk : k < s.size), s.data.toList[k]? = some s[k] := fun k hk => Lib.data_getElem? s k hk
    apply List.ext_getElem?
    intro j
    by_cases hj : j < 4
    · rw [List.getElem?_take, if_pos (by show j < 4; exact hj), List.getElem?_drop]
      have : j = 0 ∨ j = 1 ∨ j = 2 ∨ j = 3 := by omega
      rcases this with rfl | rfl | rfl | rfl
      · exact hg _ _
      · exact hg _ _
      · exact hg _ _
      · exact hg _ _
    · rw [List.getElem?_eq_none (by rw [List.length_take]; show min 4 _ ≤ j; omega), List.getElem?_eq_none (by simp; omega)]
  have hv : W1.leV (W1.bytesAt s ((p : Int) + 4) 4) = N := by
    rw [hb, hN]
    simp only [W1.leV]
    omega
  unfold insAt
  rw [getD_at s p (by omega), getD_at s (p + 1) (by omega), getD_at s (p + 2) (by omega), getD_at s (p + 3) (by omega)]
  unfold W1.valOf
  rw [if_pos (.inl rfl), hv]
  rfl
theorem wrapB (b : UInt8) : IntKind.i64.wrap ((b.toNat : Nat) : Int) = (b.toNat : Nat) := IntWalk.i64_in _ (by have := b.toNat_lt; omega)
set_option maxRecDepth 100000 in
set_option maxHeartbeats 16000000 in
theorem rDecInP (s : ByteArray) (p : Nat) (w : World) (hs : s.size ≤ 300) (h : p + 8 ≤ s.size) (yes : Bool) (hr : rightB (insAt s p) = yes) :
    Calls Tryd.prog 8 #[.string s, .int .i64 p] w (DecPost yes (insAt s p) w) := by
  have z0 : p < s.size := by omega
  have z1 : p + 1 < s.size := by omega
  have z2 : p + 2 < s.size := by omega
  have z3 : p + 3 < s.size := by omega
  have z4 : p + 4 < s.size := by omega
  have z5 : p + 5 < s.size := by omega
  have z6 : p + 6 < s.size := by omega
  have z7 : p + 7 < s.size := by omega
  have l4 := (s[p + 4]).toNat_lt
  have l5 := (s[p + 5]).toNat_lt
  have l6 := (s[p + 6]).toNat_lt
  have l7 := (s[p + 7]).toNat_lt
  obtain ⟨N, hN⟩ : ∃ N, N = (s[p + 4]).toNat + 256 * (s[p + 5]).toNat + 65536 * (s[p + 6]).toNat + 16777216 * (s[p + 7]).toNat := ⟨_, rfl⟩
  have HI := Lib.hid (ins_val s p h N hN)
  have hN2 : N < 4294967296 := by omega
  obtain ⟨x4, hx4⟩ : ∃ x, (s[p + 4]).toNat = x := ⟨_, rfl⟩
  obtain ⟨x5, hx5⟩ : ∃ x, (s[p + 5]).toNat = x := ⟨_, rfl⟩
  obtain ⟨x6, hx6⟩ : ∃ x, (s[p + 6]).toNat = x := ⟨_, rfl⟩
  obtain ⟨x7, hx7⟩ : ∃ x, (s[p + 7]).toNat = x := ⟨_, rfl⟩
  rw [hx4, hx5, hx6, hx7] at hN
  rw [hx4] at l4
  rw [hx5] at l5
  rw [hx6] at l6
  rw [hx7] at l7
  have HIR : Hid (rightB (insAt s p) = yes) := Lib.hid hr
  obtain ⟨m, hm⟩ : ∃ m : Int, (if N < 2147483648 then (N : Int) else (N : Int) - 4294967296) = m := ⟨_, rfl⟩
  rw [hm] at HI
  clear hr
  have HM := Lib.hid hm
  clear hm
  have d1 : decide ((p : Int) < 0) = false := decide_eq_false (by omega)
  have d2 : decide ((s.size : Int) < p) = false := decide_eq_false (by omega)
  have d2' : decide (s.size < p) = false := decide_eq_false (by omega)
  have d3 : decide ((s.size : Int) - p < 8) = false := decide_eq_false (by omega)
  have hps : (p : Int) ≤ s.size := by omega
  have h8 : ¬ (s.size : Int) - p < 8 := by omega
  have HN := Lib.hid hN
  go_enter Tryd.func8, Tryd.ntmps8
  go_wp2_with fail
  clear d1 d2 d2' d3 h8
  have v4 : (p : Int) + 4 < s.size := by omega
  have v5 : (p : Int) + 5 < s.size := by omega
  have v6 : (p : Int) + 6 < s.size := by omega
  have v7 : (p : Int) + 7 < s.size := by omega
  have u4 : 0 ≤ (p : Int) + 4 := by omega
  have u5 : 0 ≤ (p : Int) + 5 := by omega
  have u6 : 0 ≤ (p : Int) + 6 := by omega
  have u7 : 0 ≤ (p : Int) + 7 := by omega
  have y4 : ((p : Int) + 4).toNat = p + 4 := by omega
  have y5 : ((p : Int) + 5).toNat = p + 5 := by omega
  have y6 : ((p : Int) + 6).toNat = p + 6 := by omega
  have y7 : ((p : Int) + 7).toNat = p + 7 := by omega
  obtain ⟨a5, ha5⟩ : ∃ a, 256 * x5 = a := ⟨_, rfl⟩
  obtain ⟨b5, hb5⟩ : ∃ a, x4 + a5 = a := ⟨_, rfl⟩
  obtain ⟨a6, ha6⟩ : ∃ a, 65536 * x6 = a := ⟨_, rfl⟩
  obtain ⟨b6, hb6⟩ : ∃ a, b5 + a6 = a := ⟨_, rfl⟩
  obtain ⟨a7, ha7⟩ : ∃ a, 16777216 * x7 = a := ⟨_, rfl⟩
  have g1 : (256 : Int) * (x5 : Int) = a5 := by omega
  have g2 : (x4 : Int) + (a5 : Int) = b5 := by omega
  have g3 : (65536 : Int) * (x6 : Int) = a6 := by omega
  have g4 : (b5 : Int) + (a6 : Int) = b6 := by omega
  have g5 : (16777216 : Int) * (x7 : Int) = a7 := by omega
  have g6 : (b6 : Int) + (a7 : Int) = N := by omega
  have k4 : IntKind.i64.wrap (x4 : Int) = x4 := IntWalk.i64_in _ (by omega)
  have k5 : IntKind.i64.wrap (x5 : Int) = x5 := IntWalk.i64_in _ (by omega)
  have k6 : IntKind.i64.wrap (x6 : Int) = x6 := IntWalk.i64_in _ (by omega)
  have k7 : IntKind.i64.wrap (x7 : Int) = x7 := IntWalk.i64_in _ (by omega)
  have k8 : IntKind.i64.wrap (a5 : Int) = a5 := IntWalk.i64_in _ (by omega)
  have k9 : IntKind.i64.wrap (b5 : Int) = b5 := IntWalk.i64_in _ (by omega)
  have k10 : IntKind.i64.wrap (a6 : Int) = a6 := IntWalk.i64_in _ (by omega)
  have k11 : IntKind.i64.wrap (b6 : Int) = b6 := IntWalk.i64_in _ (by omega)
  have k12 : IntKind.i64.wrap (a7 : Int) = a7 := IntWalk.i64_in _ (by omega)
  have k13 : IntKind.i64.wrap (N : Int) = N := IntWalk.i64_in _ (by omega)
  have e4 : IntKind.i64.wrap ((p : Int) + 4) = (p : Int) + 4 := IntWalk.i64_in _ (by omega)
  have e5 : IntKind.i64.wrap ((p : Int) + 5) = (p : Int) + 5 := IntWalk.i64_in _ (by omega)
  have e6 : IntKind.i64.wrap ((p : Int) + 6) = (p : Int) + 6 := IntWalk.i64_in _ (by omega)
  have e7 : IntKind.i64.wrap ((p : Int) + 7) = (p : Int) + 7 := IntWalk.i64_in _ (by omega)
  clear hN ha5 hb5 ha6 hb6 ha7
  go_quiet (fail)
  clear g1 g2 g3 g4 g5 g6 k4 k5 k6 k7 k8 k9 k10 k11 k12 e4 e5 e6 e7 v4 v5 v6 v7 u4 u5 u6 u7 y4 y5 y6 y7 hx4 hx5 hx6 hx7 l4 l5 l6 l7
  have l0 := (s[p]).toNat_lt
  have l1 := (s[p + 1]).toNat_lt
  have l2 := (s[p + 2]).toNat_lt
  have l3 := (s[p + 3]).toNat_lt
  obtain ⟨x0, hx0⟩ : ∃ x, (s[p]).toNat = x := ⟨_, rfl⟩
  obtain ⟨x1, hx1⟩ : ∃ x, (s[p + 1]).toNat = x := ⟨_, rfl⟩
  obtain ⟨x2, hx2⟩ : ∃ x, (s[p + 2]).toNat = x := ⟨_, rfl⟩
  obtain ⟨x3, hx3⟩ : ∃ x, (s[p + 3]).toNat = x := ⟨_, rfl⟩
  rw [hx0] at l0
  rw [hx1] at l1
  rw [hx2] at l2
  rw [hx3] at l3
  have HI2 : Hid (insAt s p = ⟨(x0 : Nat), (x1 : Nat), (x2 : Nat), (x3 : Nat), m⟩) := Lib.hid (by rw [HI.out, hx0, hx1, hx2, hx3])
  have HR1 : Hid (rightB ⟨(x0 : Nat), (x1 : Nat), (x2 : Nat), (x3 : Nat), m⟩ = yes) := Lib.hid (by rw [← HI2.out]; exact HIR.out)
  have HC := Lib.hid (fun W => rRightP (x0 : Nat) (x1 : Nat) (x2 : Nat) (x3 : Nat) m W)
  rw [HR1.out] at HC
  have HF : Hid (∀ W, Below w.heap.size w W → DecPost yes (insAt s p) w (.returned (.tuple #[if yes then .agg #[.int .i64 x0, .int .i64 x1, .int .i64 x2, .int .i64 x3, .int .i64 m] else .agg #[.int .i64 0, .int .i64 0, .int .i64 0, .int .i64 0, .int .i64 0], .bool yes])) W) := Lib.hid (fun W hb => ⟨by rw [HI2.out]; rfl, hb⟩)
  have HBW := Lib.hid (below_drewN (below_new w (.cells #[.int .i64 0, .int .i64 0, .int .i64 0, .int .i64 0, .int .i64 0] 23)) nq)
  have HKW : Hid (((w.alloc (.cells #[.int .i64 0, .int .i64 0, .int .i64 0, .int .i64 0, .int .i64 0] 23)).drewN nq).heap[w.heap.size]? = some (.cells #[.int .i64 0, .int .i64 0, .int .i64 0, .int .i64 0, .int .i64 0] 23)) := Lib.hid (block_new w _)
  generalize (w.alloc (.cells #[.int .i64 0, .int .i64 0, .int .i64 0, .int .i64 0, .int .i64 0] 23)).drewN nq = W at HBW HKW ⊢
  have hWs : w.heap.size < W.heap.size := (Array.getElem?_eq_some_iff.1 HKW.out).1
  clear HI HI2 HR1 HIR HN h
  have e1 : IntKind.i64.wrap ((p : Int) + 1) = (p : Int) + 1 := IntWalk.i64_in _ (by omega)
  have e2 : IntKind.i64.wrap ((p : Int) + 2) = (p : Int) + 2 := IntWalk.i64_in _ (by omega)
  have e3 : IntKind.i64.wrap ((p : Int) + 3) = (p : Int) + 3 := IntWalk.i64_in _ (by omega)
  have y1 : ((p : Int) + 1).toNat = p + 1 := by omega
  have y2 : ((p : Int) + 2).toNat = p + 2 := by omega
  have y3 : ((p : Int) + 3).toNat = p + 3 := by omega
  have v0 : (p : Int) < s.size := by omega
  have v1 : (p : Int) + 1 < s.size := by omega
  have v2 : (p : Int) + 2 < s.size := by omega
  have v3 : (p : Int) + 3 < s.size := by omega
  have u1 : 0 ≤ (p : Int) + 1 := by omega
  have u2 : 0 ≤ (p : Int) + 2 := by omega
  have u3 : 0 ≤ (p : Int) + 3 := by omega
  have k0 : IntKind.i64.wrap (x0 : Int) = x0 := IntWalk.i64_in _ (by omega)
  have k1 : IntKind.i64.wrap (x1 : Int) = x1 := IntWalk.i64_in _ (by omega)
  have k2 : IntKind.i64.wrap (x2 : Int) = x2 := IntWalk.i64_in _ (by omega)
  have k3 : IntKind.i64.wrap (x3 : Int) = x3 := IntWalk.i64_in _ (by omega)
  have j0 : wrap64 (x0 : Int) = x0 := IntWalk.wrap64_in _ (by omega)
  have j1 : wrap64 (x1 : Int) = x1 := IntWalk.wrap64_in _ (by omega)
  have j2 : wrap64 (x2 : Int) = x2 := IntWalk.wrap64_in _ (by omega)
  have j3 : wrap64 (x3 : Int) = x3 := IntWalk.wrap64_in _ (by omega)
  by_cases hge : N < 2147483648
  · have hm : m = N := by have := HM.out; rw [if_pos hge] at this; exact this.symm
    subst hm
    have d4 : decide ((2147483648 : Int) ≤ N) = false := decide_eq_false (by omega)
    have d4' : decide (2147483648 ≤ N) = false := decide_eq_false (by omega)
    go_wp2_with fail
    go_region
    all_goals
      go_wp2_with fail
      refine (HC.out _).mono ?_
      rintro e w3 ⟨rfl, hb⟩
      have hk1 := (hb.block W.heap.size (by simp)).trans (block_new W _)
      have hk0 := (hb.block w.heap.size (by simp; omega)).trans ((Below.heap_alloc W _ _ hWs).trans HKW.out)
      have hB : Below w.heap.size w w3 := HBW.out.trans (((below_new W _).drew.trans (hb.mono (by simp))).mono (by omega))
      have c0 := blk_cell hk1 0
      have c1 := blk_cell hk1 1
      have c2 := blk_cell hk1 2
      have c3 := blk_cell hk1 3
      have c4 := blk_cell hk1 4
      have f0 := blk_free hk0
      have o0 := blk_cell hk0 0
      have o1 := blk_cell hk0 1
      have o2 := blk_cell hk0 2
      have o3 := blk_cell hk0 3
      have o4 := blk_cell hk0 4
      have HB := Lib.hid hB
      have HK := Lib.hid hk0
      clear hb hB hk0 hk1 HC
      cases yes
      · go_wp2_with fail
        have hr := set5 HK.out (.int .i64 0) (.int .i64 0) (.int .i64 0) (.int .i64 0) (.int .i64 0)
        have r0 := blk_cell hr 0
        have r1 := blk_cell hr 1
        have r2 := blk_cell hr 2
        have r3 := blk_cell hr 3
        have r4 := blk_cell hr 4
        clear hr
        refine bodyPost_ret (v := .tuple #[.agg #[.int .i64 0, .int .i64 0, .int .i64 0, .int .i64 0, .int .i64 0], .bool false]) (by simp [results, Tryd.results8, go_sem, r0, r1, r2, r3, r4]) rfl (HF.out _ ?_)
        exact ((((HB.out.setCell (Nat.le_refl _) _).setCell (Nat.le_refl _) _).setCell (Nat.le_refl _) _).setCell (Nat.le_refl _) _).setCell (Nat.le_refl _) _
      · go_wp2_with fail
        have hr := set5 HK.out (.int .i64 x0) (.int .i64 x1) (.int .i64 x2) (.int .i64 x3) (.int .i64 N)
        have r0 := blk_cell hr 0
        have r1 := blk_cell hr 1
        have r2 := blk_cell hr 2
        have r3 := blk_cell hr 3
        have r4 := blk_cell hr 4
        clear hr
        refine bodyPost_ret (v := .tuple #[.agg #[.int .i64 x0, .int .i64 x1, .int .i64 x2, .int .i64 x3, .int .i64 N], .bool true]) (by simp [results, Tryd.results8, go_sem, r0, r1, r2, r3, r4]) rfl (HF.out _ ?_)
        exact ((((HB.out.setCell (Nat.le_refl _) _).setCell (Nat.le_refl _) _).setCell (Nat.le_refl _) _).setCell (Nat.le_refl _) _).setCell (Nat.le_refl _) _
  · have hm : (N : Int) - 4294967296 = m := by have := HM.out; rw [if_neg hge] at this; exact this
    have d4 : decide ((2147483648 : Int) ≤ N) = true := decide_eq_true (by omega)
    have d4' : decide (2147483648 ≤ N) = true := decide_eq_true (by omega)
    go_wp2_with fail
    go_region
    all_goals
      go_wp2_with fail
      refine (HC.out _).mono ?_
      rintro e w3 ⟨rfl, hb⟩
      have hk1 := (hb.block W.heap.size (by simp)).trans (block_new W _)
      have hk0 := (hb.block w.heap.size (by simp; omega)).trans ((Below.heap_alloc W _ _ hWs).trans HKW.out)
      have hB : Below w.heap.size w w3 := HBW.out.trans (((below_new W _).drew.trans (hb.mono (by simp))).mono (by omega))
      have c0 := blk_cell hk1 0
      have c1 := blk_cell hk1 1
      have c2 := blk_cell hk1 2
      have c3 := blk_cell hk1 3
      have c4 := blk_cell hk1 4
      have f0 := blk_free hk0
      have o0 := blk_cell hk0 0
      have o1 := blk_cell hk0 1
      have o2 := blk_cell hk0 2
      have o3 := blk_cell hk0 3
      have o4 := blk_cell hk0 4
      have HB := Lib.hid hB
      have HK := Lib.hid hk0
      clear hb hB hk0 hk1 HC
      cases yes
      · go_wp2_with fail
        have hr := set5 HK.out (.int .i64 0) (.int .i64 0) (.int .i64 0) (.int .i64 0) (.int .i64 0)
        have r0 := blk_cell hr 0
        have r1 := blk_cell hr 1
        have r2 := blk_cell hr 2
        have r3 := blk_cell hr 3
        have r4 := blk_cell hr 4
        clear hr
        refine bodyPost_ret (v := .tuple #[.agg #[.int .i64 0, .int .i64 0, .int .i64 0, .int .i64 0, .int .i64 0], .bool false]) (by simp [results, Tryd.results8, go_sem, r0, r1, r2, r3, r4]) rfl (HF.out _ ?_)
        exact ((((HB.out.setCell (Nat.le_refl _) _).setCell (Nat.le_refl _) _).setCell (Nat.le_refl _) _).setCell (Nat.le_refl _) _).setCell (Nat.le_refl _) _
      · go_wp2_with fail
        have hr := set5 HK.out (.int .i64 x0) (.int .i64 x1) (.int .i64 x2) (.int .i64 x3) (.int .i64 m)
        have r0 := blk_cell hr 0
        have r1 := blk_cell hr 1
        have r2 := blk_cell hr 2
        have r3 := blk_cell hr 3
        have r4 := blk_cell hr 4
        clear hr
        refine bodyPost_ret (v := .tuple #[.agg #[.int .i64 x0, .int .i64 x1, .int .i64 x2, .int .i64 x3, .int .i64 m], .bool true]) (by simp [results, Tryd.results8, go_sem, r0, r1, r2, r3, r4]) rfl (HF.out _ ?_)
        exact ((((HB.out.setCell (Nat.le_refl _) _).setCell (Nat.le_refl _) _).setCell (Nat.le_refl _) _).setCell (Nat.le_refl _) _).setCell (Nat.le_refl _) _
end Go.Proofs.YtmnhnighlgpjmaaDoor
