/-
  container/heap: up, Push.
-/
import Derived.Test.YtobpolmlblpmjaaHeapQ
namespace Go.Proofs.Ytobpolmlblpmjaa
set_option linter.unusedVariables false
set_option linter.unusedSimpArgs false
open Go.RowKit

def HpPost (f base hb : Nat) (h : List Nat) (w : World) (e : Ending) (w' : World) : Prop := e = .returned (.tuple #[]) ∧ ∃ sl h2, HeapAt f w' base hb sl h2 ∧ Heap h2 h2.length ∧ h2.Perm h ∧ HKeep f base w w'
def UpRel (f base hb : Nat) (sl : Value) (h : List Nat) (w0 : World) (i : Value) (wl : World) : Prop := ∃ (k : Nat) (h2 : List Nat), i = .int .i64 k ∧ k < h2.length ∧ UpOk h2 k ∧ h2.Perm h ∧ HeapAt f wl base hb sl h2 ∧ HKeep f base w0 wl
set_option maxRecDepth 100000 in
set_option maxHeartbeats 4000000 in
theorem upP {w : World} {f base hb : Nat} {sl : Value} {h : List Nat} {j : Nat} (H : HeapAt f w base hb sl h) (hbase : base ≤ w.heap.size) (hj : j < h.length) (hU : UpOk h j) (hl : h.length ≤ 100000) :
    Calls Try.prog 46 #[.iface 48 (.pointer (some ⟨hb, 0, none⟩)), .int .i64 j] w (HpPost f base hb h w) := by
  have HST := Lib.hid H
  have HU := Lib.hid hU
  clear H hU
  go_enter Try.func46, Try.ntmps46
  go_wp2_with fail
  go_loopw [1] (fun i wl => UpRel f base hb sl h w i wl) (fun i _ => (intOf i).toNat)
  case atStart => exact ⟨j, h, rfl, hj, HU.out, List.Perm.refl _, HST.out, HKeep.refl _ _⟩
  case round =>
    obtain ⟨k, h2, rfl, hk, hU, hp, H, hK⟩ := hrel
    have hl2 : h2.length ≤ 100000 := by rw [hp.length_eq]; exact hl
    by_cases hk0 : k = 0
    · have HF : Hid (HpPost f base hb h w (.returned (.tuple #[])) wr) := ⟨rfl, sl, h2, H, by rw [hk0] at hU; exact hU.zero, hp, hK⟩
      subst hk0
      rw [show ((0 : Nat) : Int) = 0 from rfl]
      have e1 : IntKind.i64.wrap ((0 : Int) - 1) = -1 := by decide
      have e2 : (-1 : Int).tdiv 2 = 0 := by decide
      clear hU hp H hK
      go_wp2_with fail
      go_end0
      exact HF.out
    · obtain ⟨p, hpp⟩ : ∃ p, (k - 1) / 2 = p := ⟨_, rfl⟩
      obtain ⟨A, cap, hsl⟩ := own_slice H.own
      rw [zi_length] at hsl
      subst hsl
      have hpk : p < k := by omega
      have e1 : IntKind.i64.wrap ((k : Int) - 1) = (k : Int) - 1 := IntWalk.i64_in _ (by omega)
      have e0 : (0 : Int) ≤ (k : Int) - 1 := by omega
      have e2 : ((k : Int) - 1).tdiv 2 = p := by rw [Int.tdiv_eq_ediv_of_nonneg (by omega)]; omega
      have e2' : ((k : Int) - 1) / 2 = p := by omega
      have e2w : IntKind.i64.wrap (p : Int) = p := IntWalk.i64_in _ (by omega)
      have e3 : ((p : Int) == (k : Int)) = false := by simp; omega
      have hm1 := m_less H.bx
      have HLS := lessP H.own k p hk (by omega) (by omega)
      by_cases hlt : h2.getD k 0 < h2.getD p 0
      · rw [show decide (h2.getD k 0 < h2.getD p 0) = true from decide_eq_true hlt] at HLS
        have hU2 := hU.step (by omega) hk (by rw [hpp]; exact hlt)
        rw [hpp] at hU2
        have HL2 := Lib.hid HLS
        have HU2 := Lib.hid hU2
        have HH := Lib.hid H
        have HP := Lib.hid hp
        have HKK := Lib.hid hK
        clear HLS hU hU2 hp H hK hpp hlt
        go_wp2_with fail
        refine HL2.out.mono ?_; rintro e w2 ⟨rfl, q, rfl⟩
        have H2 := HH.out.drewN q
        have hK2 := HKK.out.trans (HKeep.drewN base wr q)
        generalize wr.drewN q = wq at *
        have hm2 := m_swap H2.bx
        have HS := Lib.hid (swapP H2.own p k (by omega) hk (by omega) (by omega))
        have HHQ := Lib.hid H2
        have HKQ := Lib.hid hK2
        clear hm1 H2 hK2 HL2 HH HKK
        go_wp2_with fail
        refine HS.out.mono ?_; rintro e w3 ⟨rfl, h1, h3⟩
        have hbq : base ≤ wq.heap.size := Nat.le_trans hbase HKQ.out.below.size
        have HN := Lib.hid (HHQ.out.row h3 h1)
        have HN2 := Lib.hid (HKQ.out.trans (HKeep.row HHQ.out hbq h3))
        have HPM : Hid ((swapL h2 p k).Perm h) := Lib.hid ((swapL_perm h2 (by omega) hk).trans HP.out)
        clear h1 h3 hm2 HHQ HKQ HS HP
        go_wp2_with fail
        go_roundw
        case rel => exact ⟨p, _, rfl, by rw [swapL_length]; omega, HU2.out, HPM.out, HN.out, HN2.out⟩
        case measure => simp [intOf]; omega
      · rw [show decide (h2.getD k 0 < h2.getD p 0) = false from decide_eq_false hlt] at HLS
        have hS := hU.stop (by rw [hpp]; exact hlt)
        have HL2 := Lib.hid HLS
        have HF : Hid (∀ q, HpPost f base hb h w (.returned (.tuple #[])) (wr.drewN q)) := fun q => ⟨rfl, _, h2, H.drewN q, hS, hp, hK.trans (HKeep.drewN _ _ q)⟩
        clear HLS hU hp H hK hpp hlt hS
        go_wp2_with fail
        refine HL2.out.mono ?_; rintro e w2 ⟨rfl, q, rfl⟩
        have HF2 := Lib.hid (HF.out q)
        generalize wr.drewN q = wq at *
        clear hm1 HL2 HF
        go_wp2_with fail
        go_end0
        exact HF2.out
set_option maxRecDepth 100000 in
set_option maxHeartbeats 4000000 in
theorem heapPushP {w : World} {f base hb : Nat} {sl : Value} {h : List Nat} (H : HeapAt f w base hb sl h) (hH : Heap h h.length) (x : Nat) (hbase : base ≤ w.heap.size) (hl : h.length ≤ 10000) :
    Calls Try.prog 34 #[.iface 48 (.pointer (some ⟨hb, 0, none⟩)), .iface 3 (.int .i64 x)] w (HpPost f base hb (h ++ [x]) w) := by
  have HP := Lib.hid (pushP H x hbase (by omega))
  have hm := m_push ⟨hb, 0, none⟩ w
  have HU := Lib.hid (UpOk.start hH x)
  clear H hH
  go_enter Try.func34, Try.ntmps34
  go_wp2_with fail
  refine HP.out.mono ?_; rintro e w2 ⟨rfl, sl2, H2, hK2⟩
  obtain ⟨A, cap, hsl⟩ := own_slice H2.own
  have hzl : (zi (h ++ [x])).length = h.length + 1 := by rw [zi_length, List.length_append]; rfl
  rw [hzl] at hsl
  subst hsl
  have hm2 := m_len H2.bx
  obtain ⟨m, hme⟩ : ∃ m, h.length = m := ⟨_, rfl⟩
  have HUP := Lib.hid (upP (j := h.length) H2 (Nat.le_trans hbase hK2.below.size) (by simp) HU.out (by simp; omega))
  rw [hme] at hm2 HUP
  have w1 : IntKind.i64.wrap ((m : Int) + 1 - 1) = m := by rw [IntWalk.i64_in _ (by omega)]; omega
  have w2 : (m : Int) + 1 - 1 = m := by omega
  have w3 : IntKind.i64.wrap (m : Int) = m := IntWalk.i64_in _ (by omega)
  have HK2 := Lib.hid hK2
  clear hm H2 hK2 hzl hme HP HU hl
  go_wp2_with fail
  refine (lenP _ _ _ _).mono ?_; rintro e w4 ⟨rfl, rfl⟩
  go_wp2_with fail
  refine HUP.out.mono ?_; rintro e w4 ⟨rfl, sl3, h3, g1, g2, g3, g4⟩
  have HF : Hid (HpPost f base hb (h ++ [x]) w (.returned (.tuple #[])) w4) := ⟨rfl, sl3, h3, g1, g2, g3, HK2.out.trans g4⟩
  clear g1 g2 g3 g4
  go_wp2_with fail
  go_end0
  exact HF.out
end Go.Proofs.Ytobpolmlblpmjaa
