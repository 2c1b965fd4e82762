/-
  slices.BinarySearchFunc with the program's two orders; touched.
-/
import Derived.Test.YtfeiapkifoakoaaFn1
namespace Go.Proofs.Ytfeiapkifoakoaa
set_option linter.unusedVariables false
set_option linter.unusedSimpArgs false
open Go.RowKit

theorem right_lt : ∀ {l : List Sp}, right l → ∀ i j, i < j → j < l.length → (gt l i).e < (gt l j).p
  | [], _, _, _, _, h => by simp at h
  | x :: l, hr, 0, j + 1, _, h => by
    have h1 : j < l.length := by simpa using h
    have e : gt (x :: l) (j + 1) = gt l j := rfl
    rw [e, gt_get l j h1]
    exact right_behind hr _ (List.getElem_mem h1)
  | x :: l, hr, i + 1, j + 1, h0, h => right_lt (right_tail hr) i j (by omega) (by simpa using h)
theorem gt_ok {l : List Sp} (h : right l) (i : Nat) (hi : i < l.length) : (gt l i).ok ∧ 0 < (gt l i).n := by
  rw [gt_get l i hi]; exact right_ok h _ (List.getElem_mem hi)
/-- i is where the keys begin that are not below t. -/
def Cut (key : Sp → Int) (l : List Sp) (t : Int) (i : Nat) : Prop := i ≤ l.length ∧ (∀ j, j < i → key (gt l j) < t) ∧ ∀ j, i ≤ j → j < l.length → t ≤ key (gt l j)
def BsPost (key : Sp → Int) (l : List Sp) (t : Int) (w : World) (e : Ending) (w' : World) : Prop :=
  ∃ (i : Nat) (f : Bool), e = .returned (.tuple #[.int .i64 i, .bool f]) ∧ Cut key l t i ∧ Below w.heap.size w w'
theorem key_mono {l : List Sp} (h : right l) (i j : Nat) (hij : i ≤ j) (hj : j < l.length) : (gt l i).e ≤ (gt l j).e ∧ (gt l i).p ≤ (gt l j).p := by
  rcases Nat.lt_or_eq_of_le hij with h1 | rfl
  · have h2 := right_lt h i j h1 hj
    have h3 := gt_ok h i (by omega)
    have h4 := gt_ok h j hj
    unfold Sp.ok Sp.e at *; omega
  · exact ⟨Int.le_refl _, Int.le_refl _⟩
theorem cmpI_neg (a b : Int) : cmpI a b < 0 ↔ a < b := by unfold cmpI; split <;> (try split) <;> omega
theorem cmpI_bd (a b : Int) : -1 ≤ cmpI a b ∧ cmpI a b ≤ 1 := by unfold cmpI; split <;> (try split) <;> omega

set_option maxRecDepth 100000 in
set_option maxHeartbeats 0 in
theorem search1 (v : Value) (l : List Sp) (t : Int) (w : World) (hri : right l) (hr : SRow w w.heap.size v l) :
    Calls Try.prog 32 #[v, .int .i64 t, .func (.func 33) #[] #[]] w (BsPost Sp.e l t w) := by
  obtain ⟨-, hlen, A, cap, rfl, hA⟩ := hr
  have HM := Lib.hid (fun a b hab hb => (key_mono hri a b hab hb).1)
  have HO := Lib.hid (fun i hi => gt_ok hri i hi); clear hri
  go_enter Try.func32, Try.ntmps32
  go_wp2_with fail
  go_loopw [9, 10, 11] (fun i j u wl => ∃ a b : Nat, a ≤ b ∧ b ≤ l.length ∧ i = .int .i64 a ∧ j = .int .i64 b ∧ (∀ c, c < a → Sp.e (gt l c) < t) ∧ (∀ c, b ≤ c → c < l.length → t ≤ Sp.e (gt l c)) ∧ Below w.heap.size w wl) (fun i j _ _ => (intOf j).toNat - (intOf i).toNat)
  case atStart => exact ⟨0, l.length, by omega, by omega, rfl, rfl, fun c h => by omega, fun c h h2 => by omega, Below.refl _ _⟩
  case round =>
    obtain ⟨i, j, hij, hj, rfl, rfl, hlo, hhi, hB⟩ := hrel
    have HLO := Lib.hid hlo; have HHI := Lib.hid hhi; clear hlo hhi
    by_cases hlt : i < j
    · have hm : (i + j) / 2 < l.length := by omega
      have hm1 : i ≤ (i + j) / 2 := by omega
      have hm2 : (i + j) / 2 < j := by omega
      obtain ⟨b, off, rfl, hb, hc⟩ := hA (by omega)
      have c1 := (hB.cell (p := ⟨b, off + (i + j) / 2 * 2, none⟩) hb).trans (hc ((i + j) / 2) hm).1
      have c2 := (hB.cell (p := ⟨b, off + (i + j) / 2 * 2 + 1, none⟩) hb).trans (hc ((i + j) / 2) hm).2
      have hok := HO.out ((i + j) / 2) hm
      unfold Sp.ok at hok
      have HC := Lib.hid (fun w' => ord1P (gt l ((i + j) / 2)).p (gt l ((i + j) / 2)).n t w' (by omega) (by omega))
      obtain ⟨xp, hxp⟩ : ∃ p, (gt l ((i + j) / 2)).p = p := ⟨_, rfl⟩
      obtain ⟨xn, hxn⟩ : ∃ n, (gt l ((i + j) / 2)).n = n := ⟨_, rfl⟩
      rw [hxp] at c1
      rw [hxn] at c2
      rw [hxp, hxn] at hok
      rw [hxp, hxn] at HC
      have HK : Hid (Sp.e (gt l ((i + j) / 2)) = xp + xn) := by show _ = _; rw [← hxp, ← hxn]; rfl
      clear hA hc hxp hxn
      obtain ⟨⟨z1, z2, z3, z4⟩, z5⟩ := hok
      have hcn := cmpI_neg (xp + xn) t
      have hcb := cmpI_bd (xp + xn) t
      obtain ⟨c, hcc⟩ : ∃ c, cmpI (xp + xn) t = c := ⟨_, rfl⟩
      rw [hcc] at hcn hcb HC
      have HCN := Lib.hid hcn; clear hcn hcc
      have w1 : IntKind.i64.wrap ((i : Int) + (j : Int)) = (i : Int) + (j : Int) := IntWalk.i64_in _ (by omega)
      go_wp2_with fail
      refine (HC.out _).mono ?_; rintro e w2 ⟨rfl, b2⟩
      have hB2 := chain hB b2 (Nat.le_refl _)
      by_cases hlt0 : c < 0
      · have HLT := Lib.hid (HCN.out.1 hlt0)
        go_wp2_with fail
        go_roundw
        case rel => exact ⟨(i + j) / 2 + 1, j, by omega, by omega, by go_num, rfl, fun a ha => by
          have h1 := HM.out a ((i + j) / 2) (by omega) (by omega)
          have h2 := HLT.out
          have h3 := HK.out
          omega, HHI.out, hB2⟩
        case measure => simp [intOf]; omega
      · have HGE := Lib.hid (fun h => hlt0 (HCN.out.2 h))
        go_wp2_with fail
        go_roundw
        case rel => exact ⟨i, (i + j) / 2, by omega, by omega, rfl, by go_num, HLO.out, fun a ha hal => by
          have h1 := HM.out ((i + j) / 2) a ha hal
          have h2 := Int.not_lt.1 HGE.out
          have h3 := HK.out
          omega, hB2⟩
        case measure => simp [intOf]; omega
    · obtain rfl : i = j := by omega
      have HP : Hid (Cut Sp.e l t i) := ⟨hj, HLO.out, HHI.out⟩
      by_cases hil : i < l.length
      · obtain ⟨b, off, rfl, hb, hc⟩ := hA (by omega)
        have c1 := (hB.cell (p := ⟨b, off + i * 2, none⟩) hb).trans (hc i hil).1
        have c2 := (hB.cell (p := ⟨b, off + i * 2 + 1, none⟩) hb).trans (hc i hil).2
        have hok := HO.out i hil
        unfold Sp.ok at hok
        have HC := Lib.hid (fun w' => ord1P (gt l i).p (gt l i).n t w' (by omega) (by omega))
        obtain ⟨xp, hxp⟩ : ∃ p, (gt l i).p = p := ⟨_, rfl⟩
        obtain ⟨xn, hxn⟩ : ∃ n, (gt l i).n = n := ⟨_, rfl⟩
        rw [hxp] at c1
        rw [hxn] at c2
        rw [hxp, hxn] at HC
        clear hA hc hxp hxn hok
        obtain ⟨c, hcc⟩ : ∃ c, cmpI (xp + xn) t = c := ⟨_, rfl⟩
        rw [hcc] at HC
        clear hcc
        have q1 : (i : Int) < l.length := by omega
        go_wp2_with fail
        refine (HC.out _).mono ?_; rintro e w2 ⟨rfl, b2⟩
        have hB2 := chain hB b2 (Nat.le_refl _)
        go_wp2_with fail
        go_ret2
        exact ⟨i, _, rfl, HP.out, hB2⟩
      · have hil' : i = l.length := by omega
        have q2 : decide ((i : Int) < l.length) = false := by simp; omega
        go_wp2_with fail
        go_ret2
        exact ⟨i, _, rfl, HP.out, hB⟩

set_option maxRecDepth 100000 in
set_option maxHeartbeats 0 in
theorem search2 (v : Value) (l : List Sp) (t : Int) (w : World) (hri : right l) (hr : SRow w w.heap.size v l) :
    Calls Try.prog 32 #[v, .int .i64 t, .func (.func 35) #[] #[]] w (BsPost Sp.p l t w) := by
  obtain ⟨-, hlen, A, cap, rfl, hA⟩ := hr
  have HM := Lib.hid (fun a b hab hb => (key_mono hri a b hab hb).2)
  have HO := Lib.hid (fun i hi => gt_ok hri i hi); clear hri
  go_enter Try.func32, Try.ntmps32
  go_wp2_with fail
  go_loopw [9, 10, 11] (fun i j u wl => ∃ a b : Nat, a ≤ b ∧ b ≤ l.length ∧ i = .int .i64 a ∧ j = .int .i64 b ∧ (∀ c, c < a → Sp.p (gt l c) < t) ∧ (∀ c, b ≤ c → c < l.length → t ≤ Sp.p (gt l c)) ∧ Below w.heap.size w wl) (fun i j _ _ => (intOf j).toNat - (intOf i).toNat)
  case atStart => exact ⟨0, l.length, by omega, by omega, rfl, rfl, fun c h => by omega, fun c h h2 => by omega, Below.refl _ _⟩
  case round =>
    obtain ⟨i, j, hij, hj, rfl, rfl, hlo, hhi, hB⟩ := hrel
    have HLO := Lib.hid hlo; have HHI := Lib.hid hhi; clear hlo hhi
    by_cases hlt : i < j
    · have hm : (i + j) / 2 < l.length := by omega
      have hm1 : i ≤ (i + j) / 2 := by omega
      have hm2 : (i + j) / 2 < j := by omega
      obtain ⟨b, off, rfl, hb, hc⟩ := hA (by omega)
      have c1 := (hB.cell (p := ⟨b, off + (i + j) / 2 * 2, none⟩) hb).trans (hc ((i + j) / 2) hm).1
      have c2 := (hB.cell (p := ⟨b, off + (i + j) / 2 * 2 + 1, none⟩) hb).trans (hc ((i + j) / 2) hm).2
      have hok := HO.out ((i + j) / 2) hm
      unfold Sp.ok at hok
      have HC := Lib.hid (fun w' => ord2P (gt l ((i + j) / 2)).p (gt l ((i + j) / 2)).n t w' )
      obtain ⟨xp, hxp⟩ : ∃ p, (gt l ((i + j) / 2)).p = p := ⟨_, rfl⟩
      obtain ⟨xn, hxn⟩ : ∃ n, (gt l ((i + j) / 2)).n = n := ⟨_, rfl⟩
      rw [hxp] at c1
      rw [hxn] at c2
      rw [hxp, hxn] at hok
      rw [hxp, hxn] at HC
      have HK : Hid (Sp.p (gt l ((i + j) / 2)) = xp) := by show _ = _; exact hxp
      clear hA hc hxp hxn
      obtain ⟨⟨z1, z2, z3, z4⟩, z5⟩ := hok
      have hcn := cmpI_neg (xp) t
      have hcb := cmpI_bd (xp) t
      obtain ⟨c, hcc⟩ : ∃ c, cmpI (xp) t = c := ⟨_, rfl⟩
      rw [hcc] at hcn hcb HC
      have HCN := Lib.hid hcn; clear hcn hcc
      have w1 : IntKind.i64.wrap ((i : Int) + (j : Int)) = (i : Int) + (j : Int) := IntWalk.i64_in _ (by omega)
      go_wp2_with fail
      refine (HC.out _).mono ?_; rintro e w2 ⟨rfl, b2⟩
      have hB2 := chain hB b2 (Nat.le_refl _)
      by_cases hlt0 : c < 0
      · have HLT := Lib.hid (HCN.out.1 hlt0)
        go_wp2_with fail
        go_roundw
        case rel => exact ⟨(i + j) / 2 + 1, j, by omega, by omega, by go_num, rfl, fun a ha => by
          have h1 := HM.out a ((i + j) / 2) (by omega) (by omega)
          have h2 := HLT.out
          have h3 := HK.out
          omega, HHI.out, hB2⟩
        case measure => simp [intOf]; omega
      · have HGE := Lib.hid (fun h => hlt0 (HCN.out.2 h))
        go_wp2_with fail
        go_roundw
        case rel => exact ⟨i, (i + j) / 2, by omega, by omega, rfl, by go_num, HLO.out, fun a ha hal => by
          have h1 := HM.out ((i + j) / 2) a ha hal
          have h2 := Int.not_lt.1 HGE.out
          have h3 := HK.out
          omega, hB2⟩
        case measure => simp [intOf]; omega
    · obtain rfl : i = j := by omega
      have HP : Hid (Cut Sp.p l t i) := ⟨hj, HLO.out, HHI.out⟩
      by_cases hil : i < l.length
      · obtain ⟨b, off, rfl, hb, hc⟩ := hA (by omega)
        have c1 := (hB.cell (p := ⟨b, off + i * 2, none⟩) hb).trans (hc i hil).1
        have c2 := (hB.cell (p := ⟨b, off + i * 2 + 1, none⟩) hb).trans (hc i hil).2
        have hok := HO.out i hil
        unfold Sp.ok at hok
        have HC := Lib.hid (fun w' => ord2P (gt l i).p (gt l i).n t w' )
        obtain ⟨xp, hxp⟩ : ∃ p, (gt l i).p = p := ⟨_, rfl⟩
        obtain ⟨xn, hxn⟩ : ∃ n, (gt l i).n = n := ⟨_, rfl⟩
        rw [hxp] at c1
        rw [hxn] at c2
        rw [hxp, hxn] at HC
        clear hA hc hxp hxn hok
        obtain ⟨c, hcc⟩ : ∃ c, cmpI (xp) t = c := ⟨_, rfl⟩
        rw [hcc] at HC
        clear hcc
        have q1 : (i : Int) < l.length := by omega
        go_wp2_with fail
        refine (HC.out _).mono ?_; rintro e w2 ⟨rfl, b2⟩
        have hB2 := chain hB b2 (Nat.le_refl _)
        go_wp2_with fail
        go_ret2
        exact ⟨i, _, rfl, HP.out, hB2⟩
      · have hil' : i = l.length := by omega
        have q2 : decide ((i : Int) < l.length) = false := by simp; omega
        go_wp2_with fail
        go_ret2
        exact ⟨i, _, rfl, HP.out, hB⟩
end Go.Proofs.Ytfeiapkifoakoaa
