/-
  The reference of isa: number.
-/
import Derived.Test.YtmnhnighlgpjmaaDoorJ1
namespace Go.Proofs.YtmnhnighlgpjmaaDoor
set_option linter.unusedVariables false
set_option linter.unusedSimpArgs false
open Go.RowKit

/-- k digits from an offset on, and what stops behind them. -/
def NumAt (l : List UInt8) (p k : Nat) : Prop := p + k ≤ l.length ∧ ((l.drop p).take k).all isDig = true
def numV (l : List UInt8) (p k : Nat) : Nat := digV 0 ((l.drop p).take k)
def NumStop (l : List UInt8) (p k : Nat) : Prop := p + k = l.length ∨ (∃ u, l[p + k]? = some u ∧ isDig u = false) ∨ 100000000000 ≤ numV l p k
def NumPost (l : List UInt8) (p : Nat) (w : World) (e : Ending) (w' : World) : Prop :=
  ∃ k, NumAt l p k ∧ NumStop l p k ∧ e = .returned (.tuple #[.int .i64 (numV l p k : Nat), .int .i64 ((p + k : Nat) : Int)]) ∧ w = w'
theorem num_take {l : List UInt8} {p k : Nat} {u : UInt8} (h : l[p + k]? = some u) : (l.drop p).take (k + 1) = (l.drop p).take k ++ [u] := by
  have hlt := (List.getElem?_eq_some_iff.1 h).1
  have hg : (l.drop p)[k]? = some u := by rw [List.getElem?_drop]; exact h
  rw [List.take_add_one, hg]; rfl
theorem NumAt.on {l : List UInt8} {p k : Nat} {u : UInt8} (h : NumAt l p k) (hu : l[p + k]? = some u) (hd : isDig u = true) : NumAt l p (k + 1) ∧ numV l p (k + 1) = 10 * numV l p k + (u.toNat - 48) := by
  have hlt := (List.getElem?_eq_some_iff.1 hu).1
  refine ⟨⟨by omega, ?_⟩, ?_⟩
  · rw [num_take hu, List.all_append, h.2]
    simp [hd]
  · unfold numV
    rw [num_take hu, digV_append]
    rfl

set_option maxRecDepth 100000 in
set_option maxHeartbeats 1000000 in
theorem numberP (s : ByteArray) (p : Nat) (w : World) (hp : p ≤ s.size) (hs : s.size ≤ 1000000) :
    Calls Tryd.prog 50 #[.string s, .int .i64 p] w (NumPost s.data.toList p w) := by
  have HZ := Lib.hid (show s.data.toList.length = s.size by simp)
  go_enter Tryd.func50, Tryd.ntmps50
  go_wp2_with fail
  go_loop [1, 6] (fun i n => ∃ (k m N : Nat), m = p + k ∧ m ≤ s.size ∧ i = .int .i64 m ∧ n = .int .i64 N ∧ numV s.data.toList p k = N ∧ NumAt s.data.toList p k) (fun i _ => s.size - (intOf i).toNat)
  case atStart => exact ⟨0, p, 0, rfl, hp, rfl, rfl, rfl, by unfold NumAt; exact ⟨by rw [HZ.out]; exact hp, rfl⟩⟩
  case round =>
    obtain ⟨k, m, N, hm, hms, rfl, rfl, hN, hA⟩ := hrel
    have HM := Lib.hid hm
    have HN := Lib.hid hN
    have HA := Lib.hid hA
    clear hm hN hA
    have HF : Hid (NumStop s.data.toList p k → NumPost s.data.toList p w (.returned (.tuple #[.int .i64 N, .int .i64 m])) w) := Lib.hid (fun h => ⟨k, HA.out, h, by rw [HN.out, HM.out], rfl⟩)
    by_cases hlt : m < s.size
    · have q0 : (0 : Int) ≤ m := by omega
      have q1 : (m : Int) < s.size := by omega
      have r2 : IntKind.i64.wrap ((m : Int) + 1) = m + 1 := IntWalk.i64_in _ (by omega)
      have HE := Lib.hid (Lib.data_getElem? s m hlt)
      obtain ⟨u, hu⟩ : ∃ u, s[m] = u := ⟨_, rfl⟩
      obtain ⟨d, hd⟩ : ∃ d, s[m].toNat = d := ⟨_, rfl⟩
      rw [hu] at HE
      have HD : Hid (u.toNat = d) := Lib.hid (by rw [← hu]; exact hd)
      have hd256 : d < 256 := by rw [← hd]; exact s[m].toNat_lt
      clear hu
      have HE2 : Hid (s.data.toList[p + k]? = some u) := Lib.hid (by rw [← HM.out]; exact HE.out)
      by_cases h1 : 48 ≤ d
      · by_cases h2 : d ≤ 57
        · have e1 : decide ((48 : Int) ≤ d) = true := decide_eq_true (by omega)
          have e2 : decide ((d : Int) ≤ 57) = true := decide_eq_true (by omega)
          have e1' : decide (48 ≤ d) = true := decide_eq_true h1
          have e2' : decide (d ≤ 57) = true := decide_eq_true h2
          have hdig : isDig u = true := by
            unfold isDig; rw [HD.out, e1', e2']; rfl
          have HO := Lib.hid (HA.out.on HE2.out hdig)
          clear hdig
          by_cases h3 : N < 100000000000
          · have e3 : decide ((N : Int) < 100000000000) = true := decide_eq_true (by omega)
            have e3' : decide (N < 100000000000) = true := decide_eq_true h3
            have r3 : IntKind.i64.wrap (10 * (N : Int)) = 10 * N := IntWalk.i64_in _ (by omega)
            have r4 : IntKind.u8.wrap ((d : Int) - 48) = ((d - 48 : Nat) : Int) := by
              have : ((d : Int) - 48) = ((d - 48 : Nat) : Int) := by omega
              rw [this]
              exact IntWalk.u8_in _ (by omega)
            have r5 : IntKind.i64.wrap ((d - 48 : Nat) : Int) = ((d - 48 : Nat) : Int) := IntWalk.i64_in _ (by omega)
            have r6 : IntKind.i64.wrap (10 * (N : Int) + ((d - 48 : Nat) : Int)) = ((10 * N + (d - 48) : Nat) : Int) := by
              have : (10 * (N : Int) + ((d - 48 : Nat) : Int)) = ((10 * N + (d - 48) : Nat) : Int) := by omega
              rw [this]
              exact IntWalk.i64_in _ (by omega)
            obtain ⟨d2, hd2⟩ : ∃ x, d - 48 = x := ⟨_, rfl⟩
            rw [hd2] at r4 r5 r6
            have HD2 := Lib.hid hd2
            clear hd2
            go_wp2_with fail
            go_round
            case rel => exact ⟨k + 1, m + 1, 10 * N + d2, by have := HM.out; omega, by omega, by go_num, by go_num, by rw [HO.out.2, HN.out, HD.out, HD2.out], HO.out.1⟩
            case measure => simp [intOf]; omega
          · have e3 : decide ((N : Int) < 100000000000) = false := decide_eq_false (by omega)
            have e3' : decide (N < 100000000000) = false := decide_eq_false h3
            have HG := Lib.hid (HF.out (.inr (.inr (by rw [HN.out]; omega))))
            clear HF
            go_wp2_with fail
            go_ret2
            exact HG.out
        · have e1 : decide ((48 : Int) ≤ d) = true := decide_eq_true (by omega)
          have e2 : decide ((d : Int) ≤ 57) = false := decide_eq_false (by omega)
          have e1' : decide (48 ≤ d) = true := decide_eq_true h1
          have e2' : decide (d ≤ 57) = false := decide_eq_false h2
          have HG := Lib.hid (HF.out (.inr (.inl ⟨u, HE2.out, by unfold isDig; rw [HD.out, e1', e2']; rfl⟩)))
          clear HF
          go_wp2_with fail
          go_ret2
          exact HG.out
      · have e1 : decide ((48 : Int) ≤ d) = false := decide_eq_false (by omega)
        have e1' : decide (48 ≤ d) = false := decide_eq_false h1
        have HG := Lib.hid (HF.out (.inr (.inl ⟨u, HE2.out, by unfold isDig; rw [HD.out, e1']; rfl⟩)))
        clear HF
        go_wp2_with fail
        go_ret2
        exact HG.out
    · obtain rfl : m = s.size := by omega
      have HG := Lib.hid (HF.out (.inl (by rw [← HM.out, HZ.out])))
      clear HF
      go_wp2_with fail
      go_ret2
      exact HG.out
end Go.Proofs.YtmnhnighlgpjmaaDoor
