/-
  The reference of isa: Name, find.
-/
import Derived.Test.YtmnhnighlgpjmaaDoorJ2
namespace Go.Proofs.YtmnhnighlgpjmaaDoor
set_option linter.unusedVariables false
set_option linter.unusedSimpArgs false
open Go.RowKit

def namesV : List Value := (List.range 31).map fun o => Value.string (arr (nameN o))
theorem namesV_len : namesV.length = 31 := by unfold namesV; simp
theorem names_at (o : Nat) (h : o < namesV.length) : namesV[o] = .string (arr (nameN o)) := by simp [namesV]
set_option maxRecDepth 100000 in
set_option maxHeartbeats 4000000 in
theorem rNameP (o : Nat) (w : World) (ho : o < 31) :
    Calls Tryd.prog 36 #[.int .i64 o] w fun e w' => e = .returned (.string (arr (nameN o))) ∧ Below w.heap.size w w' := by
  have HB := Lib.hid (below_new w (.cells namesV.toArray 9))
  have hq : decide ((31 : Int) ≤ o) = false := decide_eq_false (by omega)
  have HE := Lib.hid (names_at o (by rw [namesV_len]; exact ho))
  obtain ⟨r, hr⟩ : ∃ r, arr (nameN o) = r := ⟨_, rfl⟩
  rw [hr] at HE ⊢
  clear hr
  go_enter Tryd.func36, Tryd.ntmps36
  go_wp2_with fail
  go_ret
  exact ⟨congrArg Ending.returned HE.out, HB.out⟩

theorem name_beq (o : Nat) (s : ByteArray) : ((arr (nameN o)).toList == s.toList) = (nameN o == s.data.toList) := arr_beq _ s
set_option maxRecDepth 100000 in
set_option maxHeartbeats 1000000 in
theorem rFindP (s : ByteArray) (w : World) :
    Calls Tryd.prog 24 #[.string s] w fun e w' => e = .returned (.int .i64 (opOf s.data.toList : Nat)) ∧ Below w.heap.size w w' := by
  go_enter Tryd.func24, Tryd.ntmps24
  go_wp2_with fail
  go_loopw [3] (fun i wl => ∃ k : Nat, 1 ≤ k ∧ k ≤ 31 ∧ i = .int .i64 k ∧ (∀ o, 1 ≤ o → o < k → nameN o ≠ s.data.toList) ∧ Below w.heap.size w wl) (fun i _ => 31 - (intOf i).toNat)
  case atStart => exact ⟨1, Nat.le_refl _, by omega, rfl, fun o h1 h2 => by omega, Below.refl _ _⟩
  case round =>
    obtain ⟨k, hk1, hk, rfl, hno, hB⟩ := hrel
    have HNO := Lib.hid hno
    have HB := Lib.hid hB
    clear hno hB
    by_cases hlt : k < 31
    · have hd : decide ((k : Int) < 31) = true := decide_eq_true (by omega)
      have hd' : decide (k < 31) = true := decide_eq_true hlt
      have r2 : IntKind.i64.wrap ((k : Int) + 1) = k + 1 := IntWalk.i64_in _ (by omega)
      have HN := Lib.hid (fun W => rNameP k W hlt)
      have hbe := name_beq k s
      obtain ⟨t, ht⟩ : ∃ t, arr (nameN k) = t := ⟨_, rfl⟩
      rw [ht] at HN hbe
      clear ht
      cases hq : nameN k == s.data.toList
      · rw [hq] at hbe
        have HQ := Lib.hid hq
        clear hq
        go_wp2_with fail
        refine (HN.out _).mono ?_; rintro e w2 ⟨rfl, hb⟩
        have HB2 := Lib.hid (HB.out.trans (hb.mono HB.out.size))
        clear hb
        go_wp2_with fail
        go_roundw
        case rel =>
          refine ⟨k + 1, by omega, by omega, by go_num, fun o h1 h2 => ?_, HB2.out⟩
          by_cases e : o = k
          · subst e; exact beq_eq_false_iff_ne.1 HQ.out
          · exact HNO.out o h1 (by omega)
        case measure => simp [intOf]; omega
      · rw [hq] at hbe
        have HR : Hid (opOf s.data.toList = k) := Lib.hid (opOf_hit hk1 hlt (beq_iff_eq.1 hq))
        clear hq
        go_wp2_with fail
        refine (HN.out _).mono ?_; rintro e w2 ⟨rfl, hb⟩
        have HB2 := Lib.hid (HB.out.trans (hb.mono HB.out.size))
        clear hb
        go_wp2_with fail
        go_ret
        exact ⟨by rw [HR.out]; rfl, HB2.out⟩
    · obtain rfl : k = 31 := by omega
      have HR : Hid (opOf s.data.toList = 0) := Lib.hid (opOf_none fun o h1 h2 => HNO.out o h1 h2)
      go_wp2_with fail
      go_ret
      exact ⟨by rw [HR.out]; rfl, HB.out⟩
end Go.Proofs.YtmnhnighlgpjmaaDoor
