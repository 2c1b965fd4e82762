/-
  The reference of isa: skip.
-/
import Derived.Test.YtmnhnighlgpjmaaDoorIX
namespace Go.Proofs.YtmnhnighlgpjmaaDoor
set_option linter.unusedVariables false
set_option linter.unusedSimpArgs false
open Go.RowKit

/-- The offset of the first byte from an offset on that is not a blank. -/
def skipN (l : List UInt8) (p : Nat) : Nat := p + ((l.drop p).takeWhile isBl).length
theorem skip_on {l : List UInt8} {p : Nat} {u : UInt8} (h : l[p]? = some u) (hb : isBl u = true) : skipN l p = skipN l (p + 1) := by
  unfold skipN
  have hlt := (List.getElem?_eq_some_iff.1 h).1
  have e : l.drop p = u :: l.drop (p + 1) := by
    rw [List.drop_eq_getElem_cons hlt, (List.getElem?_eq_some_iff.1 h).2]
  rw [e, List.takeWhile_cons_of_pos hb, List.length_cons]
  omega
theorem skip_stop {l : List UInt8} {p : Nat} {u : UInt8} (h : l[p]? = some u) (hb : isBl u = false) : skipN l p = p := by
  unfold skipN
  have hlt := (List.getElem?_eq_some_iff.1 h).1
  have e : l.drop p = u :: l.drop (p + 1) := by
    rw [List.drop_eq_getElem_cons hlt, (List.getElem?_eq_some_iff.1 h).2]
  rw [e, List.takeWhile_cons_of_neg (by rw [hb]; decide)]
  rfl
theorem skip_end {l : List UInt8} {p : Nat} (h : l.length ≤ p) : skipN l p = p := by
  unfold skipN
  rw [List.drop_eq_nil_of_le h]; rfl

set_option maxRecDepth 100000 in
set_option maxHeartbeats 1000000 in
theorem skipP (s : ByteArray) (p : Nat) (w : World) (hp : p ≤ s.size) (hs : s.size ≤ 1000000) :
    Calls Tryd.prog 23 #[.string s, .int .i64 p] w fun e w' => e = .returned (.int .i64 (skipN s.data.toList p)) ∧ w = w' := by
  obtain ⟨r, hr⟩ : ∃ r, skipN s.data.toList p = r := ⟨_, rfl⟩
  rw [hr]
  have HR := Lib.hid hr
  clear hr
  have HZ := Lib.hid (show s.data.toList.length = s.size by simp)
  go_enter Tryd.func23, Tryd.ntmps23
  go_wp2_with fail
  go_loop [1] (fun i => ∃ (k : Nat), k ≤ s.size ∧ i = .int .i64 k ∧ skipN s.data.toList k = r) (fun i => s.size - (intOf i).toNat)
  case atStart => exact ⟨p, hp, rfl, HR.out⟩
  case round =>
    obtain ⟨k, hk, rfl, hkr⟩ := hrel
    have HK := Lib.hid hkr
    clear hkr
    by_cases hlt : k < s.size
    · have q0 : (0 : Int) ≤ k := by omega
      have q1 : (k : Int) < s.size := by omega
      have r2 : IntKind.i64.wrap ((k : Int) + 1) = k + 1 := IntWalk.i64_in _ (by omega)
      have HE := Lib.hid (Lib.data_getElem? s k hlt)
      obtain ⟨u, hu⟩ : ∃ u, s[k] = u := ⟨_, rfl⟩
      obtain ⟨n, hn⟩ : ∃ n, s[k].toNat = n := ⟨_, rfl⟩
      rw [hu] at HE
      have HN : Hid (u.toNat = n) := Lib.hid (by rw [← hu]; exact hn)
      clear hu
      by_cases h32 : n = 32
      · subst h32
        have HS : Hid (skipN s.data.toList (k + 1) = r) := Lib.hid (by rw [← HK.out, skip_on HE.out ((isBl_iff u).2 (.inl (UInt8.toNat_inj.1 HN.out)))])
        go_wp2_with fail
        go_round
        case rel => exact ⟨k + 1, by omega, by go_num, HS.out⟩
        case measure => simp [intOf]; omega
      · have h32q : ((n : Int) == 32) = false := beq_eq_false_iff_ne.2 (by omega)
        by_cases h9 : n = 9
        · subst h9
          have HS : Hid (skipN s.data.toList (k + 1) = r) := Lib.hid (by rw [← HK.out, skip_on HE.out ((isBl_iff u).2 (.inr (UInt8.toNat_inj.1 HN.out)))])
          go_wp2_with fail
          go_round
          case rel => exact ⟨k + 1, by omega, by go_num, HS.out⟩
          case measure => simp [intOf]; omega
        · have h9q : ((n : Int) == 9) = false := beq_eq_false_iff_ne.2 (by omega)
          have HS : Hid (k = r) := Lib.hid (by
            have hb : isBl u = false := by
              cases h : isBl u
              · rfl
              · rcases (isBl_iff u).1 h with rfl | rfl
                · exact absurd HN.out.symm h32
                · exact absurd HN.out.symm h9
            rw [← HK.out, skip_stop HE.out hb])
          clear h32 h9
          go_wp2_with fail
          go_ret
          exact ⟨by have e := HS.out; subst e; rfl, rfl⟩
    · obtain rfl : k = s.size := by omega
      have HS : Hid (s.size = r) := Lib.hid (by rw [← HK.out, skip_end (by rw [HZ.out]; exact Nat.le_refl _)])
      go_wp2_with fail
      go_ret
      exact ⟨by have e := HS.out; subst e; rfl, rfl⟩
end Go.Proofs.YtmnhnighlgpjmaaDoor
