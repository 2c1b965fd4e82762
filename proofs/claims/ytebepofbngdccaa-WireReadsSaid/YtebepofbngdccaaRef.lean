/-
  Contracts of the reference's Reader.
-/
import Derived.Test.YtebepofbngdccaaList
import Derived.Deep.RegionHeld3
import Derived.Deep.DeepCutAuto
import Derived.Deep.QuietTactic
import Derived.BigQuiet
namespace Go.Proofs.Ytebepofbngdccaa
set_option linter.unusedVariables false
set_option linter.unusedSimpArgs false
open Go.RowKit

theorem qfail (g : Nat) (st : St) (w : World) (h : Rd w g 61 st) :
    Calls Try.prog 49 #[.pointer (some ⟨g, 0, none⟩)] w (RdPost g 61 .fail (.tuple #[]) w) := by
  have h0 := h.c0
  have h1 := h.c1
  have h2 := h.f0 0
  have h3 := h.f0 1
  go_enter Try.func49, Try.ntmps49
  go_wp2_with fail
  go_end0
  exact ⟨rfl, (h.set0 []).set1 true, (grown_set _ _ _ _).trans (grown_set _ _ _ _)⟩

/-- The facts of a number's bytes at the beginning of l. -/
theorem at_end {l r : List UInt8} {m k : Nat} (hl : l = enc m ++ r) (hk : k < l.length) :
    (k + 1 < (enc m).length → 128 ≤ l[k].toNat) ∧ (k + 1 = (enc m).length → l[k].toNat < 128) ∧ (k < (enc m).length → l[k].toNat % 128 = m / 128 ^ k % 128) := by
  obtain ⟨h1, h2⟩ := enc_at k m
  by_cases hkk : k < (enc m).length
  · have e : l[k]? = (enc m)[k]? := by rw [hl, List.getElem?_append_left hkk]
    rw [List.getElem?_eq_getElem hk] at e
    by_cases hc : k + 1 = (enc m).length
    · obtain ⟨h3, h4, _⟩ := h2 hc
      rw [h3] at e
      injection e with e
      rw [e, u8_of (by omega)]
      exact ⟨fun h => by omega, fun _ => h4, fun _ => rfl⟩
    · obtain ⟨h3, _⟩ := h1 (by omega)
      rw [h3] at e
      injection e with e
      rw [e, u8_of (by omega)]
      exact ⟨fun _ => by omega, fun h => by omega, fun _ => by omega⟩
  · exact ⟨fun h => by omega, fun h => by omega, fun h => by omega⟩

theorem num_pred (k : Nat) : Value.int .i64 (k : Int) = .int .i64 (((k + 1 : Nat) : Int) - 1) := by congr 1; omega
set_option maxRecDepth 100000 in
set_option maxHeartbeats 1000000 in
theorem qnumber_yes (g : Nat) (st : St) (w : World) (m : Nat) (r : List UInt8) (h : Rd w g 61 st) (hs : st.l.length ≤ 100000000) (hf : first st.l = some (m, r)) :
    Calls Try.prog 48 #[.pointer (some ⟨g, 0, none⟩)] w (RdPost g 61 ⟨r, st.bad⟩ (.int .u64 m) w) := by
  obtain ⟨hl, hm⟩ := first_some hf
  obtain ⟨l, bad⟩ := st
  have h0 := h.c0
  have h2 := h.f0 0
  simp only at hl hs h0
  have HF := Lib.hid (fun k (hk : k < l.length) => at_end hl hk)
  have hpos := enc_pos m
  have h10 := enc_le10 hm
  obtain ⟨z, hz⟩ : ∃ z, (enc m).length = z + 1 := ⟨(enc m).length - 1, by omega⟩
  rw [hz] at h10
  have hzl : z < l.length := by rw [hl, List.length_append, hz]; omega
  have HTK : Hid ((bs l).extract 0 (z + 1) = bs (enc m)) := by
    show _ = _
    rw [bs_take, ← hz, hl]; congr 1; exact List.take_left
  have HDR : Hid ((bs l).extract (z + 1) (bs l).size = bs r) := by
    show _ = _
    rw [bs_drop, ← hz]; congr 1; conv => lhs; rw [hl]
    exact List.drop_left
  have hsz := bs_size l
  have hbs := h.lt
  have HLT : Hid (m / 128 ^ (z + 1) = 0) := by
    have h4 := ((enc_at z m).2 hz.symm).2.1
    show _ = _
    rw [Nat.pow_succ, ← Nat.div_div_eq_div_mul]
    exact Nat.div_eq_of_lt h4
  have HZZ := Lib.hid hz; clear hz hl hf hpos
  obtain ⟨s, hS⟩ : ∃ s, bs l = s := ⟨_, rfl⟩
  have HR := Lib.hid h; clear h
  rw [hS] at h0 hsz
  have hg : ∀ k (h : k < s.size) (h' : k < l.length), s[k] = l[k] := by subst hS; exact fun k h _ => bs_get l k h
  have HG := Lib.hid hg; clear hg
  rw [hS] at HTK HDR
  have HS := Lib.hid hS; clear hS
  have hsb : s.size ≤ 100000000 := by omega
  have hzs : z < s.size := by omega
  have HSZ := Lib.hid hsz; clear hsz
  go_enter Try.func48, Try.ntmps48
  go_wp2_with fail
  go_loop [3] (fun i => ∃ k : Nat, k ≤ z ∧ i = .int .i64 k) (fun i => z - (intOf i).toNat)
  case atStart => exact ⟨0, by omega, rfl⟩
  case round =>
    obtain ⟨k, hk, rfl⟩ := hrel
    have hks : k < s.size := by omega
    have hb := HF.out k (by omega)
    rw [HZZ.out, ← HG.out k hks (by omega)] at hb
    obtain ⟨b1, b2, b3⟩ := hb
    by_cases hkz : k < z
    · have b1' : 128 ≤ (s[k].toNat : Int) := by have := b1 (by omega); omega
      clear b1 b2 b3
      go_wp2_with fail
      go_round
      case rel => exact ⟨k + 1, by omega, by go_num⟩
      case measure => simp [intOf]; omega
    · obtain rfl : k = z := by omega
      have b2' : (s[k].toNat : Int) < 128 := by have := b2 rfl; omega
      clear b1 b2 b3
      go_wp2_with fail
      go_loop [4, 5] (fun a i => ∃ j : Nat, j ≤ k + 1 ∧ i = .int .i64 ((j : Int) - 1) ∧ a = .int .u64 ((m / 128 ^ j : Nat) : Int)) (fun _ i => (intOf i + 1).toNat)
      case atStart => exact ⟨k + 1, by omega, num_pred k, by rw [HLT.out]; rfl⟩
      case round =>
        obtain ⟨j, hj, rfl, rfl⟩ := hrel
        rcases j with _ | i
        · rw [show m / 128 ^ 0 = m by simp]
          go_wp2_with fail
          have q1 : IntKind.i64.wrap ((k : Int) + 1) = k + 1 := IntWalk.i64_in _ (by omega)
          have q2 : (0 : Int) ≤ (k : Int) + 1 := by omega
          have q3 : (k : Int) + 1 ≤ s.size := by omega
          have q4 : ((k : Int) + 1).toNat = k + 1 := by omega
          have hcmp : ((bs (enc m)).toList == (s.extract 0 (k + 1)).toList) = true := by rw [HTK.out]; simp
          go_region_held3 (fun w' => w'.cell? ⟨g, 0, none⟩ = some (.string s)) (first | go_keep | (rw [← h0]; exact hB2.cell (p := ⟨g, 0, none⟩) hbs))
            (first | (go_at_call 44; refine (groups_any m _ hm).mono ?_; rintro e w2 ⟨rfl, hB2⟩))
          clear q1
          have f2 : w2.frozen? ⟨g, 0, none⟩ = false := (hB2.frozen (p := ⟨g, 0, none⟩) hbs).trans h2
          go_wp2_with fail
          go_ret
          have hB2' : Below w.heap.size w w2 := (Below.refl w.heap.size w).drew.trans hB2
          have hr2 := HR.out.below hB2' hbs
          rw [HDR.out]
          exact ⟨rfl, hr2.set0 r, (grown_below hB2' (some g)).trans (grown_set _ _ _ _)⟩
        · rw [show (((i + 1 : Nat) : Int) - 1) = (i : Int) by omega]
          have his : i < s.size := by omega
          have hb := (HF.out i (by omega)).2.2 (by rw [HZZ.out]; omega)
          rw [← HG.out i his (by omega)] at hb
          have hdiv : 128 * (m / 128 ^ (i + 1)) + m / 128 ^ i % 128 = m / 128 ^ i := by
            rw [Nat.pow_succ, ← Nat.div_div_eq_div_mul]; omega
          rw [← hb] at hdiv
          have hlt : m / 128 ^ i < 18446744073709551616 := Nat.lt_of_le_of_lt (Nat.div_le_self _ _) hm
          obtain ⟨A, hA⟩ : ∃ A, m / 128 ^ (i + 1) = A := ⟨_, rfl⟩
          obtain ⟨Bv, hBv⟩ : ∃ A, m / 128 ^ i = A := ⟨_, rfl⟩
          rw [hA, hBv] at hdiv
          rw [hBv] at hlt
          rw [hA]
          have hu := s[i].toNat_lt
          obtain ⟨d, hd⟩ : ∃ d, s[i].toNat % 128 = d := ⟨_, rfl⟩
          have hdd : ((s[i].toNat : Int) % 128) = (d : Int) := by rw [← hd]; rfl
          have hd2 : d < 128 := by omega
          rw [hd] at hdiv
          have hAd : 128 * (A : Int) + d < 18446744073709551616 := by omega
          have hAB : (128 * (A : Int) + d) = (Bv : Int) := by omega
          have HAB := Lib.hid hAB
          have HBV := Lib.hid hBv
          clear hA hBv hd hb hdiv hAB hu
          go_wp2_with fail
          go_round
          case rel => exact ⟨i, by omega, rfl, by rw [HBV.out, ← HAB.out]⟩
          case measure => simp [intOf]
theorem wrap_nat (x : Int) : ∃ a : Nat, IntKind.u64.wrap x = (a : Int) ∧ a < 18446744073709551616 := by
  rw [IntKind.wrap_u64]
  exact ⟨(x % 18446744073709551616).toNat, by omega, by omega⟩

set_option maxRecDepth 100000 in
set_option maxHeartbeats 1000000 in
theorem qnumber_no (g : Nat) (st : St) (w : World) (h : Rd w g 61 st) (hs : st.l.length ≤ 100000000) (hf : first st.l = none) :
    Calls Try.prog 48 #[.pointer (some ⟨g, 0, none⟩)] w (RdPost g 61 .fail (.int .u64 0) w) := by
  obtain ⟨l, bad⟩ := st
  have h0 := h.c0
  have h2 := h.f0 0
  simp only at hs h0
  have hbs := h.lt
  have hsz := bs_size l
  have HN : Hid (∀ a k : Nat, a < 18446744073709551616 → k < l.length → bs (enc a) ≠ (bs l).extract 0 (k + 1)) := by
    show ∀ a k : Nat, a < 18446744073709551616 → k < l.length → bs (enc a) ≠ (bs l).extract 0 (k + 1)
    intro a k ha hk e
    rw [bs_take] at e
    exact first_none hf ha (l.drop (k + 1)) (by rw [bs_inj e, List.take_append_drop])
  clear hf
  obtain ⟨s, hS⟩ : ∃ s, bs l = s := ⟨_, rfl⟩
  have HR := Lib.hid h; clear h
  rw [hS] at h0 hsz HN
  have HS := Lib.hid hS; clear hS
  have hsb : s.size ≤ 100000000 := by omega
  have HSZ := Lib.hid hsz; clear hsz
  go_enter Try.func48, Try.ntmps48
  go_wp2_with fail
  go_loop [3] (fun i => ∃ k : Nat, k ≤ s.size ∧ i = .int .i64 k) (fun i => s.size - (intOf i).toNat)
  case atStart => exact ⟨0, by omega, rfl⟩
  case round =>
    obtain ⟨k, hk, rfl⟩ := hrel
    by_cases hks : k < s.size
    · by_cases hb : 128 ≤ s[k].toNat
      · have b1' : 128 ≤ (s[k].toNat : Int) := by omega
        clear hb
        go_wp2_with fail
        go_round
        case rel => exact ⟨k + 1, by omega, by go_num⟩
        case measure => simp [intOf]; omega
      · have b2' : (s[k].toNat : Int) < 128 := by omega
        clear hb
        by_cases h9 : 9 < k
        · go_wp2_with fail
          refine (qfail g _ _ HR.out).mono ?_; rintro e w3 ⟨rfl, hr3, hg3⟩
          go_wp2_with fail
          go_ret
          exact ⟨rfl, hr3, hg3⟩
        · go_wp2_with fail
          go_loop [4, 5] (fun a i => ∃ j c : Nat, j ≤ k + 1 ∧ i = .int .i64 ((j : Int) - 1) ∧ a = .int .u64 (c : Int) ∧ c < 18446744073709551616) (fun _ i => (intOf i + 1).toNat)
          case atStart => exact ⟨k + 1, 0, by omega, num_pred k, rfl, by omega⟩
          case round =>
            obtain ⟨j, c, hj, rfl, rfl, hc⟩ := hrel
            rcases j with _ | i
            · go_wp2_with fail
              have q1 : IntKind.i64.wrap ((k : Int) + 1) = k + 1 := IntWalk.i64_in _ (by omega)
              have q2 : (0 : Int) ≤ (k : Int) + 1 := by omega
              have q3 : (k : Int) + 1 ≤ s.size := by omega
              have q4 : ((k : Int) + 1).toNat = k + 1 := by omega
              have hcmp : ((bs (enc c)).toList == (s.extract 0 (k + 1)).toList) = false := by
                have hne := HN.out c k hc (by have := HSZ.out; omega)
                rw [beq_eq_false_iff_ne]
                intro e
                rw [Lib.toList_data, Lib.toList_data] at e
                exact hne (ByteArray.ext (Array.ext' e))
              go_region_held3 (fun w' => w'.cell? ⟨g, 0, none⟩ = some (.string s)) (first | go_keep | (rw [← h0]; exact hB2.cell (p := ⟨g, 0, none⟩) hbs))
                (first | (go_at_call 44; refine (groups_any c _ hc).mono ?_; rintro e w2 ⟨rfl, hB2⟩))
              clear q1
              have hB2' : Below w.heap.size w w2 := (Below.refl w.heap.size w).drew.trans hB2
              have hr2 := HR.out.below hB2' hbs
              go_wp2_with fail
              refine (qfail g _ _ hr2).mono ?_; rintro e w3 ⟨rfl, hr3, hg3⟩
              go_wp2_with fail
              go_ret
              exact ⟨rfl, hr3, (grown_below hB2' (some g)).trans hg3⟩
            · rw [show (((i + 1 : Nat) : Int) - 1) = (i : Int) by omega]
              have his : i < s.size := by omega
              go_wp2_with fail
              go_round
              case rel =>
                obtain ⟨a, ha, ha2⟩ := wrap_nat (IntKind.u64.wrap (128 * (c : Int)) + (s[i].toNat : Int) % 128)
                exact ⟨i, a, by omega, rfl, by rw [ha], ha2⟩
              case measure => simp [intOf]
    · obtain rfl : k = s.size := by omega
      go_wp2_with fail
      refine (qfail g _ _ HR.out).mono ?_; rintro e w3 ⟨rfl, hr3, hg3⟩
      go_wp2_with fail
      go_ret
      exact ⟨rfl, hr3, hg3⟩
end Go.Proofs.Ytebepofbngdccaa
