/-
  Contracts of the reference's digit, value, Hex and Unhex.
-/
import Derived.Test.YtcekmedfphmpcaaDoorBase
namespace Go.Proofs.YtcekmedfphmpcaaDoor
set_option linter.unusedVariables false
set_option linter.unusedSimpArgs false
open Go.RowKit

/-! Hexadecimal on lists of bytes -/
def hexd (n : Nat) : UInt8 := UInt8.ofNat (if n < 10 then 48 + n else 87 + n)
def hex (l : List UInt8) : List UInt8 := l.flatMap fun b => [hexd (b.toNat / 16), hexd (b.toNat % 16)]
/-- The number of a digit, or 16. -/
def hexv (c : UInt8) : Nat := if 48 ≤ c.toNat ∧ c.toNat ≤ 57 then c.toNat - 48 else if 97 ≤ c.toNat ∧ c.toNat ≤ 102 then c.toNat - 87 else 16
def unhex : List UInt8 → Option (List UInt8)
  | [] => some []
  | [_] => none
  | a :: b :: l => if hexv a < 16 ∧ hexv b < 16 then (unhex l).map (UInt8.ofNat (16 * hexv a + hexv b) :: ·) else none

theorem hexv_le (c : UInt8) : hexv c ≤ 16 := by unfold hexv; split <;> (try split) <;> omega
theorem hexd_val (n : Nat) (h : n < 16) : (hexd n).toNat = if n < 10 then 48 + n else 87 + n := by
  unfold hexd; rw [u8_of (by split <;> omega)]
theorem hexv_hexd (n : Nat) (h : n < 16) : hexv (hexd n) = n := by
  unfold hexv; rw [hexd_val n h]
  by_cases h10 : n < 10
  · rw [if_pos h10, if_pos (by omega)]; omega
  · rw [if_neg h10, if_neg (by omega), if_pos (by omega)]; omega
theorem hexd_hexv (c : UInt8) (h : hexv c < 16) : hexd (hexv c) = c := by
  apply UInt8.toNat_inj.1
  rw [hexd_val _ h]
  unfold hexv at h ⊢
  split at h
  · rename_i h1; rw [if_pos h1, if_pos (by omega)]; omega
  · rename_i h1
    split at h
    · rename_i h2; rw [if_neg h1, if_pos h2, if_neg (by omega)]; omega
    · omega
theorem unhex_hex (l : List UInt8) : unhex (hex l) = some l := by
  induction l with
  | nil => rfl
  | cons b l ih =>
    have hb := b.toNat_lt
    show unhex (hexd (b.toNat / 16) :: hexd (b.toNat % 16) :: hex l) = _
    rw [unhex, hexv_hexd _ (by omega), hexv_hexd _ (by omega), if_pos (by omega), ih]
    have e : 16 * (b.toNat / 16) + b.toNat % 16 = b.toNat := by omega
    rw [e]; simp
theorem hex_unhex : ∀ (l m : List UInt8), unhex l = some m → hex m = l
  | [], m, h => by simp [unhex] at h; subst h; rfl
  | [_], m, h => by simp [unhex] at h
  | a :: b :: l, m, h => by
    rw [unhex] at h
    by_cases hc : hexv a < 16 ∧ hexv b < 16
    · rw [if_pos hc] at h
      rcases hu : unhex l with _ | m'
      · rw [hu] at h; simp at h
      · rw [hu] at h
        simp only [Option.map_some, Option.some.injEq] at h
        subst h
        have ih := hex_unhex l m' hu
        have e : (UInt8.ofNat (16 * hexv a + hexv b)).toNat = 16 * hexv a + hexv b := u8_of (by omega)
        show hexd (_ / 16) :: hexd (_ % 16) :: hex m' = _
        rw [ih, e, show (16 * hexv a + hexv b) / 16 = hexv a by omega, show (16 * hexv a + hexv b) % 16 = hexv b by omega, hexd_hexv a hc.1, hexd_hexv b hc.2]
    · rw [if_neg hc] at h; cases h
theorem hex_length (l : List UInt8) : (hex l).length = 2 * l.length := by
  induction l with
  | nil => rfl
  | cons b l ih => show (hex l).length + 1 + 1 = _; rw [ih, List.length_cons]; omega
theorem hex_append (a b : List UInt8) : hex (a ++ b) = hex a ++ hex b := List.flatMap_append
theorem take_hex (l : List UInt8) (k : Nat) (h : k < l.length) : hex (l.take (k + 1)) = hex (l.take k) ++ [hexd (l[k].toNat / 16), hexd (l[k].toNat % 16)] := by
  rw [List.take_succ_eq_append_getElem h, hex_append]; rfl
theorem unhex_even : ∀ (l m : List UInt8), unhex l = some m → l.length % 2 = 0
  | [], m, h => rfl
  | [_], m, h => by simp [unhex] at h
  | a :: b :: l, m, h => by
    rw [unhex] at h
    by_cases hc : hexv a < 16 ∧ hexv b < 16
    · rw [if_pos hc] at h
      rcases hu : unhex l with _ | m'
      · rw [hu] at h; simp at h
      · have := unhex_even l m' hu
        simp; omega
    · rw [if_neg hc] at h; cases h

set_option maxRecDepth 100000 in
theorem digitR (n : Nat) (w : World) (h : n < 16) :
    Calls Tryd.prog 29 #[.int .i64 n] w fun e w' => e = .returned (.int .u8 ((hexd n).toNat : Nat)) ∧ w = w' := by
  have hv := hexd_val n h
  by_cases h10 : n < 10
  · rw [if_pos h10] at hv
    have HV := Lib.hid hv; clear hv
    go_enter Tryd.func29, Tryd.ntmps29
    go_wp2_with fail
    go_ret
    exact ⟨by rw [HV.out]; rfl, rfl⟩
  · rw [if_neg h10] at hv
    have HV : Hid (((hexd n).toNat : Int) = 97 + n - 10) := by show _ = _; rw [hv]; omega
    clear hv
    go_enter Tryd.func29, Tryd.ntmps29
    go_wp2_with fail
    go_ret
    exact ⟨by rw [HV.out]; rfl, rfl⟩

set_option maxRecDepth 100000 in
theorem valueR_yes (c : UInt8) (w : World) (h : hexv c < 16) :
    Calls Tryd.prog 22 #[.int .u8 c.toNat] w fun e w' => e = .returned (.int .i64 (hexv c)) ∧ w = w' := by
  have hc := c.toNat_lt
  by_cases h1 : 48 ≤ c.toNat ∧ c.toNat ≤ 57
  · have HV : Hid ((hexv c : Int) = (c.toNat : Int) - 48) := by show _ = _; unfold hexv; rw [if_pos h1]; omega
    obtain ⟨h2, h3⟩ := h1
    clear h
    go_enter Tryd.func22, Tryd.ntmps22
    go_wp2_with fail
    go_ret
    exact ⟨by rw [HV.out]; rfl, rfl⟩
  · have h2 : 97 ≤ c.toNat ∧ c.toNat ≤ 102 := by
      unfold hexv at h; rw [if_neg h1] at h
      by_cases h2 : 97 ≤ c.toNat ∧ c.toNat ≤ 102
      · exact h2
      · rw [if_neg h2] at h; omega
    have HV : Hid ((hexv c : Int) = (c.toNat : Int) - 97 + 10) := by show _ = _; unfold hexv; rw [if_neg h1, if_pos h2]; omega
    obtain ⟨h3, h4⟩ := h2
    clear h h1
    go_enter Tryd.func22, Tryd.ntmps22
    go_wp2_with fail
    go_ret
    exact ⟨by rw [HV.out]; rfl, rfl⟩

set_option maxRecDepth 100000 in
theorem valueR_no (c : UInt8) (w : World) (h : ¬ hexv c < 16) :
    Calls Tryd.prog 22 #[.int .u8 c.toNat] w fun e w' => e = .returned (.int .i64 (-1)) ∧ w = w' := by
  have hc := c.toNat_lt
  have h1 : ¬ (48 ≤ c.toNat ∧ c.toNat ≤ 57) := fun h1 => h (by unfold hexv; rw [if_pos h1]; omega)
  have h2 : ¬ (97 ≤ c.toNat ∧ c.toNat ≤ 102) := fun h2 => h (by unfold hexv; rw [if_neg h1, if_pos h2]; omega)
  clear h
  by_cases h3 : c.toNat < 48
  · clear h1 h2
    go_enter Tryd.func22, Tryd.ntmps22
    go_wp2_with fail
    go_ret
    exact ⟨rfl, rfl⟩
  · have h4 : 57 < c.toNat := by omega
    by_cases h5 : c.toNat < 97
    · clear h1 h2
      go_enter Tryd.func22, Tryd.ntmps22
      go_wp2_with fail
      go_ret
      exact ⟨rfl, rfl⟩
    · have h6 : 102 < c.toNat := by omega
      clear h1 h2
      go_enter Tryd.func22, Tryd.ntmps22
      go_wp2_with fail
      go_ret
      exact ⟨rfl, rfl⟩
theorem digit_hi (c : UInt8) (w : World) :
    Calls Tryd.prog 29 #[.int .i64 ((c.toNat : Int) / 16)] w fun e w' => e = .returned (.int .u8 ((hexd (c.toNat / 16)).toNat : Nat)) ∧ w = w' :=
  digitR (c.toNat / 16) w (by have := c.toNat_lt; omega)
theorem digit_lo (c : UInt8) (w : World) :
    Calls Tryd.prog 29 #[.int .i64 ((c.toNat : Int) % 16)] w fun e w' => e = .returned (.int .u8 ((hexd (c.toNat % 16)).toNat : Nat)) ∧ w = w' :=
  digitR (c.toNat % 16) w (by omega)

set_option maxRecDepth 100000 in
set_option maxHeartbeats 1000000 in
theorem hexR (l : List UInt8) (w : World) (hl : l.length ≤ 1000000) :
    Calls Tryd.prog 19 #[.string (bs l)] w fun e w' => e = .returned (.string (bs (hex l))) ∧ Below w.heap.size w w' := by
  obtain ⟨i0, hi0, hz0, hz1, hz2⟩ := info_parts info5
  obtain ⟨s, hS⟩ : ∃ s, bs l = s := ⟨_, rfl⟩
  have hsz : s.size = l.length := by rw [← hS, bs_size]
  have hs' : s.size ≤ 1000000 := by omega
  have hget : ∀ k (h : k < s.size) (h' : k < l.length), s[k] = l[k] := by subst hS; exact fun k h _ => bs_get l k h
  rw [hS]
  have HG := Lib.hid hget; clear hget
  have HZ := Lib.hid hsz; clear hsz
  have HS := Lib.hid hS; clear hS
  go_enter Tryd.func19, Tryd.ntmps19
  go_wp2_with fail
  go_loopw [3, 4] (fun b i wr => ∃ k : Nat, k ≤ s.size ∧ i = .int .i64 k ∧ wr.ownsRow w.heap.size 5 1 b (2 * k) (cl (hex (l.take k))) ∧ Below w.heap.size w wr) (fun _ i _ => s.size - (intOf i).toNat)
  case atStart => exact ⟨0, by omega, rfl, World.ownsRow_nil _ _ _ _, Below.refl _ _⟩
  case round =>
    obtain ⟨k, hk, rfl, hown, hB⟩ := hrel
    have hbs := hB.size
    by_cases hlt : k < s.size
    · have hkl : k < l.length := by rw [← HZ.out]; exact hlt
      have HT := Lib.hid (take_hex l k hkl)
      have q0 : (0 : Int) ≤ k := by omega
      have q1 : (k : Int) < s.size := by omega
      have hc := s[k].toNat_lt
      have q2 : ((s[k].toNat : Int)).tdiv 16 = (s[k].toNat : Int) / 16 := Int.tdiv_eq_ediv_of_nonneg (by omega)
      have q3 : ((s[k].toNat : Int)).tmod 16 = (s[k].toNat : Int) % 16 := Int.tmod_eq_emod_of_nonneg (by omega)
      have q4 : IntKind.i64.wrap (s[k].toNat : Int) = s[k].toNat := IntWalk.i64_in _ (by omega)
      have q5 : IntKind.i64.wrap ((s[k].toNat : Int) / 16) = (s[k].toNat : Int) / 16 := IntWalk.i64_in _ (by omega)
      have q6 : IntKind.i64.wrap ((s[k].toNat : Int) % 16) = (s[k].toNat : Int) % 16 := IntWalk.i64_in _ (by omega)
      have HGk := Lib.hid (HG.out k hlt hkl)
      go_wp2_with fail
      go_region_law (first
        | (refine step_append_lies _ (by rfl) _ _ _ (by rfl) w.heap.size 5 i0 (.int .u8 0) 1 1 Tryd.underlying30 hi0 hz0 hz1 hz2 rfl (by omega) _ _ _ (by rfl) ((hown.alloc _).drew) ⟨wr.heap.size, 0, none⟩ 2 2 [.int .u8 ((hexd (s[k].toNat / 16)).toNat : Nat), .int .u8 ((hexd (s[k].toNat % 16)).toNat : Nat)] (by rfl) (by rfl) (World.news_of_block (cs := #[.int .u8 ((hexd (s[k].toNat / 16)).toNat : Nat), .int .u8 ((hexd (s[k].toNat % 16)).toNat : Nat)]) (t := 5) (fr := (0, 0)) (heap_alloc_new wr _)) (by simp [Value.oneCell']) (by omega) (by unfold maxLen; omega) (by omega) (by simp; omega) (wr.heap.size + 1) (by simp) ?_; intro gg cap w3 hown3 hgrow3 hat3 hlt3)
        | (go_simp; go_at_call 29; ((with_reducible refine (digit_hi _ _).mono ?_); rintro e w' ⟨rfl, rfl⟩))
        | (go_simp; go_at_call 29; ((with_reducible refine (digit_lo _ _).mono ?_); rintro e w' ⟨rfl, rfl⟩)))
      all_goals
        clear q2 q3 q4 q5 q6
        go_wp2_with fail
        go_roundw
        case rel => exact ⟨k + 1, by omega, by go_num, by rw [HT.out, cl_append, ← HGk.out]; exact hown3, ((hB.alloc hbs _).drew).grown hgrow3 (by simp; omega) (fun k hk => (hown.lt k hk).1)⟩
        case measure => simp [intOf]; omega
    · obtain rfl : k = s.size := by omega
      have hfull : l.take s.size = l := List.take_of_length_le (by rw [HZ.out]; omega)
      rw [hfull] at hown
      clear hfull
      have hcv := conv_any hown
      go_wp2_with fail
      go_ret
      exact ⟨rfl, hB⟩
def unhexRes (l : List UInt8) : Value := .tuple #[.string (bs ((unhex l).getD [])), .bool (unhex l).isSome]
theorem unhexRes_none {l : List UInt8} (h : unhex l = none) : unhexRes l = .tuple #[.string (bs []), .bool false] := by unfold unhexRes; rw [h]; rfl
theorem unhexRes_some {l m : List UInt8} (h : unhex l = some m) : unhexRes l = .tuple #[.string (bs m), .bool true] := by unfold unhexRes; rw [h]; rfl
theorem drop_two (l : List UInt8) (k : Nat) (h : k + 1 < l.length) : l.drop k = l[k] :: l[k + 1] :: l.drop (k + 2) := by
  rw [List.drop_eq_getElem_cons (by omega), List.drop_eq_getElem_cons (by omega)]
theorem unhex_step {l m : List UInt8} {k : Nat} (h : k + 1 < l.length) (hu : unhex l = (unhex (l.drop k)).map (m ++ ·)) (ha : hexv l[k] < 16) (hb : hexv l[k + 1] < 16) :
    unhex l = (unhex (l.drop (k + 2))).map ((m ++ [UInt8.ofNat (16 * hexv l[k] + hexv l[k + 1])]) ++ ·) := by
  rw [drop_two l k h, unhex, if_pos ⟨ha, hb⟩] at hu
  rw [hu]
  cases unhex (l.drop (k + 2)) <;> simp
theorem unhex_bad {l m : List UInt8} {k : Nat} (h : k + 1 < l.length) (hu : unhex l = (unhex (l.drop k)).map (m ++ ·)) (hc : ¬ (hexv l[k] < 16 ∧ hexv l[k + 1] < 16)) : unhex l = none := by
  rw [drop_two l k h, unhex, if_neg hc] at hu
  exact hu

set_option maxRecDepth 100000 in
set_option maxHeartbeats 1000000 in
theorem unhexR (l : List UInt8) (w : World) (hl : l.length ≤ 1000000) :
    Calls Tryd.prog 11 #[.string (bs l)] w fun e w' => e = .returned (unhexRes l) ∧ Below w.heap.size w w' := by
  obtain ⟨i0, hi0, hz0, hz1, hz2⟩ := info_parts info5
  obtain ⟨s, hS⟩ : ∃ s, bs l = s := ⟨_, rfl⟩
  have hsz : s.size = l.length := by rw [← hS, bs_size]
  have hs' : s.size ≤ 1000000 := by omega
  have hget : ∀ k (h : k < s.size) (h' : k < l.length), s[k] = l[k] := by subst hS; exact fun k h _ => bs_get l k h
  rw [hS]
  have HG := Lib.hid hget; clear hget
  have HZ := Lib.hid hsz; clear hsz
  have HS := Lib.hid hS; clear hS
  by_cases hodd : s.size % 2 = 1
  · have ho : (((s.size : Int) % 2) == 1) = true := by rw [show ((s.size : Int) % 2) = ((s.size % 2 : Nat) : Int) from rfl, hodd]; rfl
    have HN : Hid (unhexRes l = .tuple #[.string (bs []), .bool false]) := by
      refine unhexRes_none ?_
      rcases hu : unhex l with _ | m
      · rfl
      · have := unhex_even l m hu
        have := HZ.out; omega
    rw [HN.out]
    clear hodd
    go_enter Tryd.func11, Tryd.ntmps11
    go_wp2_with fail
    go_ret2
    exact ⟨rfl, Below.refl _ _⟩
  · have ho : (((s.size : Int) % 2) == 1) = false := by simp; omega
    go_enter Tryd.func11, Tryd.ntmps11
    go_wp2_with fail
    go_loopw [4, 5] (fun b i wr => ∃ (k : Nat) (m : List UInt8), 2 * k ≤ s.size ∧ i = .int .i64 ((2 * k : Nat) : Int) ∧ unhex l = (unhex (l.drop (2 * k))).map (m ++ ·) ∧ m.length = k ∧ wr.ownsRow w.heap.size 5 1 b k (cl m) ∧ Below w.heap.size w wr) (fun _ i _ => s.size - (intOf i).toNat)
    case atStart => exact ⟨0, [], by omega, rfl, by simp, rfl, World.ownsRow_nil _ _ _ _, Below.refl _ _⟩
    case round =>
      obtain ⟨k, m, hk, rfl, hu, hml, hown, hB⟩ := hrel
      have hbs := hB.size
      have HU := Lib.hid hu; clear hu
      have HML := Lib.hid hml; clear hml
      obtain ⟨i, hi⟩ : ∃ i, 2 * k = i := ⟨_, rfl⟩
      rw [hi]
      have hik : i ≤ s.size := by omega
      have HI := Lib.hid hi
      by_cases hlt : i < s.size
      · have hlt2 : i + 1 < s.size := by omega
        clear hi hodd
        have hkl : i < l.length := by rw [← HZ.out]; exact hlt
        have hkl2 : i + 1 < l.length := by rw [← HZ.out]; exact hlt2
        have HU2 : Hid (unhex l = (unhex (l.drop i)).map (m ++ ·)) := by have := HU.out; rw [HI.out] at this; exact this
        obtain ⟨a, ha⟩ : ∃ a, s[i] = a := ⟨_, rfl⟩
        obtain ⟨b, hb⟩ : ∃ b, s[i + 1] = b := ⟨_, rfl⟩
        have hal : l[i] = a := by rw [← ha, HG.out i hlt hkl]
        have hbl : l[i + 1] = b := by rw [← hb, HG.out (i + 1) hlt2 hkl2]
        have HAL := Lib.hid hal; clear hal
        have HBL := Lib.hid hbl; clear hbl
        by_cases hva : hexv a < 16
        · by_cases hvb : hexv b < 16
          · have HN := Lib.hid (unhex_step hkl2 HU2.out (by rw [HAL.out]; exact hva) (by rw [HBL.out]; exact hvb))
            go_wp2_with fail
            refine (valueR_yes a _ hva).mono ?_; rintro e w' ⟨rfl, rfl⟩
            go_wp2_with fail
            refine (valueR_yes b _ hvb).mono ?_; rintro e w' ⟨rfl, rfl⟩
            go_wp2_with (at_builtin; refine wpList_append_own _ rfl _ _ 30 rfl w.heap.size 5 i0 (.int .u8 0) 1 1 Tryd.underlying30 hi0 hz0 hz1 hz2 rfl (by decide) _ _ _ rfl (hown.alloc _) ⟨wr.heap.size, 0, none⟩ 1 1 [.int .u8 (16 * (hexv a : Int) + hexv b)] rfl rfl (cell_one_new _ _ _) (fun x hx => by simp at hx; subst hx; rfl) (by unfold maxLen; omega) (by omega) (by simp; omega) ?_; intro v' w3 hown3 hgrow3 hnil3)
            go_roundw
            case rel =>
              refine ⟨k + 1, m ++ [UInt8.ofNat (16 * hexv a + hexv b)], by have := HI.out; omega, by have := HI.out; congr 1; omega, ?_, by rw [List.length_append, HML.out]; rfl, ?_, (hB.alloc hbs _).grown hgrow3 (by simp; omega) (fun k hk => (hown.lt k hk).1)⟩
              · have := HN.out
                rw [HAL.out, HBL.out] at this
                rw [show 2 * (k + 1) = i + 2 by have := HI.out; omega]
                exact this
              · rw [cl_append]
                have e : cl [UInt8.ofNat (16 * hexv a + hexv b)] = [.int .u8 (16 * (hexv a : Int) + hexv b)] := by
                  simp only [cl, List.map_cons, List.map_nil]; rw [u8_of (by omega)]; rfl
                rw [e]; exact hown3
            case measure => simp [intOf]; omega
          · have HN : Hid (unhexRes l = .tuple #[.string (bs []), .bool false]) := unhexRes_none (unhex_bad hkl2 HU2.out (fun hc => hvb (by rw [← HBL.out]; exact hc.2)))
            go_wp2_with fail
            refine (valueR_yes a _ hva).mono ?_; rintro e w' ⟨rfl, rfl⟩
            go_wp2_with fail
            refine (valueR_no b _ hvb).mono ?_; rintro e w' ⟨rfl, rfl⟩
            go_wp2_with fail
            go_ret2
            exact ⟨by rw [HN.out]; rfl, hB⟩
        · have HN : Hid (unhexRes l = .tuple #[.string (bs []), .bool false]) := unhexRes_none (unhex_bad hkl2 HU2.out (fun hc => hva (by rw [← HAL.out]; exact hc.1)))
          go_wp2_with fail
          refine (valueR_no a _ hva).mono ?_; rintro e w' ⟨rfl, rfl⟩
          go_wp2_with fail
          by_cases hvb : hexv b < 16
          · refine (valueR_yes b _ hvb).mono ?_; rintro e w' ⟨rfl, rfl⟩
            go_wp2_with fail
            go_ret2
            exact ⟨by rw [HN.out]; rfl, hB⟩
          · refine (valueR_no b _ hvb).mono ?_; rintro e w' ⟨rfl, rfl⟩
            go_wp2_with fail
            go_ret2
            exact ⟨by rw [HN.out]; rfl, hB⟩
      · have HN : Hid (unhexRes l = .tuple #[.string (bs m), .bool true]) := by
          refine unhexRes_some ?_
          have h1 := HU.out
          rw [List.drop_eq_nil_of_le (by have := HZ.out; omega)] at h1
          rw [h1]; simp [unhex]
        have hcv := conv_any hown
        clear hi hodd
        go_wp2_with fail
        go_ret2
        exact ⟨by rw [HN.out]; rfl, hB⟩
end Go.Proofs.YtcekmedfphmpcaaDoor
