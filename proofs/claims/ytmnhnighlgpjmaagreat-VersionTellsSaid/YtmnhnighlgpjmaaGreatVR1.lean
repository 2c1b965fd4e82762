/-
  The reference of layer 8: find, has, Name.
-/
import Derived.Test.YtmnhnighlgpjmaaGreatVLawZ
import Derived.Test.YtmnhnighlgpjmaaGreatVOrd
namespace Go.Proofs.YtmnhnighlgpjmaaGreat
set_option linter.unusedVariables false
set_option linter.unusedSimpArgs false
open Go.RowKit

/-- The first declaration with a name. -/
def fdx : VL → Str → Option Nat
  | [], _ => none
  | d :: l, s => if d.nm = s then some 0 else (fdx l s).map (· + 1)
theorem fdx_some : ∀ {l : VL} {s : Str} {i : Nat}, fdx l s = some i → ∃ h : i < l.length, l[i].nm = s ∧ (∀ j (hj : j < l.length), j < i → l[j].nm ≠ s) ∧ parOf l s = some l[i].ps
  | [], _, _, h => by cases h
  | d :: l, s, i, h => by
    unfold fdx at h
    by_cases e : d.nm = s
    · rw [if_pos e] at h
      injection h with h
      subst h
      refine ⟨by simp, e, fun j _ h => by omega, ?_⟩
      unfold parOf; rw [if_pos e]; rfl
    · rw [if_neg e] at h
      cases hf : fdx l s with
      | none => rw [hf] at h; cases h
      | some k =>
        rw [hf] at h
        simp only [Option.map_some, Option.some.injEq] at h
        subst h
        obtain ⟨h1, h2, h3, h4⟩ := fdx_some hf
        refine ⟨by simpa using h1, by simpa using h2, fun j hj hji => ?_, ?_⟩
        · cases j with
          | zero => exact e
          | succ j => exact h3 j (by simpa using hj) (by omega)
        · unfold parOf; rw [if_neg e, h4]; simp
theorem fdx_none : ∀ {l : VL} {s : Str}, fdx l s = none → parOf l s = none ∧ ∀ d ∈ l, d.nm ≠ s
  | [], _, _ => ⟨rfl, fun d h => by cases h⟩
  | d :: l, s, h => by
    unfold fdx at h
    by_cases e : d.nm = s
    · rw [if_pos e] at h; cases h
    · rw [if_neg e] at h
      cases hf : fdx l s with
      | some k => rw [hf] at h; cases h
      | none =>
        obtain ⟨h1, h2⟩ := fdx_none hf
        refine ⟨by unfold parOf; rw [if_neg e, h1], fun x hx => ?_⟩
        rcases List.mem_cons.1 hx with rfl | hx
        · exact e
        · exact h2 x hx
theorem fdx_at {l : VL} {s : Str} {i : Nat} (h : i < l.length) (hs : l[i].nm = s) (hn : ∀ j (hj : j < l.length), j < i → l[j].nm ≠ s) : fdx l s = some i := by
  cases hf : fdx l s with
  | none => exact absurd hs ((fdx_none hf).2 _ (List.getElem_mem h))
  | some k =>
    obtain ⟨h1, h2, h3, _⟩ := fdx_some hf
    rcases Nat.lt_trichotomy k i with h4 | h4 | h4
    · exact absurd h2 (hn k h1 h4)
    · rw [h4]
    · exact absurd hs (h3 i h h4)
theorem fdx_no {l : VL} {s : Str} (h : ∀ j (hj : j < l.length), l[j].nm ≠ s) : fdx l s = none := by
  cases hf : fdx l s with
  | none => rfl
  | some k =>
    obtain ⟨h1, h2, _⟩ := fdx_some hf
    exact absurd h2 (h k h1)
def fz (l : VL) (s : Str) : Int := match fdx l s with
  | some i => (i : Nat)
  | none => -1
def FzRel (l : VL) (s : Str) (i : Value) : Prop := ∃ k : Nat, i = .int .i64 k ∧ k ≤ l.length ∧ ∀ j (h : j < l.length), j < k → l[j].nm ≠ s
set_option maxRecDepth 100000 in
set_option maxHeartbeats 4000000 in
theorem findP (v : Value) (l : VL) (s : Str) (w : World) (B : Nat) (hr : VRow w B v l) (hl : l.length ≤ 1000000) :
    Calls Tryz.prog 21 #[v, .string (bs s)] w fun e w' => e = .returned (.int .i64 (fz l s)) ∧ w = w' := by
  obtain ⟨A, cap, rfl, h1, h2, h3, hA⟩ := hr
  have HA := Lib.hid hA
  obtain ⟨r, hr⟩ : ∃ r, fz l s = r := ⟨_, rfl⟩
  rw [hr]
  have HR := Lib.hid hr
  clear hA h1 h2 h3 hr
  go_enter Tryz.func21, Tryz.ntmps21
  go_wp2_with fail
  go_loop [5] (fun i => FzRel l s i) (fun i => l.length - (intOf i).toNat)
  case atStart => exact ⟨0, rfl, by omega, fun j _ h => by omega⟩
  case round =>
    obtain ⟨k, rfl, hk, hno⟩ := hrel
    by_cases hlt : k < l.length
    · obtain ⟨b, off, rfl, hb1, hc⟩ := HA.out (by omega)
      obtain ⟨u, c1, c2, hu⟩ := hc k hlt
      have hki : (k : Int) < l.length := by omega
      have HST : Hid (l[k].nm ≠ s → ∀ j (h : j < l.length), j < k + 1 → l[j].nm ≠ s) := Lib.hid (fun h j hj hjk => by
        by_cases e : j = k
        · subst e; exact h
        · exact hno j hj (by omega))
      have HHT : Hid (l[k].nm = s → r = (k : Nat)) := Lib.hid (fun h => by
        rw [← HR.out]; unfold fz; rw [fdx_at hlt h hno])
      obtain ⟨d, hd⟩ : ∃ d, l[k].nm = d := ⟨_, rfl⟩
      rw [hd] at c1 HST HHT
      clear hc c2 hu hno hd
      by_cases he : d = s
      · have hbb : ((bs d).toList == (bs s).toList) = true := bytes_beq.2 (by rw [he])
        have hF := HHT.out he
        subst hF
        clear he
        go_wp2_with fail
        go_ret
        exact ⟨rfl, rfl⟩
      · have hbb := str_beq he
        have HN := Lib.hid (HST.out he)
        clear he
        go_wp2_with fail
        go_round
        case rel => exact ⟨k + 1, by go_num, by omega, HN.out⟩
        case measure => simp [intOf]; omega
    · have hF : r = -1 := by
        rw [← HR.out]; unfold fz; rw [fdx_no (fun j hj => hno j hj (by omega))]
      subst hF
      clear hno
      go_wp2_with fail
      go_ret
      exact ⟨rfl, rfl⟩
def HsRel (l : List Str) (s : Str) (i : Value) : Prop := ∃ k : Nat, i = .int .i64 k ∧ k ≤ l.length ∧ s ∉ l.take k
set_option maxRecDepth 100000 in
set_option maxHeartbeats 4000000 in
theorem hasSP (v : Value) (l : List Str) (s : Str) (w : World) (B : Nat) (hr : StrRow w B v l) (hl : l.length ≤ 1000000) :
    Calls Tryz.prog 22 #[v, .string (bs s)] w fun e w' => e = .returned (.bool (decide (s ∈ l))) ∧ w = w' := by
  obtain ⟨A, cap, rfl, h1, h2, h3, hA⟩ := hr
  have HA := Lib.hid hA
  obtain ⟨r, hr⟩ : ∃ r, decide (s ∈ l) = r := ⟨_, rfl⟩
  rw [hr]
  have HR := Lib.hid hr
  clear hA h1 h2 h3 hr
  go_enter Tryz.func22, Tryz.ntmps22
  go_wp2_with fail
  go_loop [5] (fun i => HsRel l s i) (fun i => l.length - (intOf i).toNat)
  case atStart => exact ⟨0, rfl, by omega, by simp⟩
  case round =>
    obtain ⟨k, rfl, hk, hno⟩ := hrel
    by_cases hlt : k < l.length
    · obtain ⟨b, off, rfl, hb1, hc⟩ := HA.out (by omega)
      have c1 := hc k hlt
      have hki : (k : Int) < l.length := by omega
      have hTk : l.take (k + 1) = l.take k ++ [l[k]] := List.take_succ_eq_append_getElem hlt
      have HST : Hid (l[k] ≠ s → s ∉ l.take (k + 1)) := Lib.hid (fun h hm => by
        rw [hTk] at hm
        rcases List.mem_append.1 hm with h1 | h1
        · exact hno h1
        · exact h (List.mem_singleton.1 h1).symm)
      have HHT : Hid (l[k] = s → r = true) := Lib.hid (fun h => by
        rw [← HR.out, decide_eq_true_iff, ← h]; exact List.getElem_mem hlt)
      obtain ⟨d, hd⟩ : ∃ d, l[k] = d := ⟨_, rfl⟩
      rw [hd] at c1 HST HHT
      clear hc hno hd hTk
      by_cases he : d = s
      · have hbb : ((bs d).toList == (bs s).toList) = true := bytes_beq.2 (by rw [he])
        have hF := HHT.out he
        subst hF
        clear he
        go_wp2_with fail
        go_ret
        exact ⟨rfl, rfl⟩
      · have hbb := str_beq he
        have HN := Lib.hid (HST.out he)
        clear he
        go_wp2_with fail
        go_round
        case rel => exact ⟨k + 1, by go_num, by omega, HN.out⟩
        case measure => simp [intOf]; omega
    · have hF : r = false := by
        rw [← HR.out, decide_eq_false_iff_not]
        rw [List.take_of_length_le (by omega)] at hno
        exact hno
      subst hF
      clear hno
      go_wp2_with fail
      go_ret
      exact ⟨rfl, rfl⟩
set_option maxRecDepth 100000 in
set_option maxHeartbeats 4000000 in
theorem rNameP (s : Str) (w : World) (hs : s.length ≤ 1000000) :
    Calls Tryz.prog 20 #[.string (bs s)] w fun e w' => e = .returned (.bool (nameB s)) ∧ w = w' := by
  have hsz : (bs s).size = s.length := bs_size s
  obtain ⟨nb, hnb⟩ : ∃ nb, nameB s = nb := ⟨_, rfl⟩
  have HNB := Lib.hid hnb
  have HSZ := Lib.hid hsz
  rw [hnb]
  have hs1 : (bs s).size ≤ 1000000 := by omega
  clear hnb hsz
  go_enter Tryz.func20, Tryz.ntmps20
  go_wp2_with fail
  go_loop [3] (fun i => NmRel s i) (fun i => s.length - (intOf i).toNat)
  case atStart => exact ⟨0, rfl, by omega, fun j _ h => by omega⟩
  case round =>
    obtain ⟨k, rfl, hk, hok⟩ := hrel
    by_cases hlt : k < s.length
    · have hlt2 : k < (bs s).size := by rw [HSZ.out]; exact hlt
      have hgt : (bs s)[k] = s[k] := bs_get s k hlt2
      have hstep : byteOk s[k] = true → ∀ j (h : j < s.length), j < k + 1 → byteOk s[j] = true := fun h j hj hjk => by
        by_cases e : j = k
        · subst e; exact h
        · exact hok j hj (by omega)
      have hbad : byteOk s[k] = false → nb = false := fun h => by
        rw [← HNB.out]
        unfold nameB
        have : s.all byteOk = false := List.all_eq_false.2 ⟨s[k], List.getElem_mem hlt, by simp [h]⟩
        rw [this]; rfl
      obtain ⟨b, hb⟩ : ∃ b, s[k] = b := ⟨_, rfl⟩
      rw [hb] at hgt hstep hbad
      have HOK := Lib.hid hok
      have HST := Lib.hid hstep
      have HBD := Lib.hid hbad
      clear hok hstep hbad hb
      by_cases h33 : 33 ≤ b.toNat
      · have hq1 : decide ((b.toNat : Int) < 33) = false := decide_eq_false (by omega)
        have hq1' : decide (b.toNat < 33) = false := decide_eq_false (by omega)
        by_cases h126 : b.toNat ≤ 126
        · have hq2 : decide ((126 : Int) < b.toNat) = false := decide_eq_false (by omega)
          have hq2' : decide (126 < b.toNat) = false := decide_eq_false (by omega)
          have HN := Lib.hid (HST.out (by unfold byteOk; rw [decide_eq_true h33, decide_eq_true h126]; rfl))
          go_wp2_with fail
          go_round
          case rel => exact ⟨k + 1, by go_num, by omega, HN.out⟩
          case measure => simp [intOf]; omega
        · have hF := HBD.out (by unfold byteOk; rw [decide_eq_false h126]; simp)
          have hq2 : decide ((126 : Int) < b.toNat) = true := decide_eq_true (by omega)
          have hq2' : decide (126 < b.toNat) = true := decide_eq_true (by omega)
          subst hF
          go_wp2_with fail
          go_ret
          exact ⟨rfl, rfl⟩
      · have hF := HBD.out (by unfold byteOk; rw [decide_eq_false h33]; simp)
        have hq1 : decide ((b.toNat : Int) < 33) = true := decide_eq_true (by omega)
        have hq1' : decide (b.toNat < 33) = true := decide_eq_true (by omega)
        subst hF
        go_wp2_with fail
        go_ret
        exact ⟨rfl, rfl⟩
    · have hall : s.all byteOk = true := List.all_eq_true.2 (fun x hx => by
        obtain ⟨j, hj, rfl⟩ := List.getElem_of_mem hx
        exact hok j hj (by omega))
      have hnb2 : nb = (decide (1 ≤ s.length) && decide (s.length ≤ 64)) := by rw [← HNB.out]; unfold nameB; rw [hall]; rfl
      rw [← HSZ.out] at hnb2
      clear hok hall
      have hgt : ¬ k < (bs s).size := by rw [HSZ.out]; exact hlt
      by_cases h1 : 1 ≤ (bs s).size
      · have hi1 : decide ((1 : Int) ≤ ((bs s).size : Int)) = true := decide_eq_true (by omega)
        have hi1' : decide (1 ≤ (bs s).size) = true := decide_eq_true h1
        by_cases h2 : (bs s).size ≤ 64
        · have hF : nb = true := by rw [hnb2, decide_eq_true h1, decide_eq_true h2]; rfl
          have hi : decide (((bs s).size : Int) ≤ 64) = true := decide_eq_true (by omega)
          have hi' : decide ((bs s).size ≤ 64) = true := decide_eq_true h2
          subst hF
          clear hnb2
          go_wp2_with fail
          go_ret
          exact ⟨rfl, rfl⟩
        · have hF : nb = false := by rw [hnb2, decide_eq_false h2]; simp
          have hi : decide (((bs s).size : Int) ≤ 64) = false := decide_eq_false (by omega)
          have hi' : decide ((bs s).size ≤ 64) = false := decide_eq_false h2
          subst hF
          clear hnb2
          go_wp2_with fail
          go_ret
          exact ⟨rfl, rfl⟩
      · have hF : nb = false := by rw [hnb2, decide_eq_false h1]; simp
        have hi1 : decide ((1 : Int) ≤ ((bs s).size : Int)) = false := decide_eq_false (by omega)
        have hi1' : decide (1 ≤ (bs s).size) = false := decide_eq_false h1
        subst hF
        clear hnb2
        go_wp2_with fail
        go_ret
        exact ⟨rfl, rfl⟩
end Go.Proofs.YtmnhnighlgpjmaaGreat
