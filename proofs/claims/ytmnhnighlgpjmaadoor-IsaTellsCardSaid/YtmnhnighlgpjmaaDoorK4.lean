/-
  The reference of isa: operand.
-/
import Derived.Test.YtmnhnighlgpjmaaDoorK0
namespace Go.Proofs.YtmnhnighlgpjmaaDoor
set_option linter.unusedVariables false
set_option linter.unusedSimpArgs false
open Go.RowKit

theorem num_dg {l : List UInt8} {p k : Nat} (h : NumAt l p k) (hs : NumStop l p k) : (k ≤ 10 → dG (l.drop p) = (l.drop p).take k ∧ (dG (l.drop p)).length = k ∧ numV l p k < 10000000000) ∧ (10 < k → 10 < (dG (l.drop p)).length) := by
  obtain ⟨hk, hall⟩ := h
  have hlen : ((l.drop p).take k).length = k := by rw [List.length_take, List.length_drop]; omega
  have e : (l.drop p).take k ++ (l.drop p).drop k = l.drop p := List.take_append_drop _ _
  constructor
  · intro hk10
    have hv := digV_lt _ 0 hall
    rw [hlen] at hv
    have hp : 10 ^ k ≤ 10 ^ 10 := Nat.pow_le_pow_right (by omega) hk10
    have hv2 : numV l p k < 10000000000 := by unfold numV; omega
    have hnd : NoDig ((l.drop p).drop k) := by
      rw [List.drop_drop]
      intro b hb
      rcases hs with h1 | ⟨u, h1, h2⟩ | h1
      · rw [List.drop_eq_nil_of_le (by omega)] at hb; cases hb
      · rw [List.head?_drop, h1] at hb
        injection hb with hb
        rw [← hb]; exact h2
      · omega
    have h1 : dG (l.drop p) = (l.drop p).take k := by
      have := dG_app hall hnd
      rwa [e] at this
    exact ⟨h1, by rw [h1, hlen], hv2⟩
  · intro hk10
    have : dG (l.drop p) = (l.drop p).take k ++ dG ((l.drop p).drop k) := by
      have := List.takeWhile_append_of_pos (p := isDig) (l₁ := (l.drop p).take k) (l₂ := (l.drop p).drop k) (fun a ha => List.all_eq_true.1 hall a ha)
      rw [e] at this
      exact this
    rw [this, List.length_append, hlen]
    omega
theorem ans_num {l : List UInt8} {p k : Nat} (h : NumAt l p k) (hs : NumStop l p k) : rNum (l.drop p) = if 1 ≤ k ∧ k ≤ 10 then some (((numV l p k : Nat) : Int), k) else none := by
  obtain ⟨h1, h2⟩ := num_dg h hs
  unfold rNum
  by_cases hk : k ≤ 10
  · obtain ⟨e1, e2, _⟩ := h1 hk
    rw [e2, e1]
    rfl
  · have := h2 (by omega)
    rw [if_neg (by omega), if_neg (by omega)]
theorem ans_reg {l : List UInt8} {p k : Nat} (h : NumAt l p k) (hs : NumStop l p k) : rReg (114 :: l.drop p) = if (1 ≤ k ∧ k ≤ 2) ∧ ¬ (k = 2 ∧ l[p]? = some 48) then some (((numV l p k : Nat) : Int), k + 1) else none := by
  obtain ⟨h1, h2⟩ := num_dg h hs
  unfold rReg
  rw [if_pos (show (114 :: l.drop p).head? = some 114 from rfl), List.tail_cons, List.head?_drop]
  by_cases hk : k ≤ 10
  · obtain ⟨e1, e2, _⟩ := h1 hk
    rw [e2, e1]
    rfl
  · have := h2 (by omega)
    rw [if_neg (by omega), if_neg (by omega)]
/-- What the reference's operand answers. -/
def opdAns (f p : Nat) (l : List UInt8) : Int × Int := match rOpd f (l.drop p) with
  | none => (0, -1)
  | some (n, q) => (n, ((p + q : Nat) : Int))
theorem opdAns_none {f p : Nat} {l : List UInt8} (h : rOpd f (l.drop p) = none) : opdAns f p l = (0, -1) := by unfold opdAns; rw [h]
theorem opdAns_some {f p : Nat} {l : List UInt8} {n : Int} {q : Nat} (h : rOpd f (l.drop p) = some (n, q)) : opdAns f p l = (n, ((p + q : Nat) : Int)) := by unfold opdAns; rw [h]
def OpdPost (f p : Nat) (l : List UInt8) (w : World) (e : Ending) (w' : World) : Prop := e = .returned (.tuple #[.int .i64 (opdAns f p l).1, .int .i64 (opdAns f p l).2]) ∧ w = w'
theorem OpdPost.no {f p : Nat} {l : List UInt8} {w : World} (h : rOpd f (l.drop p) = none) : OpdPost f p l w (.returned (.tuple #[.int .i64 0, .int .i64 (-1)])) w := ⟨by rw [opdAns_none h], rfl⟩
theorem OpdPost.yes {f p : Nat} {l : List UInt8} {w : World} {n : Int} {q E : Nat} (h : rOpd f (l.drop p) = some (n, q)) (hE : E = p + q) : OpdPost f p l w (.returned (.tuple #[.int .i64 n, .int .i64 E])) w := ⟨by rw [opdAns_some h, hE], rfl⟩
theorem drop_at {l : List UInt8} {p : Nat} {u : UInt8} (h : l[p]? = some u) : l.drop p = u :: l.drop (p + 1) := by
  have hlt := (List.getElem?_eq_some_iff.1 h).1
  rw [List.drop_eq_getElem_cons hlt, (List.getElem?_eq_some_iff.1 h).2]
theorem rImm_no {r : List UInt8} (h : r.head? ≠ some 45) : rImm r = rNum r := if_neg h
theorem rImm_minus (t : List UInt8) : rImm (45 :: t) = (rNum t).map (fun p => (-p.1, p.2 + 1)) := if_pos rfl
theorem rReg_no {r : List UInt8} (h : r.head? ≠ some 114) : rReg r = none := if_neg h
theorem u8_eq {u : UInt8} {n : Nat} (h : u.toNat = n) (hn : n < 256) : u = UInt8.ofNat n := by
  apply UInt8.toNat_inj.1; rw [h]; simp; omega
set_option maxRecDepth 100000 in
set_option maxHeartbeats 8000000 in
theorem rOpdImmP (s : ByteArray) (p : Nat) (w : World) (hp : p ≤ s.size) (hs : s.size ≤ 1000000) :
    Calls Tryd.prog 26 #[.string s, .int .i64 p, .int .i64 4] w (OpdPost 3 p s.data.toList w) := by
  have HZ := Lib.hid (show s.data.toList.length = s.size by simp)
  have hR : rOpd 3 (s.data.toList.drop p) = rImm (s.data.toList.drop p) := if_pos rfl
  have HR := Lib.hid hR
  clear hR
  by_cases hlt : p < s.size
  · have HE := Lib.hid (Lib.data_getElem? s p hlt)
    have q1 : (p : Int) < s.size := by omega
    by_cases h45 : s[p].toNat = 45
    · have HD : Hid (s.data.toList.drop p = 45 :: s.data.toList.drop (p + 1)) := Lib.hid (drop_at (by rw [HE.out, u8_eq h45 (by omega)]; rfl))
      have hb : ((s[p].toNat : Int) == 45) = true := by rw [h45]; rfl
      obtain ⟨p1, hp1⟩ : ∃ p1, p + 1 = p1 := ⟨_, rfl⟩
      have hp1i : (p : Int) + 1 = p1 := by omega
      have hp1s : p1 ≤ s.size := by omega
      have HP1 := Lib.hid hp1
      clear hp1
      go_enter Tryd.func26, Tryd.ntmps26
      go_wp2_with fail
      refine (numberP s p1 w hp1s hs).mono ?_; rintro e w' ⟨k, hA, hS, rfl, rfl⟩
      have HA := Lib.hid hA
      have HS := Lib.hid hS
      obtain ⟨N, hN⟩ : ∃ N, numV s.data.toList p1 k = N := ⟨_, rfl⟩
      obtain ⟨E, hE⟩ : ∃ E, p1 + k = E := ⟨_, rfl⟩
      have hEs : E ≤ s.size := by have := hA.1; rw [HZ.out] at this; omega
      have hkE : (E : Int) - (p1 : Int) = k := by omega
      have HNV := Lib.hid hN
      have HEE := Lib.hid hE
      rw [hN, hE]
      clear hN hE hA hS
      by_cases hk0 : k = 0
      · have hq : ((E : Int) == (p1 : Int)) = true := by rw [beq_iff_eq]; have := HEE.out; omega
        have HP : Hid (OpdPost 3 p s.data.toList w (.returned (.tuple #[.int .i64 0, .int .i64 (-1)])) w) := Lib.hid (OpdPost.no (by rw [HR.out, HD.out, rImm_minus, HP1.out, ans_num HA.out HS.out, if_neg (by omega)]; rfl))
        clear hk0
        go_wp2_with fail
        go_ret2
        exact HP.out
      · have hq : ((E : Int) == (p1 : Int)) = false := by rw [beq_eq_false_iff_ne]; have := HEE.out; omega
        have hk1 : 1 ≤ k := by omega
        clear hk0
        by_cases hkm : 10 < k
        · have hm : decide ((10 : Int) < (k : Int)) = true := decide_eq_true (by omega)
          have hm' : decide (10 < k) = true := decide_eq_true hkm
          have HP : Hid (OpdPost 3 p s.data.toList w (.returned (.tuple #[.int .i64 0, .int .i64 (-1)])) w) := Lib.hid (OpdPost.no (by rw [HR.out, HD.out, rImm_minus, HP1.out, ans_num HA.out HS.out, if_neg (by omega)]; rfl))
          go_wp2_with fail
          go_ret2
          exact HP.out
        · have hm : decide ((10 : Int) < (k : Int)) = false := decide_eq_false (by omega)
          have hm' : decide (10 < k) = false := decide_eq_false hkm
          have HKM := Lib.hid hkm
          clear hkm
          have hNb : N < 10000000000 := by
            have := ((num_dg HA.out HS.out).1 (by have := HKM.out; omega)).2.2
            rw [HNV.out] at this; exact this
          have HP : Hid (OpdPost 3 p s.data.toList w (.returned (.tuple #[.int .i64 (-(N : Int)), .int .i64 E])) w) := Lib.hid (OpdPost.yes (q := k + 1) (by rw [HR.out, HD.out, rImm_minus, HP1.out, ans_num HA.out HS.out, if_pos ⟨hk1, by have := HKM.out; omega⟩, HNV.out]; rfl) (by have := HEE.out; have := HP1.out; omega))
          go_wp2_with fail
          go_ret2
          exact HP.out
    · have HD : Hid ((s.data.toList.drop p).head? ≠ some 45) := Lib.hid (by
        rw [List.head?_drop, HE.out]
        intro e
        injection e with e
        exact h45 (by rw [e]; rfl))
      have hb : ((s[p].toNat : Int) == 45) = false := by rw [beq_eq_false_iff_ne]; omega
      obtain ⟨p1, rfl⟩ : ∃ p1, p1 = p := ⟨_, rfl⟩
      have hp1s := hp
      go_enter Tryd.func26, Tryd.ntmps26
      go_wp2_with fail
      refine (numberP s p1 w hp1s hs).mono ?_; rintro e w' ⟨k, hA, hS, rfl, rfl⟩
      have HA := Lib.hid hA
      have HS := Lib.hid hS
      obtain ⟨N, hN⟩ : ∃ N, numV s.data.toList p1 k = N := ⟨_, rfl⟩
      obtain ⟨E, hE⟩ : ∃ E, p1 + k = E := ⟨_, rfl⟩
      have hEs : E ≤ s.size := by have := hA.1; rw [HZ.out] at this; omega
      have hkE : (E : Int) - (p1 : Int) = k := by omega
      have HNV := Lib.hid hN
      have HEE := Lib.hid hE
      rw [hN, hE]
      clear hN hE hA hS
      by_cases hk0 : k = 0
      · have hq : ((E : Int) == (p1 : Int)) = true := by rw [beq_iff_eq]; have := HEE.out; omega
        have HP : Hid (OpdPost 3 p1 s.data.toList w (.returned (.tuple #[.int .i64 0, .int .i64 (-1)])) w) := Lib.hid (OpdPost.no (by rw [HR.out, rImm_no HD.out, ans_num HA.out HS.out, if_neg (by omega)]))
        clear hk0
        go_wp2_with fail
        go_ret2
        exact HP.out
      · have hq : ((E : Int) == (p1 : Int)) = false := by rw [beq_eq_false_iff_ne]; have := HEE.out; omega
        have hk1 : 1 ≤ k := by omega
        clear hk0
        by_cases hkm : 10 < k
        · have hm : decide ((10 : Int) < (k : Int)) = true := decide_eq_true (by omega)
          have hm' : decide (10 < k) = true := decide_eq_true hkm
          have HP : Hid (OpdPost 3 p1 s.data.toList w (.returned (.tuple #[.int .i64 0, .int .i64 (-1)])) w) := Lib.hid (OpdPost.no (by rw [HR.out, rImm_no HD.out, ans_num HA.out HS.out, if_neg (by omega)]))
          go_wp2_with fail
          go_ret2
          exact HP.out
        · have hm : decide ((10 : Int) < (k : Int)) = false := decide_eq_false (by omega)
          have hm' : decide (10 < k) = false := decide_eq_false hkm
          have HKM := Lib.hid hkm
          clear hkm
          have hNb : N < 10000000000 := by
            have := ((num_dg HA.out HS.out).1 (by have := HKM.out; omega)).2.2
            rw [HNV.out] at this; exact this
          have HP : Hid (OpdPost 3 p1 s.data.toList w (.returned (.tuple #[.int .i64 N, .int .i64 E])) w) := Lib.hid (OpdPost.yes (q := k) (by rw [HR.out, rImm_no HD.out, ans_num HA.out HS.out, if_pos ⟨hk1, by have := HKM.out; omega⟩, HNV.out]) (by have := HEE.out; omega))
          go_wp2_with fail
          go_ret2
          exact HP.out
  · obtain rfl : p = s.size := by omega
    have HD : Hid ((s.data.toList.drop s.size).head? ≠ some 45) := Lib.hid (by rw [List.drop_eq_nil_of_le (by rw [HZ.out]; exact Nat.le_refl _)]; simp)
    have q3 : decide ((s.size : Int) < s.size) = false := decide_eq_false (by omega)
    have HP : Hid (OpdPost 3 s.size s.data.toList w (.returned (.tuple #[.int .i64 0, .int .i64 (-1)])) w) := Lib.hid (OpdPost.no (by
      rw [HR.out, List.drop_eq_nil_of_le (by rw [HZ.out]; exact Nat.le_refl _)]; rfl))
    go_enter Tryd.func26, Tryd.ntmps26
    go_wp2_with fail
    refine (numberP s s.size w (Nat.le_refl _) hs).mono ?_; rintro e w' ⟨k, hA, hS, rfl, rfl⟩
    have hk : k = 0 := by have := hA.1; rw [HZ.out] at this; omega
    subst hk
    clear hA hS
    go_wp2_with fail
    go_ret2
    exact HP.out
set_option maxRecDepth 100000 in
set_option maxHeartbeats 8000000 in
theorem rOpdRegP (s : ByteArray) (p K : Nat) (w : World) (hp : p ≤ s.size) (hs : s.size ≤ 1000000) (hK : 1 ≤ K ∧ K ≤ 3) :
    Calls Tryd.prog 26 #[.string s, .int .i64 p, .int .i64 K] w (OpdPost (K - 1) p s.data.toList w) := by
  have HZ := Lib.hid (show s.data.toList.length = s.size by simp)
  have hR : rOpd (K - 1) (s.data.toList.drop p) = rReg (s.data.toList.drop p) := if_neg (by omega)
  have HR := Lib.hid hR
  clear hR
  have hK4 : ((K : Int) == 4) = false := by rw [beq_eq_false_iff_ne]; omega
  have hK4' : decide ((K : Int) < 4) = true := decide_eq_true (by omega)
  have hK4'' : decide (K < 4) = true := decide_eq_true (by omega)
  obtain ⟨f, hf⟩ : ∃ f, K - 1 = f := ⟨_, rfl⟩
  rw [hf] at HR ⊢
  clear hf
  have hK4q : (K : Int) < 4 := by omega
  by_cases hlt : p < s.size
  · have HE := Lib.hid (Lib.data_getElem? s p hlt)
    have q1 : (p : Int) < s.size := by omega
    have q2 : decide ((s.size : Int) ≤ p) = false := decide_eq_false (by omega)
    have q2' : decide (s.size ≤ p) = false := decide_eq_false (by omega)
    by_cases h114 : s[p].toNat = 114
    · have HD : Hid (s.data.toList.drop p = 114 :: s.data.toList.drop (p + 1)) := Lib.hid (drop_at (by rw [HE.out, u8_eq h114 (by omega)]; rfl))
      have hb : ((s[p].toNat : Int) != 114) = false := by rw [h114]; rfl
      have hb2 : ((s[p].toNat : Int) == 114) = true := by rw [h114]; rfl
      obtain ⟨p1, hp1⟩ : ∃ p1, p + 1 = p1 := ⟨_, rfl⟩
      have hp1i : (p : Int) + 1 = p1 := by omega
      have hp1s : p1 ≤ s.size := by omega
      have HP1 := Lib.hid hp1
      clear hp1
      go_enter Tryd.func26, Tryd.ntmps26
      go_wp2_with fail
      refine (numberP s p1 w hp1s hs).mono ?_; rintro e w' ⟨k, hA, hS, rfl, rfl⟩
      have HA := Lib.hid hA
      have HS := Lib.hid hS
      obtain ⟨N, hN⟩ : ∃ N, numV s.data.toList p1 k = N := ⟨_, rfl⟩
      obtain ⟨E, hE⟩ : ∃ E, p1 + k = E := ⟨_, rfl⟩
      have hEs : E ≤ s.size := by have := hA.1; rw [HZ.out] at this; omega
      have hkE : (E : Int) - (p1 : Int) = k := by omega
      have HNV := Lib.hid hN
      have HEE := Lib.hid hE
      rw [hN, hE]
      clear hN hE hA hS
      by_cases hk0 : k = 0
      · have hq : ((E : Int) == (p1 : Int)) = true := by rw [beq_iff_eq]; have := HEE.out; omega
        have HP : Hid (OpdPost f p s.data.toList w (.returned (.tuple #[.int .i64 0, .int .i64 (-1)])) w) := Lib.hid (OpdPost.no (by rw [HR.out, HD.out, HP1.out, ans_reg HA.out HS.out, if_neg (by omega)]))
        clear hk0
        go_wp2_with fail
        go_ret2
        exact HP.out
      · have hq : ((E : Int) == (p1 : Int)) = false := by rw [beq_eq_false_iff_ne]; have := HEE.out; omega
        have hk1 : 1 ≤ k := by omega
        clear hk0
        by_cases hkm : 2 < k
        · have hm : decide ((2 : Int) < (k : Int)) = true := decide_eq_true (by omega)
          have hm' : decide (2 < k) = true := decide_eq_true hkm
          have HP : Hid (OpdPost f p s.data.toList w (.returned (.tuple #[.int .i64 0, .int .i64 (-1)])) w) := Lib.hid (OpdPost.no (by rw [HR.out, HD.out, HP1.out, ans_reg HA.out HS.out, if_neg (by omega)]))
          go_wp2_with fail
          go_ret2
          exact HP.out
        · have hm : decide ((2 : Int) < (k : Int)) = false := decide_eq_false (by omega)
          have hm' : decide (2 < k) = false := decide_eq_false hkm
          have HKM := Lib.hid hkm
          clear hkm
          by_cases hk2 : k = 2
          · have hz1 : p1 < s.size := by have := HEE.out; omega
            have hz1i : (p1 : Int) < s.size := by omega
            have HE1 := Lib.hid (Lib.data_getElem? s p1 hz1)
            have hk2' : ((k : Int) == 2) = true := by rw [hk2]; rfl
            by_cases h48 : s[p1].toNat = 48
            · have hb8 : ((s[p1].toNat : Int) == 48) = true := by rw [h48]; rfl
              have HP : Hid (OpdPost f p s.data.toList w (.returned (.tuple #[.int .i64 0, .int .i64 (-1)])) w) := Lib.hid (OpdPost.no (by rw [HR.out, HD.out, HP1.out, ans_reg HA.out HS.out, if_neg (by rintro ⟨_, h⟩; exact h ⟨hk2, by rw [HE1.out, u8_eq h48 (by omega)]; rfl⟩)]))
              clear hk2
              go_wp2_with fail
              go_ret2
              exact HP.out
            · have hb8 : ((s[p1].toNat : Int) == 48) = false := by rw [beq_eq_false_iff_ne]; omega
              have HP : Hid (OpdPost f p s.data.toList w (.returned (.tuple #[.int .i64 N, .int .i64 E])) w) := Lib.hid (OpdPost.yes (q := k + 1) (by
                rw [HR.out, HD.out, HP1.out, ans_reg HA.out HS.out, if_pos ⟨⟨hk1, by have := HKM.out; omega⟩, by
                  rintro ⟨_, h⟩
                  rw [HE1.out] at h
                  injection h with h
                  exact h48 (by rw [h]; rfl)⟩, HNV.out]) (by have := HEE.out; have := HP1.out; omega))
              clear hk2
              go_wp2_with fail
              go_ret2
              exact HP.out
          · have hk2' : ((k : Int) == 2) = false := by rw [beq_eq_false_iff_ne]; omega
            have HP : Hid (OpdPost f p s.data.toList w (.returned (.tuple #[.int .i64 N, .int .i64 E])) w) := Lib.hid (OpdPost.yes (q := k + 1) (by
              rw [HR.out, HD.out, HP1.out, ans_reg HA.out HS.out, if_pos ⟨⟨hk1, by have := HKM.out; omega⟩, by
                rintro ⟨h, _⟩; exact hk2 h⟩, HNV.out]) (by have := HEE.out; have := HP1.out; omega))
            clear hk2
            go_wp2_with fail
            go_ret2
            exact HP.out
    · have HP : Hid (OpdPost f p s.data.toList w (.returned (.tuple #[.int .i64 0, .int .i64 (-1)])) w) := Lib.hid (OpdPost.no (by
        rw [HR.out, rReg_no]
        rw [List.head?_drop, HE.out]
        intro e
        injection e with e
        exact h114 (by rw [e]; rfl)))
      have hb : ((s[p].toNat : Int) != 114) = true := by
        have : ((s[p].toNat : Int) == 114) = false := by rw [beq_eq_false_iff_ne]; omega
        rw [bne, this]; rfl
      have hb2 : ((s[p].toNat : Int) == 114) = false := by rw [beq_eq_false_iff_ne]; omega
      go_enter Tryd.func26, Tryd.ntmps26
      go_wp2_with fail
      go_ret2
      exact HP.out
  · have q2 : decide ((s.size : Int) ≤ p) = true := decide_eq_true (by omega)
    have q2' : decide (s.size ≤ p) = true := decide_eq_true (by omega)
    have HP : Hid (OpdPost f p s.data.toList w (.returned (.tuple #[.int .i64 0, .int .i64 (-1)])) w) := Lib.hid (OpdPost.no (by
      rw [HR.out, rReg_no]
      rw [List.head?_drop, List.getElem?_eq_none (by rw [HZ.out]; omega)]
      simp))
    go_enter Tryd.func26, Tryd.ntmps26
    go_wp2_with fail
    go_ret2
    exact HP.out
/-- operand. -/
theorem rOpdP (s : ByteArray) (p K : Nat) (w : World) (hp : p ≤ s.size) (hs : s.size ≤ 1000000) (hK : 1 ≤ K ∧ K ≤ 4) :
    Calls Tryd.prog 26 #[.string s, .int .i64 p, .int .i64 K] w (OpdPost (K - 1) p s.data.toList w) := by
  by_cases h : K = 4
  · subst h; exact rOpdImmP s p w hp hs
  · exact rOpdRegP s p K w hp hs (by omega)
end Go.Proofs.YtmnhnighlgpjmaaDoor
