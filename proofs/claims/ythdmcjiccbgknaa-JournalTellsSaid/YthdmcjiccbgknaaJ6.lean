/-
  The reference of package journal: the rows of a file.
-/
import Derived.Test.YthdmcjiccbgknaaJ5
import Derived.Test.YthdmcjiccbgknaaRef
namespace Go.Proofs.Ythdmcjiccbgknaa
set_option linter.unusedVariables false
set_option linter.unusedSimpArgs false
open Go.RowKit

theorem rget8 (s : ByteArray) (p : Nat) (w : World) (hs : s.size ≤ 9223372036854775807) (h : p + 8 ≤ s.size) :
    Calls Try.prog 70 #[.string s, .int .i64 p, .int .i64 8, .bool true] w fun e w' => e = .returned (.tuple #[.int .i64 (val8 s p), .bool true]) ∧ w = w' :=
  W1.rget_yes s p 8 true w hs ⟨.inr (.inr (.inr rfl)), by omega, by omega⟩
theorem rget8_no (s : ByteArray) (p : Nat) (w : World) (hs : s.size ≤ 9223372036854775807) (h : s.size < p + 8) :
    Calls Try.prog 70 #[.string s, .int .i64 p, .int .i64 8, .bool true] w fun e w' => e = .returned (.tuple #[.int .i64 0, .bool false]) ∧ w = w' :=
  W1.rget_no s p 8 true w hs (fun hf => by have := hf.2.2; omega)

theorem val8_ext (s : ByteArray) (a n : Nat) (h : a + 8 ≤ n) : val8 (s.extract a n) 0 = val8 s a := by
  unfold val8 W1.bytesAt
  rw [W1.extract_list]
  congr 1
  rw [Int.toNat_natCast, Int.toNat_natCast, List.drop_zero, List.drop_take, List.take_take]
  congr 1
  show min 8 (n - a) = 8
  omega
theorem ext_ext (s : ByteArray) (a n i j : Nat) (h : a + j ≤ n) : (s.extract a n).extract i j = s.extract (a + i) (a + j) := by
  apply W1.ba_ext
  rw [W1.extract_list, W1.extract_list, W1.extract_list]
  apply List.ext_getElem?
  intro k
  rw [List.getElem?_drop, List.getElem?_take, List.getElem?_drop, List.getElem?_drop, List.getElem?_take]
  by_cases h1 : i + k < j
  · rw [if_pos h1, if_pos (by omega), List.getElem?_take, if_pos (by omega)]
    congr 1
    omega
  · rw [if_neg h1]
    exact (List.getElem?_eq_none (by rw [List.length_take]; omega)).symm

/-- What Rows answers. -/
def RowsPost (w : World) (r : Option (List ByteArray)) (e : Ending) (w' : World) : Prop :=
  match r with
  | none => ∃ v, e = .returned (.tuple #[v, .bool false]) ∧ Below w.heap.size w w'
  | some l => ∃ v, e = .returned (.tuple #[v, .bool true]) ∧ w'.ownsRow w.heap.size 9 1 v l.length (sv l) ∧ Below w.heap.size w w'
def RwRel (w : World) (s : ByteArray) (n : Nat) (r x : Value) (wl : World) : Prop := ∃ (a : Nat) (l : List ByteArray), x = .int .i64 a ∧ a ≤ n ∧ l.length ≤ a ∧ wl.ownsRow w.heap.size 9 1 r l.length (sv l) ∧ Below w.heap.size w wl ∧ splitS (s.extract 16 n) = (splitS (s.extract a n)).map (l ++ ·)

set_option maxRecDepth 100000 in
set_option maxHeartbeats 6400000 in
theorem rowsP (s : ByteArray) (w : World) (hs : s.size ≤ 1000000000000) :
    Calls Try.prog 35 #[.string s] w (RowsPost w (parseS s)) := by
  by_cases h16 : s.size < 16
  · have HP : Hid (RowsPost w (parseS s) (.returned (.tuple #[.slice none 0 0, .bool true])) w) := Lib.hid (by
      unfold parseS; rw [if_pos h16]; exact ⟨_, rfl, World.ownsRow_nil _ _ _ _, Below.refl _ _⟩)
    have HD := Lib.hid (fun w => rget8_no s 8 w (by omega) (by omega))
    by_cases h8 : s.size < 8
    · have HC := Lib.hid (rget8_no s 0 w (by omega) (by omega))
      go_enter Try.func35, Try.ntmps35
      go_wp2_with fail
      refine HC.out.mono ?_; rintro e w2 ⟨rfl, rfl⟩
      go_wp2_with fail
      refine (HD.out _).mono ?_; rintro e w2 ⟨rfl, rfl⟩
      go_wp2_with fail
      go_ret2
      exact HP.out
    · have HC := Lib.hid (rget8 s 0 w (by omega) (by omega))
      obtain ⟨a, ha⟩ : ∃ a, val8 s 0 = a := ⟨_, rfl⟩
      rw [ha] at HC
      clear ha
      go_enter Try.func35, Try.ntmps35
      go_wp2_with fail
      refine HC.out.mono ?_; rintro e w2 ⟨rfl, rfl⟩
      go_wp2_with fail
      refine (HD.out _).mono ?_; rintro e w2 ⟨rfl, rfl⟩
      go_wp2_with fail
      go_ret2
      exact HP.out
  · have HC := Lib.hid (rget8 s 0 w (by omega) (by omega))
    have hb := val8_bd s 0 (by omega)
    have HD := Lib.hid (fun w => rget8 s 8 w (by omega) (by omega))
    have hpa : parseS s = if val8 s 0 = 0 then some [] else if val8 s 0 < 16 ∨ (s.size : Int) < val8 s 0 then none else
      match splitS (s.extract 16 (val8 s 0).toNat) with
      | none => none
      | some l => if (l.length : Int) = val8 s 8 then some l else none := by unfold parseS; rw [if_neg h16]; rfl
    obtain ⟨a, ha⟩ : ∃ a, val8 s 0 = a := ⟨_, rfl⟩
    rw [ha] at HC hb hpa
    obtain ⟨c, hc⟩ : ∃ c, val8 s 8 = c := ⟨_, rfl⟩
    rw [hc] at HD hpa
    clear ha hc
    by_cases ha0 : a = 0
    · have k2 : (a == 0) = true := by rw [beq_iff_eq]; exact ha0
      have HP : Hid (RowsPost w (parseS s) (.returned (.tuple #[.slice none 0 0, .bool true])) w) := Lib.hid (by
        rw [hpa, if_pos ha0]; exact ⟨_, rfl, World.ownsRow_nil _ _ _ _, Below.refl _ _⟩)
      clear hpa ha0
      go_enter Try.func35, Try.ntmps35
      go_wp2_with fail
      refine HC.out.mono ?_; rintro e w2 ⟨rfl, rfl⟩
      go_wp2_with fail
      refine (HD.out _).mono ?_; rintro e w2 ⟨rfl, rfl⟩
      go_wp2_with fail
      go_ret2
      exact HP.out
    · rw [if_neg ha0] at hpa
      have k2 : (a == 0) = false := by rw [beq_eq_false_iff_ne]; exact ha0
      by_cases hv : a < 16 ∨ (s.size : Int) < a
      · have HP : Hid (RowsPost w (parseS s) (.returned (.tuple #[.slice none 0 0, .bool false])) w) := Lib.hid (by
          rw [hpa, if_pos hv]; exact ⟨_, rfl, Below.refl _ _⟩)
        clear hpa ha0
        rcases Int.lt_or_le a 16 with hv1 | hv1
        · have k3 : decide (a < 16) = true := decide_eq_true hv1
          clear hv
          go_enter Try.func35, Try.ntmps35
          go_wp2_with fail
          refine HC.out.mono ?_; rintro e w2 ⟨rfl, rfl⟩
          go_wp2_with fail
          refine (HD.out _).mono ?_; rintro e w2 ⟨rfl, rfl⟩
          go_wp2_with fail
          go_ret2
          exact HP.out
        · have hv2 : (s.size : Int) < a := by omega
          have k3 : decide (a < 16) = false := decide_eq_false (by omega)
          have k4 : decide ((s.size : Int) < a) = true := decide_eq_true hv2
          have k5 : decide (a > (s.size : Int)) = true := decide_eq_true hv2
          clear hv
          go_enter Try.func35, Try.ntmps35
          go_wp2_with fail
          refine HC.out.mono ?_; rintro e w2 ⟨rfl, rfl⟩
          go_wp2_with fail
          refine (HD.out _).mono ?_; rintro e w2 ⟨rfl, rfl⟩
          go_wp2_with fail
          go_ret2
          exact HP.out
      · rw [if_neg hv] at hpa
        obtain ⟨n, rfl⟩ : ∃ n : Nat, a = n := ⟨a.toNat, by omega⟩
        rw [Int.toNat_natCast] at hpa
        have hn1 : 16 ≤ n := by omega
        have hn2 : n ≤ s.size := by omega
        have k3 : decide ((n : Int) < 16) = false := decide_eq_false (by omega)
        have k4 : decide ((s.size : Int) < (n : Int)) = false := decide_eq_false (by omega)
        have k5 : decide ((n : Int) > (s.size : Int)) = false := decide_eq_false (by omega)
        have k6 : decide (s.size < n) = false := decide_eq_false (by omega)
        clear hv ha0 hb
        have HPA := Lib.hid hpa
        clear hpa
        obtain ⟨i0, hi0, hz0, hz1, hz2⟩ := info_parts infoS9
        go_enter Try.func35, Try.ntmps35
        go_wp2_with fail
        refine HC.out.mono ?_; rintro e w2 ⟨rfl, rfl⟩
        go_wp2_with fail
        refine (HD.out _).mono ?_; rintro e w2 ⟨rfl, rfl⟩
        go_wp2_with fail
        go_loopw [8, 9, 10, 11] (fun r x _ _ wl => RwRel w s n r x wl) (fun _ x _ _ _ => n - (intOf x).toNat)
        case atStart => exact ⟨16, [], rfl, hn1, by simp, World.ownsRow_nil _ _ _ _, Below.refl _ _, by cases splitS (s.extract 16 n) <;> simp⟩
        case round =>
          obtain ⟨a, l, rfl, ha, hla, hown, hbel, hsp⟩ := hrel
          have HO := Lib.hid hown
          have HB := Lib.hid hbel
          have HS := Lib.hid hsp
          have hf : ∃ A cap, u8 = .slice A l.length cap := by
            obtain ⟨A, cap, h, _⟩ := Row.of_own hown
            rw [sv_length] at h
            exact ⟨A, cap, h⟩
          clear hown hbel hsp
          obtain ⟨A, cap, rfl⟩ := hf
          have hts : (s.extract a n).size = n - a := by rw [ByteArray.size_extract]; omega
          by_cases hlt : a < n
          · have q1 : (a : Int) < n := by omega
            have hnone : splitS (s.extract a n) = none → Hid (∀ v, RowsPost w (parseS s) (.returned (.tuple #[v, .bool false])) wr) := fun h => Lib.hid (by
              intro v
              have h2 := HS.out
              rw [h] at h2
              rw [HPA.out, h2]
              exact ⟨_, rfl, HB.out⟩)
            by_cases h8 : s.size < a + 8
            · have HN := hnone (splitS_short _ (by omega) (by omega))
              have HG := Lib.hid (fun w => rget8_no s a w (by omega) h8)
              clear hnone hts
              go_wp2_with fail
              refine (HG.out _).mono ?_; rintro e w2 ⟨rfl, rfl⟩
              go_wp2_with fail
              go_ret2
              exact HN.out _
            · have HG := Lib.hid (fun w => rget8 s a w (by omega) (by omega))
              have hb := val8_bd s a (by omega)
              obtain ⟨v, hv⟩ : ∃ v, val8 s a = v := ⟨_, rfl⟩
              have hve : a + 8 ≤ n → val8 (s.extract a n) 0 = v := fun h => by rw [val8_ext s a n h, hv]
              rw [hv] at HG hb
              clear hv
              by_cases hbad : v < 0 ∨ (n : Int) - a - 8 < v
              · have HN := hnone (by
                  by_cases hx : n < a + 8
                  · exact splitS_short _ (by omega) (by omega)
                  · exact splitS_bad _ (by omega) (by rw [hve (by omega)]; omega))
                clear hnone hts hve
                by_cases hv0 : v < 0
                · have m1 : decide (v < 0) = true := decide_eq_true hv0
                  clear hbad
                  go_wp2_with fail
                  refine (HG.out _).mono ?_; rintro e w2 ⟨rfl, rfl⟩
                  go_wp2_with fail
                  go_ret2
                  exact HN.out _
                · have m1 : decide (v < 0) = false := decide_eq_false hv0
                  by_cases hvn : (n : Int) < v
                  · have m2 : decide ((n : Int) < v) = true := decide_eq_true hvn
                    have m3 : decide (v > (n : Int)) = true := decide_eq_true hvn
                    clear hbad
                    go_wp2_with fail
                    refine (HG.out _).mono ?_; rintro e w2 ⟨rfl, rfl⟩
                    go_wp2_with fail
                    go_ret2
                    exact HN.out _
                  · have m2 : decide ((n : Int) < v) = false := decide_eq_false hvn
                    have m3 : decide (v > (n : Int)) = false := decide_eq_false hvn
                    have m4 : decide ((n : Int) < (a : Int) + 8 + v) = true := decide_eq_true (by omega)
                    have m5 : decide ((a : Int) + 8 + v > (n : Int)) = true := decide_eq_true (by omega)
                    clear hbad
                    go_wp2_with fail
                    refine (HG.out _).mono ?_; rintro e w2 ⟨rfl, rfl⟩
                    go_wp2_with fail
                    go_ret2
                    exact HN.out _
              · obtain ⟨m, rfl⟩ : ∃ m : Nat, v = m := ⟨v.toNat, by omega⟩
                have hm : a + 8 + m ≤ n := by omega
                have hst := splitS_step (s.extract a n) (by omega) m (hve (by omega)) (by omega)
                rw [hts, ext_ext s a n 8 (8 + m) (by omega), ext_ext s a n (8 + m) (n - a) (by omega), show a + (n - a) = n by omega] at hst
                have HST := Lib.hid hst
                have m1 : decide ((m : Int) < 0) = false := decide_eq_false (by omega)
                have m2 : decide ((n : Int) < (m : Int)) = false := decide_eq_false (by omega)
                have m3 : decide ((m : Int) > (n : Int)) = false := decide_eq_false (by omega)
                have m4 : decide ((n : Int) < (a : Int) + 8 + m) = false := decide_eq_false (by omega)
                have m5 : decide ((a : Int) + 8 + m > (n : Int)) = false := decide_eq_false (by omega)
                have e1 : ((a : Int) + 8).toNat = a + 8 := by omega
                have e2 : ((a : Int) + 8 + (m : Int)).toNat = a + (8 + m) := by omega
                obtain ⟨R, hR⟩ : ∃ R, s.extract (a + 8) (a + (8 + m)) = R := ⟨_, rfl⟩
                rw [hR] at HST
                clear hnone hts hve hbad hst hb
                go_wp2_with fail
                refine (HG.out _).mono ?_; rintro e w2 ⟨rfl, rfl⟩
                go_wp2_with (at_builtin; refine wpList_append_own _ rfl _ _ 36 rfl w.heap.size 9 i0 (.string ByteArray.empty) 1 16 Try.underlying36 hi0 hz0 hz1 hz2 rfl (by decide) _ _ _ rfl (World.ownsRow.alloc HO.out _) ⟨wr.heap.size, 0, none⟩ 1 1 [.string R] rfl rfl ?c1 ?c2 ?c3 ?c4 ?c5 ?_)
                case c1 =>
                  intro i y hy
                  rw [Addr.add_lit, Nat.zero_add, (Blk.new wr 9 #[.string R]).cell]
                  simpa using hy
                case c2 => intro y hy; rw [List.mem_singleton] at hy; rw [hy]; rfl
                case c3 => unfold maxLen; omega
                case c4 => omega
                case c5 => have := HB.out.size; simp; omega
                intro v' w3 h1 h2 _
                have HO3 : Hid (w3.ownsRow w.heap.size 9 1 v' (l ++ [R]).length (sv (l ++ [R]))) := by
                  have e : sv (l ++ [R]) = sv l ++ [.string R] := by simp [sv]
                  rw [e, List.length_append]; exact Lib.hid h1
                have HB3 : Hid (Below w.heap.size w w3) := Lib.hid (HB.out.trans (((below_new wr _).mono HB.out.size).trans ((Below.refl w.heap.size _).grown h2 (by have := HB.out.size; simp; omega) (fun k hk => (World.ownsRow.lt HO.out k hk).1))))
                have HSP : Hid (splitS (s.extract 16 n) = (splitS (s.extract (a + (8 + m)) n)).map ((l ++ [R]) ++ ·)) := Lib.hid (by
                  rw [HS.out, HST.out]
                  cases splitS (s.extract (a + (8 + m)) n) <;> simp)
                clear h1 h2 hR HS HST
                go_wp2_with fail
                go_roundw
                case rel => exact ⟨a + (8 + m), l ++ [R], by go_num, by omega, by rw [List.length_append, List.length_singleton]; omega, HO3.out, HB3.out, HSP.out⟩
                case measure => simp [intOf]; omega
          · obtain rfl : a = n := by omega
            have hfin : Hid (splitS (s.extract 16 a) = some l) := Lib.hid (by
              rw [HS.out, splitS_nil _ (by omega)]; simp)
            clear hts
            by_cases hc : (l.length : Int) = c
            · have k9 : ((l.length : Int) == c) = true := by rw [beq_iff_eq]; exact hc
              have HCC := Lib.hid hc
              clear hc
              go_wp2_with fail
              go_ret2
              rw [HPA.out, hfin.out]
              show RowsPost _ (if _ then _ else _) _ _
              rw [if_pos HCC.out]
              exact ⟨_, rfl, HO.out, HB.out⟩
            · have k9 : ((l.length : Int) == c) = false := by rw [beq_eq_false_iff_ne]; exact hc
              have HCC := Lib.hid hc
              clear hc
              go_wp2_with fail
              go_ret2
              rw [HPA.out, hfin.out]
              show RowsPost _ (if _ then _ else _) _ _
              rw [if_neg HCC.out]
              exact ⟨_, rfl, HB.out⟩
end Go.Proofs.Ythdmcjiccbgknaa
