/-
  Package journal: the rows that the bytes of a file spell.
-/
import Derived.Test.YtognomkhkoiabaaJ1
import Derived.Test.YtognomkhkoiabaaWord
namespace Go.Proofs.Ytognomkhkoiabaa
set_option linter.unusedVariables false
set_option linter.unusedSimpArgs false
open Go.RowKit

theorem dl_len' (s : ByteArray) : s.data.toList.length = s.size := by rw [Array.length_toList]; rfl
/-- The number at an offset. -/
def val8 (s : ByteArray) (p : Nat) : Int := W1.valOf 8 true (W1.bytesAt s p 8)
theorem val8_bd (s : ByteArray) (p : Nat) (h : p + 8 ≤ s.size) : -9223372036854775808 ≤ val8 s p ∧ val8 s p ≤ 9223372036854775807 := by
  have hf : W1.isField s p 8 := ⟨.inr (.inr (.inr rfl)), by omega, by omega⟩
  exact W1.val_i64 8 true _ hf.1 (W1.bytesAt_length s p 8 hf)
theorem get8 (s : ByteArray) (p : Nat) (w : World) (hs : s.size ≤ 9223372036854775807) (h : p + 8 ≤ s.size) :
    Calls Try.prog 44 #[.string s, .int .i64 p, .int .i64 8, .bool true] w fun e w' => e = .returned (.tuple #[.int .i64 (val8 s p), .bool true]) ∧ w = w' :=
  W1.get_yes s p 8 true w hs ⟨.inr (.inr (.inr rfl)), by omega, by omega⟩
theorem get8_no (s : ByteArray) (p : Nat) (w : World) (hs : s.size ≤ 9223372036854775807) (h : s.size < p + 8) :
    Calls Try.prog 44 #[.string s, .int .i64 p, .int .i64 8, .bool true] w fun e w' => e = .returned (.tuple #[.int .i64 0, .bool false]) ∧ w = w' :=
  W1.get_no s p 8 true w hs (fun hf => by have := hf.2.2; omega)

/-- The rows whose forms make up s. -/
def splitN : Nat → ByteArray → Option (List ByteArray)
  | 0, _ => none
  | m + 1, s => if s.size = 0 then some [] else if s.size < 8 then none else if val8 s 0 < 0 ∨ (s.size : Int) - 8 < val8 s 0 then none else (splitN m (s.extract (8 + (val8 s 0).toNat) s.size)).map (s.extract 8 (8 + (val8 s 0).toNat) :: ·)
theorem splitN_fuel : ∀ (m m' : Nat) (s : ByteArray), s.size < m → s.size < m' → splitN m s = splitN m' s
  | 0, _, s, h, _ => by omega
  | _, 0, s, _, h => by omega
  | m + 1, m' + 1, s, h, h' => by
    unfold splitN
    by_cases h0 : s.size = 0
    · rw [if_pos h0, if_pos h0]
    · rw [if_neg h0, if_neg h0]
      by_cases h8 : s.size < 8
      · rw [if_pos h8, if_pos h8]
      · rw [if_neg h8, if_neg h8]
        by_cases hv : val8 s 0 < 0 ∨ (s.size : Int) - 8 < val8 s 0
        · rw [if_pos hv, if_pos hv]
        · rw [if_neg hv, if_neg hv]
          rw [splitN_fuel m m' _ (by rw [ByteArray.size_extract]; omega) (by rw [ByteArray.size_extract]; omega)]
def splitS (s : ByteArray) : Option (List ByteArray) := splitN (s.size + 1) s
theorem splitS_nil (s : ByteArray) (h : s.size = 0) : splitS s = some [] := by unfold splitS splitN; rw [if_pos h]
theorem splitS_short (s : ByteArray) (h : s.size ≠ 0) (h8 : s.size < 8) : splitS s = none := by unfold splitS splitN; rw [if_neg h, if_pos h8]
theorem splitS_bad (s : ByteArray) (h8 : 8 ≤ s.size) (hv : val8 s 0 < 0 ∨ (s.size : Int) - 8 < val8 s 0) : splitS s = none := by unfold splitS splitN; rw [if_neg (by omega), if_neg (by omega), if_pos hv]
theorem splitS_step (s : ByteArray) (h8 : 8 ≤ s.size) (n : Nat) (hn : val8 s 0 = n) (hv : n + 8 ≤ s.size) : splitS s = (splitS (s.extract (8 + n) s.size)).map (s.extract 8 (8 + n) :: ·) := by
  unfold splitS
  rw [show splitN (s.size + 1) s = (splitN s.size (s.extract (8 + (val8 s 0).toNat) s.size)).map (s.extract 8 (8 + (val8 s 0).toNat) :: ·) by
    rw [splitN, if_neg (by omega), if_neg (by omega), if_neg (by omega)]]
  rw [hn, Int.toNat_natCast]
  rw [splitN_fuel s.size ((s.extract (8 + n) s.size).size + 1) _ (by rw [ByteArray.size_extract]; omega) (by omega)]

def strOf : Value → ByteArray
  | .string s => s
  | _ => ByteArray.empty
/-- What split answers. -/
def SplitPost (w : World) (r : Option (List ByteArray)) (e : Ending) (w' : World) : Prop :=
  match r with
  | none => e = .returned (.tuple #[.slice none 0 0, .bool false]) ∧ Below w.heap.size w w'
  | some l => ∃ v, e = .returned (.tuple #[v, .bool true]) ∧ w'.ownsRow w.heap.size 9 1 v l.length (sv l) ∧ Below w.heap.size w w'
def SpRel (w : World) (s : ByteArray) (x r : Value) (wl : World) : Prop := ∃ (t : ByteArray) (l : List ByteArray), x = .string t ∧ t.size ≤ s.size ∧ l.length + t.size ≤ s.size ∧ wl.ownsRow w.heap.size 9 1 r l.length (sv l) ∧ Below w.heap.size w wl ∧ splitS s = (splitS t).map (l ++ ·)
theorem infoS9 : (Try.prog.info? 9).map (fun i => (i.zero, i.size, i.bytes)) = some (some (.string ByteArray.empty), 1, 16) := by kernel_rfl

set_option maxRecDepth 100000 in
theorem splitP (s : ByteArray) (w : World) (hs : s.size ≤ 1000000000000) :
    Calls Try.prog 45 #[.string s] w (SplitPost w (splitS s)) := by
  go_enter Try.func45, Try.ntmps45
  obtain ⟨i0, hi0, hz0, hz1, hz2⟩ := info_parts infoS9
  go_wp2_with fail
  go_loopw [0, 4, 5, 6, 7] (fun x r _ _ _ wl => SpRel w s x r wl) (fun x _ _ _ _ _ => (strOf x).size)
  case atStart => exact ⟨s, [], rfl, Nat.le_refl _, by simp, World.ownsRow_nil _ _ _ _, Below.refl _ _, by cases splitS s <;> simp⟩
  case round =>
    obtain ⟨t, l, rfl, ht, hlt, hown, hbel, hsp⟩ := hrel
    have HO := Lib.hid hown
    have HB := Lib.hid hbel
    have HS := Lib.hid hsp
    clear hown hbel hsp
    by_cases h0 : t.size = 0
    · obtain rfl : t = { data := #[] } := by
        apply W1.ba_ext
        have := dl_len' t
        rw [h0] at this
        rw [List.eq_nil_of_length_eq_zero this]
      go_wp2_with fail
      go_ret2
      have h := HS.out
      rw [splitS_nil { data := #[] } rfl] at h
      rw [h]
      simp only [Option.map_some, List.append_nil]
      exact ⟨_, rfl, HO.out, HB.out⟩
    · have hl0 : t.toList ≠ [] := by
        rw [Lib.toList_data]
        intro h
        have := dl_len' t
        rw [h] at this
        rw [List.length_nil] at this
        omega
      have hne : (t.toList == ({ data := #[] } : ByteArray).toList) = false := by
        rw [beq_eq_false_iff_ne, Lib.toList_data { data := #[] }]; exact hl0
      have hne1 : (t.toList == []) = false := by
        rw [beq_eq_false_iff_ne]; exact hl0
      have hne2 : t.toList.isEmpty = false := by
        cases h : t.toList
        · exact absurd h hl0
        · rfl
      have hne3 : ¬ t.toList = [] := hl0
      by_cases h8 : t.size < 8
      · have HC := Lib.hid (fun w => get8_no t 0 w (by omega) (by omega))
        go_wp2_with fail
        refine (HC.out _).mono ?_; rintro e w2 ⟨rfl, rfl⟩
        go_wp2_with fail
        go_ret2
        have h := HS.out
        rw [splitS_short t h0 h8] at h
        rw [h]
        exact ⟨rfl, HB.out⟩
      · have HC := Lib.hid (fun w => get8 t 0 w (by omega) (by omega))
        obtain ⟨n, hn⟩ : ∃ n, val8 t 0 = n := ⟨_, rfl⟩
        have hb := val8_bd t 0 (by omega)
        rw [hn] at HC hb
        by_cases hv : n < 0 ∨ (t.size : Int) - 8 < n
        · have hsn := splitS_bad t (by omega) (by rw [hn]; exact hv)
          have HN := Lib.hid hsn
          clear hn hsn
          have hdone : Hid (SplitPost w (splitS s) (.returned (.tuple #[.slice none 0 0, .bool false])) wr) := by
            have h := HS.out
            rw [HN.out] at h
            rw [h]
            exact ⟨rfl, HB.out⟩
          rcases Int.lt_or_le n 0 with hv1 | hv1
          · have k1 : decide (n < 0) = true := decide_eq_true hv1
            clear hv
            go_wp2_with fail
            refine (HC.out _).mono ?_; rintro e w2 ⟨rfl, rfl⟩
            go_wp2_with fail
            go_ret2
            exact hdone.out
          · have hv2 : (t.size : Int) - 8 < n := by omega
            have k1 : decide (n < 0) = false := decide_eq_false (by omega)
            have k2 : decide (n > (t.size : Int) - 8) = true := decide_eq_true hv2
            have k3 : decide ((t.size : Int) - 8 < n) = true := decide_eq_true hv2
            clear hv
            go_wp2_with fail
            refine (HC.out _).mono ?_; rintro e w2 ⟨rfl, rfl⟩
            go_wp2_with fail
            go_ret2
            exact hdone.out
        · obtain ⟨m, rfl⟩ : ∃ m : Nat, n = m := ⟨n.toNat, by omega⟩
          have hm : m + 8 ≤ t.size := by omega
          have HST := Lib.hid (splitS_step t (by omega) m hn hm)
          have k1 : decide ((m : Int) < 0) = false := decide_eq_false (by omega)
          have k2 : decide ((m : Int) > (t.size : Int) - 8) = false := decide_eq_false (by omega)
          have k3 : decide ((t.size : Int) - 8 < (m : Int)) = false := decide_eq_false (by omega)
          have e1 : (8 + (m : Int)).toNat = 8 + m := by omega
          have HZ1 : Hid ((t.extract 8 (8 + m)).size = m) := Lib.hid (by rw [ByteArray.size_extract]; omega)
          have HZ2 : Hid ((t.extract (8 + m) t.size).size = t.size - (8 + m)) := Lib.hid (by rw [ByteArray.size_extract]; omega)
          clear hn hv hb
          go_wp2_with fail
          refine (HC.out _).mono ?_; rintro e w2 ⟨rfl, rfl⟩
          obtain ⟨R, hR⟩ : ∃ R, t.extract 8 (8 + m) = R := ⟨_, rfl⟩
          have hx1 : t.extract 8 ((8 + (m : Int)).toNat) = R := by rw [e1]; exact hR
          go_wp2_with (at_builtin; refine wpList_append_own _ rfl _ _ 33 rfl w.heap.size 9 i0 (.string ByteArray.empty) 1 16 Try.underlying33 hi0 hz0 hz1 hz2 rfl (by decide) _ _ _ rfl (World.ownsRow.alloc HO.out _) ⟨wr.heap.size, 0, none⟩ 1 1 [.string R] rfl rfl ?c1 ?c2 ?c3 ?c4 ?c5 ?_)
          case c1 =>
            intro i y hy
            rw [Addr.add_lit, Nat.zero_add, (Blk.new wr 9 #[.string R]).cell]
            simpa using hy
          case c2 => intro y hy; rw [List.mem_singleton] at hy; rw [hy]; rfl
          case c3 => unfold maxLen; omega
          case c4 => omega
          case c5 => have := HB.out.size; simp; omega
          intro v' w3 h1 h2 _
          have HO3 : Hid (w3.ownsRow w.heap.size 9 1 v' (l ++ [R]).length (sv (l ++ [R]))) := by
            have e : sv (l ++ [R]) = sv l ++ [.string R] := by simp [sv]
            rw [e, List.length_append]; exact Lib.hid h1
          have HB3 : Hid (Below w.heap.size w w3) := Lib.hid (HB.out.trans (((below_new wr _).mono HB.out.size).trans ((Below.refl w.heap.size _).grown h2 (by have := HB.out.size; simp; omega) (fun k hk => (World.ownsRow.lt HO.out k hk).1))))
          have HR := Lib.hid hR
          obtain ⟨T, hT⟩ : ∃ T, t.extract (8 + m) t.size = T := ⟨_, rfl⟩
          rw [hR, hT] at HST
          rw [hT] at HZ2
          have HT := Lib.hid hT
          have HSP : Hid (splitS s = (splitS T).map ((l ++ [R]) ++ ·)) := Lib.hid (by
            rw [HS.out, HST.out]
            cases splitS T <;> simp)
          clear h1 h2 hR hT HS HST
          go_wp2_with fail
          go_roundw
          case rel => exact ⟨T, l ++ [R], by rw [HT.out], by rw [HZ2.out]; omega, by rw [HZ2.out, List.length_append, List.length_singleton]; omega, HO3.out, HB3.out, HSP.out⟩
          case measure => simp only [strOf]; rw [HT.out, HZ2.out]; omega
end Go.Proofs.Ytognomkhkoiabaa
