/-
  strings.IndexAny with the two blanks, of ANY string.
-/
import Derived.Test.YtmnhnighlgpjmaaDoorIV
import Derived.Lib.OthersKept
namespace Go.Proofs.YtmnhnighlgpjmaaDoor
set_option linter.unusedVariables false
set_option linter.unusedSimpArgs false
open Go.RowKit

theorem get_data (s : ByteArray) (j : Nat) (h : j < s.size) : s.data.toList[j]? = some (s.get! j) := by
  have e := get_at s j h
  rw [Nat.add_zero] at e
  rw [e]
  exact Lib.data_getElem? s j h

theorem cont_high (s : ByteArray) (j : Nat) (h : (decide (j < s.size) && (s.get! j).toNat / 64 == 2) = true) : ∃ x, s.data.toList[j]? = some x ∧ 128 ≤ x.toNat := by
  rw [Bool.and_eq_true, decide_eq_true_eq, beq_iff_eq] at h
  exact ⟨_, get_data s j h.1, by omega⟩

theorem piece (s : ByteArray) (i : Nat) (h : i < s.size) (ha : 128 ≤ (s[i]'h).toNat) (k : Nat) (hk : k < (Utf8.decode s i).2) :
    ∃ x, s.data.toList[i + k]? = some x ∧ 128 ≤ x.toNat := by
  have h0 : ∃ x, s.data.toList[i + 0]? = some x ∧ 128 ≤ x.toNat := ⟨s[i], Lib.data_getElem? s i h, ha⟩
  unfold Utf8.decode at hk
  simp only at hk
  split at hk
  · obtain rfl : k = 0 := by simp only at hk; omega
    exact h0
  · split at hk
    · rename_i hc
      rw [Bool.and_eq_true] at hc
      have h1 := cont_high s (i + 1) hc.2
      split at hk <;> simp only at hk
      · rcases (by omega : k = 0 ∨ k = 1) with rfl | rfl
        · exact h0
        · exact h1
      · obtain rfl : k = 0 := by omega
        exact h0
    · split at hk
      · rename_i hc
        rw [Bool.and_eq_true, Bool.and_eq_true] at hc
        have h1 := cont_high s (i + 1) hc.1.2
        have h2 := cont_high s (i + 2) hc.2
        split at hk <;> simp only at hk
        · rcases (by omega : k = 0 ∨ k = 1 ∨ k = 2) with rfl | rfl | rfl
          · exact h0
          · exact h1
          · exact h2
        · obtain rfl : k = 0 := by omega
          exact h0
      · split at hk
        · rename_i hc
          rw [Bool.and_eq_true, Bool.and_eq_true, Bool.and_eq_true] at hc
          have h1 := cont_high s (i + 1) hc.1.1.2
          have h2 := cont_high s (i + 2) hc.1.2
          have h3 := cont_high s (i + 3) hc.2
          split at hk <;> simp only at hk
          · rcases (by omega : k = 0 ∨ k = 1 ∨ k = 2 ∨ k = 3) with rfl | rfl | rfl | rfl
            · exact h0
            · exact h1
            · exact h2
            · exact h3
          · obtain rfl : k = 0 := by omega
            exact h0
        · simp only at hk
          obtain rfl : k = 0 := by omega
          exact h0

theorem blk_not_high (x : UInt8) (h : 128 ≤ x.toNat) : blk.contains x = false := by
  cases hc : blk.contains x
  · rfl
  · rw [List.contains_iff_mem] at hc
    have : ∀ b ∈ blk, b.toNat < 128 := by decide
    have := this x hc
    omega

theorem noAny_many {l : List UInt8} {i : Nat} (h : Lib.NoAny l blk i) : ∀ d, (∀ k, k < d → ∃ x, l[i + k]? = some x ∧ 128 ≤ x.toNat) → Lib.NoAny l blk (i + d)
  | 0, _ => h
  | d + 1, hd => by
    obtain ⟨x, hx, hx2⟩ := hd d (by omega)
    exact (noAny_many h d (fun k hk => hd k (by omega))).succ hx (blk_not_high x hx2)

def ItAt (w wx : World) (s : ByteArray) (i : Nat) : Prop :=
  wx.heap[w.heap.size]? = some (.stringIter s i) ∧ Below w.heap.size w wx ∧ Lib.NoAny s.data.toList blk i
theorem ItAt.below {w wx wy : World} {s : ByteArray} {i : Nat} (h : ItAt w wx s i) (hb : Below wx.heap.size wx wy) : ItAt w wy s i :=
  ⟨by rw [hb.block _ (Array.getElem?_eq_some_iff.1 h.1).1]; exact h.1, h.2.1.trans (hb.mono (h.2.1.size)), h.2.2⟩
theorem ItAt.move {w wx : World} {s : ByteArray} {i d : Nat} (h : ItAt w wx s i) (hn : Lib.NoAny s.data.toList blk (i + d)) : ItAt w (wx.iterAt w.heap.size s (i + d)) s (i + d) :=
  ⟨Lib.iterAt_heap _ _ _ _ _ h.1, Lib.below_iterAt h.2.1 (Nat.le_refl _) _ _, hn⟩

set_option maxRecDepth 100000 in
set_option maxHeartbeats 2000000 in
theorem idxAny_short (s : ByteArray) (h8 : s.size ≤ 8) : IdxAny s := by
  intro w
  have h8z : decide ((8 : Int) < (s.size : Int)) = false := decide_eq_false (by omega)
  go_enter Tryd.func47, Tryd.ntmps47
  go_wp2_with fail
  refine (Tryd.strings_shouldUseASCIISet _ _).mono ?_; rintro e w' ⟨rfl, hw⟩; replace hw := hw.symm; subst hw
  rw [h8z]
  go_wp2_with fail
  go_loopg [9, 10] s.size (fun g _ _ wx => ∃ i : Nat, i ≤ s.size ∧ g = s.size - i ∧ ItAt w wx s i)
  case atStart => exact ⟨0, by omega, by omega, World.iter_heap w s 0, iter_below w s 0, Lib.NoAny.zero _ _⟩
  case round =>
    obtain ⟨i, hi, rfl, hit⟩ := hrel
    have HI := Lib.hid hit
    by_cases hlt : i < s.size
    · have hdp : 1 ≤ (Utf8.decode s i).2 := by
        by_cases ha : (s[i]'hlt).toNat < 128
        · rw [decode_ascii s i hlt ha]; exact Nat.le_refl 1
        · exact (decode_high s i hlt (by omega)).2
      have hdl := decode_le s i
      have hnx := fun ty => Lib.run_next_any_at (P := Tryd.prog) wr w.heap.size s i ty hit.1 hlt
      by_cases ha : (s[i]'hlt).toNat < 128
      · have hde := decode_ascii s i hlt ha
        rw [hde] at hnx
        clear hdp hdl hde
        obtain ⟨x, hx⟩ : ∃ x : UInt8, s[i]'hlt = x := ⟨_, rfl⟩
        rw [hx] at hnx ha
        simp only at hnx
        have Hx : Hid (s.data.toList[i]? = some x) := Lib.hid (by rw [← hx]; exact Lib.data_getElem? s i hlt)
        clear hit hx
        have hcon := Lib.contains_iff_indexByte blk x
        have hback : ((x.toNat : Int)).toNat.toUInt8 = x := by simp
        have HR : Hid (∀ W, Calls Tryd.prog 62 #[.string ⟨#[32, 9]⟩, .int .i32 (x.toNat : Nat)] W fun e w' => e = .returned (.int .i64 (Lib.indexByte blk x)) ∧ w' = W) := Lib.hid (fun W => by
          have := Tryd.strings_IndexRune_ascii ⟨#[32, 9]⟩ (x.toNat : Int) W (by omega) (by omega)
          rw [hback] at this
          exact this)
        cases hin : blk.contains x
        · rw [hin] at hcon
          have hlt2 : ¬ ((0 : Int) ≤ Lib.indexByte blk x) := of_decide_eq_false hcon.symm
          have hdc : decide ((0 : Int) ≤ Lib.indexByte blk x) = false := decide_eq_false hlt2
          have HIN := Lib.hid hin
          clear hcon hback hin
          go_wp2_with fail
          refine (HR.out _).mono ?_; rintro e w' ⟨rfl, rfl⟩
          go_wp2_with fail
          go_roundg (s.size - (i + 1))
          case measure => omega
          case rel => exact ⟨i + 1, by omega, rfl, HI.out.move (HI.out.2.2.succ Hx.out HIN.out)⟩
        · rw [hin] at hcon
          have hge : (0 : Int) ≤ Lib.indexByte blk x := of_decide_eq_true hcon.symm
          have HIN := Lib.hid hin
          clear hcon hback hin
          go_wp2_with fail
          refine (HR.out _).mono ?_; rintro e w' ⟨rfl, rfl⟩
          go_wp2_with fail
          go_ret
          exact ⟨by rw [Lib.indexAny_hit HI.out.2.2 Hx.out HIN.out]; rfl, Lib.below_iterAt HI.out.2.1 (Nat.le_refl _) _ _⟩
      · have hhi := (decode_high s i hlt (by omega)).1
        have HP := Lib.hid (piece s i hlt (by omega))
        obtain ⟨r, hr⟩ : ∃ r, (Utf8.decode s i).1 = r := ⟨_, rfl⟩
        obtain ⟨d, hd⟩ : ∃ d, (Utf8.decode s i).2 = d := ⟨_, rfl⟩
        rw [hr] at hnx hhi hdl
        rw [hd] at hnx hdp HP
        have hid : i + d ≤ s.size := by
          obtain ⟨x, hx, _⟩ := HP.out (d - 1) (by omega)
          have := (List.getElem?_eq_some_iff.1 hx).1
          rw [← Lib.size_eq] at this
          omega
        clear hr hd hit ha
        have HR : Hid (∀ W, Calls Tryd.prog 62 #[.string ⟨#[32, 9]⟩, .int .i32 (r : Nat)] W fun e w' => e = .returned (.int .i64 (-1)) ∧ Below W.heap.size W w') := by
          refine Lib.hid fun W => ?_
          by_cases h3 : r = 65533
          · subst h3; exact rune65533 W
          · exact runeHigh r W hhi hdl h3
        clear hhi hdl
        go_wp2_with fail
        refine (HR.out _).mono ?_; rintro e w' ⟨rfl, hB⟩
        have HB := Lib.hid hB
        clear hB
        go_wp2_with fail
        go_roundg (s.size - (i + d))
        case measure => omega
        case rel => exact ⟨i + d, hid, rfl, (HI.out.move (noAny_many HI.out.2.2 d HP.out)).below HB.out⟩
    · obtain rfl : i = s.size := by omega
      have hnx := fun ty => Lib.run_next_end_at (P := Tryd.prog) wr w.heap.size s s.size ty hit.1 (by omega)
      clear hit
      go_wp2_with fail
      go_ret
      exact ⟨by rw [Lib.indexAny_none (by rw [← Lib.size_eq]; exact HI.out.2.2)]; rfl, HI.out.2.1⟩
theorem idxAny_all (s : ByteArray) (hs : s.size < 4294967281) : IdxAny s := by
  by_cases h8 : s.size ≤ 8
  · exact idxAny_short s h8
  · intro w
    refine (Tryd.strings_IndexAny_long (fun w => by kernel_rfl) s ⟨#[32, 9]⟩ w (by decide) (by omega) hs (by decide) (fun j b hj => by
      have : ∀ b ∈ ([32, 9] : List UInt8), b.toNat < 128 := by decide
      exact this b (List.mem_of_getElem? hj))).mono ?_
    rintro e w' ⟨rfl, rfl⟩
    have h1 := (Below.refl w.heap.size w).alloc (Nat.le_refl _) (Obj.cells (Lib.setCells (⟨#[32, 9]⟩ : ByteArray).data.toList) 94)
    exact ⟨rfl, h1.alloc h1.size _⟩
end Go.Proofs.YtmnhnighlgpjmaaDoor
