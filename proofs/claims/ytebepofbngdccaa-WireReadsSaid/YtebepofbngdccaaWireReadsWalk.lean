/-
  The walk of the law WireReads.
-/
import Derived.Test.YtebepofbngdccaaKind
import Derived.Test.YtebepofbngdccaaSame
namespace Go.Proofs.Ytebepofbngdccaa
set_option linter.unusedVariables false
set_option linter.unusedSimpArgs false
open Go.RowKit
namespace wireReads

/-- Both readers are in state st. -/
structure Two (w0 w : World) (g q : Nat) (st : St) : Prop where
  r : Rd w g 59 st
  s : Rd w q 61 st
  ok : st.ok
  le : st.l.length ≤ 400
  below : Below w0.heap.size w0 w

set_option maxRecDepth 100000 in
set_option maxHeartbeats 8000000 in
theorem walk_main (l : List UInt8) (v : Value) (zs : List Int) (w : World) (hl : l.length ≤ 400) (hr : Row w w.heap.size v (iv zs)) (hn : zs.length ≤ 20) :
    Calls Try.prog 4 #[.string (bs l), v] w fun e w' => e = .returned (.bool true) ∧ Below w.heap.size w w' := by
  obtain ⟨A, cap, rfl, hA⟩ := hr
  rw [iv_length] at hA
  rw [iv_length]
  have hsz : (bs l).size ≤ 400 := by rw [bs_size]; exact hl
  obtain ⟨sB, hsB⟩ : ∃ s, bs l = s := ⟨_, rfl⟩
  rw [hsB] at hsz
  rw [hsB]
  have HS := Lib.hid hsB; clear hsB
  go_enter Try.func4, Try.ntmps4
  go_wp2_with fail
  refine (small_any _).mono ?_; rintro e w1 ⟨rfl, hB1⟩
  go_wp2_with fail
  rw [← HS.out]
  refine (wOpen l _).mono ?_; rintro e w2 ⟨rfl, hw2⟩
  have hr2 : Rd w2 w1.heap.size 59 ⟨l, false⟩ := by rw [hw2]; exact Rd.opened _ _ _
  have hB2 : Below w1.heap.size w1 w2 := by rw [hw2]; exact (Below.refl _ _).alloc (Nat.le_refl _) _
  clear hw2
  go_wp2_with fail
  refine (qOpen l _).mono ?_; rintro e w3 ⟨rfl, hw3⟩
  rw [HS.out]
  have hr3 : Rd w3 w2.heap.size 61 ⟨l, false⟩ := by rw [hw3]; exact Rd.opened _ _ _
  have hB3 : Below w2.heap.size w2 w3 := by rw [hw3]; exact (Below.refl _ _).alloc (Nat.le_refl _) _
  have hg1 := hB1.size
  have hg2 := hr2.lt
  have hT3 : Two w w3 w1.heap.size w2.heap.size ⟨l, false⟩ := ⟨hr2.below hB3 hg2, hr3, (fun h => by cases h), hl, (hB1.trans (hB2.mono hg1)).trans (hB3.mono (by omega))⟩
  obtain ⟨g, hgg⟩ : ∃ g, w1.heap.size = g := ⟨_, rfl⟩
  obtain ⟨q, hqq⟩ : ∃ q, w2.heap.size = q := ⟨_, rfl⟩
  rw [hgg] at hT3 hg1 hg2
  rw [hqq] at hT3 hg2
  rw [hgg, hqq]
  clear hw3 hr2 hr3 hB1 hB2 hB3 hgg hqq
  go_wp2_with fail
  go_loopw [8] (fun i wr => ∃ (k : Nat) (st : St), k ≤ zs.length ∧ i = .int .i64 k ∧ Two w wr g q st) (fun i _ => zs.length - (intOf i).toNat)
  case atStart => exact ⟨0, _, by omega, rfl, hT3⟩
  case round =>
    obtain ⟨k, st, hk, rfl, hT⟩ := hrel
    have hls := hT.le
    by_cases hlt : k < zs.length
    · obtain ⟨b, off, rfl, hb, hc⟩ := hA (by omega)
      have hcell : wr.cell? ⟨b, off + k, none⟩ = some (.int .i64 zs[k]) := by
        rw [← iv_at zs k hlt, ← hc k hlt]; exact hT.below.cell (p := ⟨b, off + k, none⟩) hb
      clear hA hc
      obtain ⟨z, hz⟩ : ∃ z, zs[k] = z := ⟨_, rfl⟩
      rw [hz] at hcell
      clear hz
      have h5 : z % 5 = 0 ∨ z % 5 = 1 ∨ z % 5 = 2 ∨ z % 5 = 3 ∨ z % 5 = 4 := by omega
      rcases h5 with h5 | h5 | h5 | h5 | h5
      · have h5' := Lib.hid h5; clear h5
        have hok2 := fNum_ok st hT.ok
        have hl2 := fNum_len st
        have hcw := fun (w : World) (h : Rd w g 59 st) => wNum g st w h (by omega)
        have hcq := fun (w : World) (h : Rd w q 61 st) => qNum q st w h (by omega)
        skip
        obtain ⟨⟨m, st2⟩, hM⟩ : ∃ x, fNum st = x := ⟨_, rfl⟩
        rw [hM] at hok2 hl2 
        simp only [hM] at hcw hcq
        simp only at hok2 hl2 
        have HCW := Lib.hid hcw; clear hcw
        have HCQ := Lib.hid hcq; clear hcq hM
        have HOK := Lib.hid hok2; clear hok2
        go_wp2_with fail
        refine (kind_any z _ _ _ _ _).mono ?_; rintro e w4 ⟨rfl, hB4⟩
        rw [h5'.out]
        have hr4 := hT.r.below hB4 hT.r.lt
        have hs4 := hT.s.below hB4 hT.s.lt
        go_wp2_with fail
        refine (HCW.out _ hr4).mono ?_; rintro e w5 ⟨rfl, hr5, hg5⟩
        have hs5 := hs4.grown hg5 (by simp; omega)
        go_wp2_with fail
        refine (HCQ.out _ hs5).mono ?_; rintro e w6 ⟨rfl, hs6, hg6⟩
        have hr6 := hr5.grown hg6 (by simp; omega)
        have c4 := hT.below.trans (hB4.mono hT.below.size)
        have c5 := c4.trans (Below.of_grown hg5 c4.size hg1)
        have c6 := c5.trans (Below.of_grown hg6 c5.size (by omega))
        skip
        go_wp2_with fail
        refine (wLeft _ _ _ hr6 (by omega)).mono ?_; rintro e w' ⟨rfl, rfl⟩
        go_wp2_with fail
        refine (qLeft _ _ _ hs6).mono ?_; rintro e w' ⟨rfl, rfl⟩
        go_wp2_with fail
        refine (wDone _ _ _ hr6).mono ?_; rintro e w' ⟨rfl, rfl⟩
        go_wp2_with fail
        refine (qDone _ _ _ hs6).mono ?_; rintro e w' ⟨rfl, rfl⟩
        go_wp2_with fail
        go_roundw
        case rel => exact ⟨k + 1, st2, by omega, by go_num, hr6, hs6, HOK.out, by omega, c6⟩
        case measure => simp [intOf]; omega
      · have h5' := Lib.hid h5; clear h5
        have hok2 := fInt_ok st hT.ok
        have hl2 := fInt_len st
        have hcw := fun (w : World) (h : Rd w g 59 st) => wInt g st w h (by omega)
        have hcq := fun (w : World) (h : Rd w q 61 st) => qInt q st w h (by omega)
        skip
        obtain ⟨⟨m, st2⟩, hM⟩ : ∃ x, fInt st = x := ⟨_, rfl⟩
        rw [hM] at hok2 hl2 
        simp only [hM] at hcw hcq
        simp only at hok2 hl2 
        have HCW := Lib.hid hcw; clear hcw
        have HCQ := Lib.hid hcq; clear hcq hM
        have HOK := Lib.hid hok2; clear hok2
        go_wp2_with fail
        refine (kind_any z _ _ _ _ _).mono ?_; rintro e w4 ⟨rfl, hB4⟩
        rw [h5'.out]
        have hr4 := hT.r.below hB4 hT.r.lt
        have hs4 := hT.s.below hB4 hT.s.lt
        go_wp2_with fail
        refine (HCW.out _ hr4).mono ?_; rintro e w5 ⟨rfl, hr5, hg5⟩
        have hs5 := hs4.grown hg5 (by simp; omega)
        go_wp2_with fail
        refine (HCQ.out _ hs5).mono ?_; rintro e w6 ⟨rfl, hs6, hg6⟩
        have hr6 := hr5.grown hg6 (by simp; omega)
        have c4 := hT.below.trans (hB4.mono hT.below.size)
        have c5 := c4.trans (Below.of_grown hg5 c4.size hg1)
        have c6 := c5.trans (Below.of_grown hg6 c5.size (by omega))
        skip
        go_wp2_with fail
        refine (wLeft _ _ _ hr6 (by omega)).mono ?_; rintro e w' ⟨rfl, rfl⟩
        go_wp2_with fail
        refine (qLeft _ _ _ hs6).mono ?_; rintro e w' ⟨rfl, rfl⟩
        go_wp2_with fail
        refine (wDone _ _ _ hr6).mono ?_; rintro e w' ⟨rfl, rfl⟩
        go_wp2_with fail
        refine (qDone _ _ _ hs6).mono ?_; rintro e w' ⟨rfl, rfl⟩
        go_wp2_with fail
        go_roundw
        case rel => exact ⟨k + 1, st2, by omega, by go_num, hr6, hs6, HOK.out, by omega, c6⟩
        case measure => simp [intOf]; omega
      · have h5' := Lib.hid h5; clear h5
        have hok2 := fText_ok st hT.ok
        have hl2 := fText_len st
        have hcw := fun (w : World) (h : Rd w g 59 st) => wText g st w h (by omega)
        have hcq := fun (w : World) (h : Rd w q 61 st) => qText q st w h (by omega)
        skip
        obtain ⟨⟨m, st2⟩, hM⟩ : ∃ x, fText st = x := ⟨_, rfl⟩
        rw [hM] at hok2 hl2 
        simp only [hM] at hcw hcq
        simp only at hok2 hl2 
        have HCW := Lib.hid hcw; clear hcw
        have HCQ := Lib.hid hcq; clear hcq hM
        have HOK := Lib.hid hok2; clear hok2
        go_wp2_with fail
        refine (kind_any z _ _ _ _ _).mono ?_; rintro e w4 ⟨rfl, hB4⟩
        rw [h5'.out]
        have hr4 := hT.r.below hB4 hT.r.lt
        have hs4 := hT.s.below hB4 hT.s.lt
        go_wp2_with fail
        refine (HCW.out _ hr4).mono ?_; rintro e w5 ⟨rfl, hr5, hg5⟩
        have hs5 := hs4.grown hg5 (by simp; omega)
        go_wp2_with fail
        refine (HCQ.out _ hs5).mono ?_; rintro e w6 ⟨rfl, hs6, hg6⟩
        have hr6 := hr5.grown hg6 (by simp; omega)
        have c4 := hT.below.trans (hB4.mono hT.below.size)
        have c5 := c4.trans (Below.of_grown hg5 c4.size hg1)
        have c6 := c5.trans (Below.of_grown hg6 c5.size (by omega))
        skip
        go_wp2_with fail
        refine (wLeft _ _ _ hr6 (by omega)).mono ?_; rintro e w' ⟨rfl, rfl⟩
        go_wp2_with fail
        refine (qLeft _ _ _ hs6).mono ?_; rintro e w' ⟨rfl, rfl⟩
        go_wp2_with fail
        refine (wDone _ _ _ hr6).mono ?_; rintro e w' ⟨rfl, rfl⟩
        go_wp2_with fail
        refine (qDone _ _ _ hs6).mono ?_; rintro e w' ⟨rfl, rfl⟩
        go_wp2_with fail
        go_roundw
        case rel => exact ⟨k + 1, st2, by omega, by go_num, hr6, hs6, HOK.out, by omega, c6⟩
        case measure => simp [intOf]; omega
      · have h5' := Lib.hid h5; clear h5
        have hok2 := fList_ok fInt fInt_ok st hT.ok
        have hl2 := fList_small fInt_len st
        have hcw := fun (w : World) (h : Rd w g 59 st) => wNums g st w h (by omega)
        have hcq := fun (w : World) (h : Rd w q 61 st) => qNums q st w h (by omega) hT.ok
        have hll := fList_length fInt st
        obtain ⟨⟨m, st2⟩, hM⟩ : ∃ x, fList fInt st = x := ⟨_, rfl⟩
        rw [hM] at hok2 hl2 hll
        simp only [hM] at hcw hcq
        simp only at hok2 hl2 hll
        have HCW := Lib.hid hcw; clear hcw
        have HCQ := Lib.hid hcq; clear hcq hM
        have HOK := Lib.hid hok2; clear hok2
        go_wp2_with fail
        refine (kind_any z _ _ _ _ _).mono ?_; rintro e w4 ⟨rfl, hB4⟩
        rw [h5'.out]
        have hr4 := hT.r.below hB4 hT.r.lt
        have hs4 := hT.s.below hB4 hT.s.lt
        go_wp2_with fail
        refine (HCW.out _ hr4).mono ?_; rintro e w5 ⟨va, rfl, ho5, hr5, hg5⟩
        have hs5 := hs4.grown hg5 (by simp; omega)
        go_wp2_with fail
        refine (HCQ.out _ hs5).mono ?_; rintro e w6 ⟨vb, rfl, ho6, hs6, hg6⟩
        have hr6 := hr5.grown hg6 (by simp; omega)
        have c4 := hT.below.trans (hB4.mono hT.below.size)
        have c5 := c4.trans (Below.of_grown hg5 c4.size hg1)
        have c6 := c5.trans (Below.of_grown hg6 c5.size (by omega))
        have hro := Row.of_own (own_keep ho5 hg6 (by have := hs4.lt; omega))
        have hrq := Row.of_own ho6
        go_wp2_with fail
        refine (same_nums _ _ m _ _ (Nat.le_refl _) hro hrq (by omega)).mono ?_; rintro e w7 ⟨rfl, hB7⟩
        replace c6 := c6.trans (hB7.mono c6.size)
        replace hr6 := hr6.below hB7 hr6.lt
        replace hs6 := hs6.below hB7 hs6.lt
        go_wp2_with fail
        refine (wLeft _ _ _ hr6 (by omega)).mono ?_; rintro e w' ⟨rfl, rfl⟩
        go_wp2_with fail
        refine (qLeft _ _ _ hs6).mono ?_; rintro e w' ⟨rfl, rfl⟩
        go_wp2_with fail
        refine (wDone _ _ _ hr6).mono ?_; rintro e w' ⟨rfl, rfl⟩
        go_wp2_with fail
        refine (qDone _ _ _ hs6).mono ?_; rintro e w' ⟨rfl, rfl⟩
        go_wp2_with fail
        go_roundw
        case rel => exact ⟨k + 1, st2, by omega, by go_num, hr6, hs6, HOK.out, by omega, c6⟩
        case measure => simp [intOf]; omega
      · have h5' := Lib.hid h5; clear h5
        have hok2 := fList_ok fText fText_ok st hT.ok
        have hl2 := fList_small fText_len st
        have hcw := fun (w : World) (h : Rd w g 59 st) => wTexts g st w h (by omega)
        have hcq := fun (w : World) (h : Rd w q 61 st) => qTexts q st w h (by omega) hT.ok
        have hll := fList_length fText st
        obtain ⟨⟨m, st2⟩, hM⟩ : ∃ x, fList fText st = x := ⟨_, rfl⟩
        rw [hM] at hok2 hl2 hll
        simp only [hM] at hcw hcq
        simp only at hok2 hl2 hll
        have HCW := Lib.hid hcw; clear hcw
        have HCQ := Lib.hid hcq; clear hcq hM
        have HOK := Lib.hid hok2; clear hok2
        go_wp2_with fail
        refine (kind_any z _ _ _ _ _).mono ?_; rintro e w4 ⟨rfl, hB4⟩
        rw [h5'.out]
        have hr4 := hT.r.below hB4 hT.r.lt
        have hs4 := hT.s.below hB4 hT.s.lt
        go_wp2_with fail
        refine (HCW.out _ hr4).mono ?_; rintro e w5 ⟨va, rfl, ho5, hr5, hg5⟩
        have hs5 := hs4.grown hg5 (by simp; omega)
        go_wp2_with fail
        refine (HCQ.out _ hs5).mono ?_; rintro e w6 ⟨vb, rfl, ho6, hs6, hg6⟩
        have hr6 := hr5.grown hg6 (by simp; omega)
        have c4 := hT.below.trans (hB4.mono hT.below.size)
        have c5 := c4.trans (Below.of_grown hg5 c4.size hg1)
        have c6 := c5.trans (Below.of_grown hg6 c5.size (by omega))
        have hro := Row.of_own (own_keep ho5 hg6 (by have := hs4.lt; omega))
        have hrq := Row.of_own ho6
        go_wp2_with fail
        refine (same_texts _ _ m _ _ (Nat.le_refl _) hro hrq (by omega)).mono ?_; rintro e w7 ⟨rfl, hB7⟩
        replace c6 := c6.trans (hB7.mono c6.size)
        replace hr6 := hr6.below hB7 hr6.lt
        replace hs6 := hs6.below hB7 hs6.lt
        go_wp2_with fail
        refine (wLeft _ _ _ hr6 (by omega)).mono ?_; rintro e w' ⟨rfl, rfl⟩
        go_wp2_with fail
        refine (qLeft _ _ _ hs6).mono ?_; rintro e w' ⟨rfl, rfl⟩
        go_wp2_with fail
        refine (wDone _ _ _ hr6).mono ?_; rintro e w' ⟨rfl, rfl⟩
        go_wp2_with fail
        refine (qDone _ _ _ hs6).mono ?_; rintro e w' ⟨rfl, rfl⟩
        go_wp2_with fail
        go_roundw
        case rel => exact ⟨k + 1, st2, by omega, by go_num, hr6, hs6, HOK.out, by omega, c6⟩
        case measure => simp [intOf]; omega
    · go_wp2_with fail
      go_ret
      exact ⟨rfl, hT.below⟩

set_option maxRecDepth 100000 in
theorem walk_long (l : List UInt8) (v : Value) (zs : List Int) (w : World) (hr : Row w w.heap.size v (iv zs)) (hl : 400 < l.length ∨ 20 < zs.length) :
    Calls Try.prog 4 #[.string (bs l), v] w fun e w' => e = .returned (.bool true) ∧ Below w.heap.size w w' := by
  obtain ⟨A, cap, rfl, hA⟩ := hr
  rw [iv_length]
  clear hA
  obtain ⟨sB, hsB⟩ : ∃ s, bs l = s := ⟨_, rfl⟩
  have hsz : sB.size = l.length := by rw [← hsB, bs_size]
  rw [hsB]
  by_cases h4 : 400 < sB.size
  · clear hsB hsz hl
    go_enter Try.func4, Try.ntmps4
    go_wp2_with fail
    refine (small_any _).mono ?_; rintro e w1 ⟨rfl, hB1⟩
    go_wp2_with fail
    go_ret
    exact ⟨rfl, hB1⟩
  · have h20 : 20 < zs.length := by omega
    clear hsB hsz hl
    go_enter Try.func4, Try.ntmps4
    go_wp2_with fail
    refine (small_any _).mono ?_; rintro e w1 ⟨rfl, hB1⟩
    go_wp2_with fail
    go_ret
    exact ⟨rfl, hB1⟩

theorem walk (w : World) (s : ByteArray) (v : Value) (zs : List Int) (hs : s.size ≤ maxLen) (hr' : Row w w.heap.size v (iv zs) ∧ ∀ z ∈ zs, inI z) :
    Calls Try.prog 4 #[.string s, v] w fun e w' => e = .returned (.bool true) ∧ Below w.heap.size w w' := by
  rw [← bs_data s]
  by_cases hl : s.data.toList.length ≤ 400 ∧ zs.length ≤ 20
  · exact walk_main _ _ _ _ hl.1 hr'.1 hl.2
  · exact walk_long _ _ _ _ hr'.1 (by omega)
end wireReads
end Go.Proofs.Ytebepofbngdccaa
