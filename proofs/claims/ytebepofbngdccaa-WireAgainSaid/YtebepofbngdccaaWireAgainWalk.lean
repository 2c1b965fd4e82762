/-
  The walk of the law WireAgain.
-/
import Derived.Test.YtebepofbngdccaaKind
import Derived.Test.YtebepofbngdccaaPureR
namespace Go.Proofs.Ytebepofbngdccaa
set_option linter.unusedVariables false
set_option linter.unusedSimpArgs false
open Go.RowKit
namespace wireAgain

set_option maxRecDepth 100000 in
set_option maxHeartbeats 1000000 in
theorem walk0 (l : List UInt8) (what : Int) (w : World) (hl : l.length ≤ 400) (hk : what % 5 = 0) :
    Calls Try.prog 6 #[.string (bs l), .int .i64 what] w fun e w' => e = .returned (.bool true) ∧ Below w.heap.size w w' := by
  have hsz : (bs l).size ≤ 400 := by rw [bs_size]; exact hl
  have hc := fun (g : Nat) (w : World) (h : Rd w g 59 ⟨l, false⟩) => wNum g ⟨l, false⟩ w h (by simp; omega)
  have hok := fNum_ok ⟨l, false⟩ (fun h => by cases h)
  have hgood := fNum_good ⟨l, false⟩
  have hle := fNum_len ⟨l, false⟩
  have hlt := fNum_lt ⟨l, false⟩
  obtain ⟨⟨m, st⟩, hM⟩ : ∃ x, fNum ⟨l, false⟩ = x := ⟨_, rfl⟩
  rw [hM] at hok hgood hle hlt
  simp only [hM] at hc
  simp only at hok hgood hle hlt
  have HC := Lib.hid hc; clear hc hM
  have HK := Lib.hid hk; clear hk
  have HG := Lib.hid hgood; clear hgood
  have HO := Lib.hid hok; clear hok
  obtain ⟨sB, hsB⟩ : ∃ s, bs l = s := ⟨_, rfl⟩
  rw [hsB] at hsz
  rw [hsB]
  have HS := Lib.hid hsB; clear hsB
  have hzz : sB.size = l.length := by rw [← HS.out, bs_size]
  have HZ := Lib.hid hzz; clear hzz

  go_enter Try.func6, Try.ntmps6
  go_wp2_with fail
  refine (small_any _).mono ?_; rintro e w1 ⟨rfl, hB1⟩
  go_wp2_with fail
  rw [← HS.out]
  refine (wOpen l _).mono ?_; rintro e w2 ⟨rfl, hw2⟩
  rw [HS.out]
  have hr2 : Rd w2 w1.heap.size 59 ⟨l, false⟩ := by rw [hw2]; exact Rd.opened _ _ _
  have hB2 : Below w1.heap.size w1 w2 := by rw [hw2]; exact (Below.refl _ _).alloc (Nat.le_refl _) _
  have hsz2 : w1.heap.size < w2.heap.size := hr2.lt
  clear hw2
  go_wp2_with fail
  refine (kind_any what _ _ _ _ _).mono ?_; rintro e w3 ⟨rfl, hB3⟩
  rw [HK.out]
  have hr3 := hr2.below hB3 hsz2
  go_wp2_with fail
  refine (HC.out _ _ hr3).mono ?_; rintro e w4 ⟨rfl, hr4, hg4⟩
  go_wp2_with fail
  refine (wnum m _ (by omega)).mono ?_; rintro e w5 ⟨rfl, hB5⟩
  have hr5 := hr4.below hB5 hr4.lt
  have c2 := hB1.trans (hB2.mono hB1.size)
  have c3 := c2.trans (hB3.mono c2.size)
  have c4 := c3.trans (Below.of_grown hg4 c3.size hB1.size)
  have c5 := c4.trans (hB5.mono c4.size)
  clear hB1 hB2 hB3 hg4 hB5 c2 c3 c4 hr2 hr3 hr4
  obtain ⟨t, ht⟩ : ∃ s, bs (enc m) = s := ⟨_, rfl⟩
  rw [ht]
  have HT := Lib.hid ht; clear ht
  have hleft := wLeft _ _ _ hr5 (by omega)
  have hdone := wDone _ _ _ hr5
  obtain ⟨q, hq⟩ : ∃ q, st.l.length = q := ⟨_, rfl⟩
  rw [hq] at hleft
  have hqs : (q : Int) ≤ sB.size := by have := HZ.out; omega
  have HL := Lib.hid hleft; clear hleft
  have HQ := Lib.hid hq; clear hq
  by_cases hb : st.bad = true
  · have hnil := HO.out hb
    have hd : doneB st = false := by unfold doneB; rw [hb]; rfl
    rw [hd] at hdone
    have hq0 : q = 0 := by have := HQ.out; rw [hnil] at this; simpa using this.symm
    subst hq0
    have HD := Lib.hid hdone; clear hdone hd hnil hb
    go_wp2_with fail
    refine HL.out.mono ?_; rintro e w' ⟨rfl, rfl⟩
    go_wp2_with fail
    refine HD.out.mono ?_; rintro e w' ⟨rfl, rfl⟩
    go_wp2_with fail
    go_ret
    exact ⟨rfl, c5⟩
  · have hb' : st.bad = false := by simpa using hb
    have hg : l = (enc m) ++ st.l := HG.out hb'
    have hn2 : l.length - q = (enc m).length := by
      have := HQ.out
      rw [hg, List.length_append]; omega
    have htake : sB.extract 0 (sB.size - q) = t := by rw [← HS.out, bs_size, bs_take, hn2, ← HT.out]; congr 1; conv => lhs; rw [hg]
                                                      exact List.take_left
    have hsub : ((sB.size : Int) - q).toNat = sB.size - q := by omega
    have hs0 : (0 : Int) ≤ (sB.size : Int) - q := by omega
    have hs1 : (sB.size : Int) - q ≤ sB.size := by omega
    by_cases hq0 : q = 0
    · have hd : doneB st = true := by
        unfold doneB; rw [hb']
        have := HQ.out
        have h3 : st.l = [] := List.eq_nil_of_length_eq_zero (by omega)
        rw [h3]; rfl
      rw [hd] at hdone
      subst hq0
      have HTE : Hid (sB = t) := by
        show _ = _
        rw [← htake]; simp
      have HD := Lib.hid hdone; clear hdone hd hg hn2 hb hb' htake
      go_wp2_with fail
      refine HL.out.mono ?_; rintro e w' ⟨rfl, rfl⟩
      go_wp2_with fail
      refine HD.out.mono ?_; rintro e w' ⟨rfl, rfl⟩
      go_wp2_with fail
      refine HL.out.mono ?_; rintro e w' ⟨rfl, rfl⟩
      go_wp2_with fail
      go_ret
      exact ⟨by rw [show (t.toList == sB.toList) = true by rw [HTE.out]; simp]; rfl, c5⟩
    · have hqne : ((q : Int) == 0) = false := by simp; omega
      clear hdone hg hn2 hb hb'
      go_wp2_with fail
      refine HL.out.mono ?_; rintro e w' ⟨rfl, rfl⟩
      go_wp2_with fail
      refine HL.out.mono ?_; rintro e w' ⟨rfl, rfl⟩
      go_wp2_with fail
      go_ret
      exact ⟨rfl, c5⟩

set_option maxRecDepth 100000 in
set_option maxHeartbeats 1000000 in
theorem walk1 (l : List UInt8) (what : Int) (w : World) (hl : l.length ≤ 400) (hk : what % 5 = 1) :
    Calls Try.prog 6 #[.string (bs l), .int .i64 what] w fun e w' => e = .returned (.bool true) ∧ Below w.heap.size w w' := by
  have hsz : (bs l).size ≤ 400 := by rw [bs_size]; exact hl
  have hc := fun (g : Nat) (w : World) (h : Rd w g 59 ⟨l, false⟩) => wInt g ⟨l, false⟩ w h (by simp; omega)
  have hok := fInt_ok ⟨l, false⟩ (fun h => by cases h)
  have hgood := fInt_good ⟨l, false⟩
  have hle := fInt_len ⟨l, false⟩
  have hlt := fInt_in ⟨l, false⟩
  obtain ⟨⟨m, st⟩, hM⟩ : ∃ x, fInt ⟨l, false⟩ = x := ⟨_, rfl⟩
  rw [hM] at hok hgood hle hlt
  simp only [hM] at hc
  simp only at hok hgood hle hlt
  have HC := Lib.hid hc; clear hc hM
  have HK := Lib.hid hk; clear hk
  have HG := Lib.hid hgood; clear hgood
  have HO := Lib.hid hok; clear hok
  obtain ⟨sB, hsB⟩ : ∃ s, bs l = s := ⟨_, rfl⟩
  rw [hsB] at hsz
  rw [hsB]
  have HS := Lib.hid hsB; clear hsB
  have hzz : sB.size = l.length := by rw [← HS.out, bs_size]
  have HZ := Lib.hid hzz; clear hzz
  have HI := Lib.hid hlt; clear hlt
  go_enter Try.func6, Try.ntmps6
  go_wp2_with fail
  refine (small_any _).mono ?_; rintro e w1 ⟨rfl, hB1⟩
  go_wp2_with fail
  rw [← HS.out]
  refine (wOpen l _).mono ?_; rintro e w2 ⟨rfl, hw2⟩
  rw [HS.out]
  have hr2 : Rd w2 w1.heap.size 59 ⟨l, false⟩ := by rw [hw2]; exact Rd.opened _ _ _
  have hB2 : Below w1.heap.size w1 w2 := by rw [hw2]; exact (Below.refl _ _).alloc (Nat.le_refl _) _
  have hsz2 : w1.heap.size < w2.heap.size := hr2.lt
  clear hw2
  go_wp2_with fail
  refine (kind_any what _ _ _ _ _).mono ?_; rintro e w3 ⟨rfl, hB3⟩
  rw [HK.out]
  have hr3 := hr2.below hB3 hsz2
  go_wp2_with fail
  refine (HC.out _ _ hr3).mono ?_; rintro e w4 ⟨rfl, hr4, hg4⟩
  go_wp2_with fail
  refine (wint m _ HI.out.1 HI.out.2).mono ?_; rintro e w5 ⟨rfl, hB5⟩
  have hr5 := hr4.below hB5 hr4.lt
  have c2 := hB1.trans (hB2.mono hB1.size)
  have c3 := c2.trans (hB3.mono c2.size)
  have c4 := c3.trans (Below.of_grown hg4 c3.size hB1.size)
  have c5 := c4.trans (hB5.mono c4.size)
  clear hB1 hB2 hB3 hg4 hB5 c2 c3 c4 hr2 hr3 hr4
  obtain ⟨t, ht⟩ : ∃ s, bs (enc (zig m)) = s := ⟨_, rfl⟩
  rw [ht]
  have HT := Lib.hid ht; clear ht
  have hleft := wLeft _ _ _ hr5 (by omega)
  have hdone := wDone _ _ _ hr5
  obtain ⟨q, hq⟩ : ∃ q, st.l.length = q := ⟨_, rfl⟩
  rw [hq] at hleft
  have hqs : (q : Int) ≤ sB.size := by have := HZ.out; omega
  have HL := Lib.hid hleft; clear hleft
  have HQ := Lib.hid hq; clear hq
  by_cases hb : st.bad = true
  · have hnil := HO.out hb
    have hd : doneB st = false := by unfold doneB; rw [hb]; rfl
    rw [hd] at hdone
    have hq0 : q = 0 := by have := HQ.out; rw [hnil] at this; simpa using this.symm
    subst hq0
    have HD := Lib.hid hdone; clear hdone hd hnil hb
    go_wp2_with fail
    refine HL.out.mono ?_; rintro e w' ⟨rfl, rfl⟩
    go_wp2_with fail
    refine HD.out.mono ?_; rintro e w' ⟨rfl, rfl⟩
    go_wp2_with fail
    go_ret
    exact ⟨rfl, c5⟩
  · have hb' : st.bad = false := by simpa using hb
    have hg : l = (enc (zig m)) ++ st.l := HG.out hb'
    have hn2 : l.length - q = (enc (zig m)).length := by
      have := HQ.out
      rw [hg, List.length_append]; omega
    have htake : sB.extract 0 (sB.size - q) = t := by rw [← HS.out, bs_size, bs_take, hn2, ← HT.out]; congr 1; conv => lhs; rw [hg]
                                                      exact List.take_left
    have hsub : ((sB.size : Int) - q).toNat = sB.size - q := by omega
    have hs0 : (0 : Int) ≤ (sB.size : Int) - q := by omega
    have hs1 : (sB.size : Int) - q ≤ sB.size := by omega
    by_cases hq0 : q = 0
    · have hd : doneB st = true := by
        unfold doneB; rw [hb']
        have := HQ.out
        have h3 : st.l = [] := List.eq_nil_of_length_eq_zero (by omega)
        rw [h3]; rfl
      rw [hd] at hdone
      subst hq0
      have HTE : Hid (sB = t) := by
        show _ = _
        rw [← htake]; simp
      have HD := Lib.hid hdone; clear hdone hd hg hn2 hb hb' htake
      go_wp2_with fail
      refine HL.out.mono ?_; rintro e w' ⟨rfl, rfl⟩
      go_wp2_with fail
      refine HD.out.mono ?_; rintro e w' ⟨rfl, rfl⟩
      go_wp2_with fail
      refine HL.out.mono ?_; rintro e w' ⟨rfl, rfl⟩
      go_wp2_with fail
      go_ret
      exact ⟨by rw [show (t.toList == sB.toList) = true by rw [HTE.out]; simp]; rfl, c5⟩
    · have hqne : ((q : Int) == 0) = false := by simp; omega
      clear hdone hg hn2 hb hb'
      go_wp2_with fail
      refine HL.out.mono ?_; rintro e w' ⟨rfl, rfl⟩
      go_wp2_with fail
      refine HL.out.mono ?_; rintro e w' ⟨rfl, rfl⟩
      go_wp2_with fail
      go_ret
      exact ⟨rfl, c5⟩

set_option maxRecDepth 100000 in
set_option maxHeartbeats 1000000 in
theorem walk2 (l : List UInt8) (what : Int) (w : World) (hl : l.length ≤ 400) (hk : what % 5 = 2) :
    Calls Try.prog 6 #[.string (bs l), .int .i64 what] w fun e w' => e = .returned (.bool true) ∧ Below w.heap.size w w' := by
  have hsz : (bs l).size ≤ 400 := by rw [bs_size]; exact hl
  have hc := fun (g : Nat) (w : World) (h : Rd w g 59 ⟨l, false⟩) => wText g ⟨l, false⟩ w h (by simp; omega)
  have hok := fText_ok ⟨l, false⟩ (fun h => by cases h)
  have hgood := fText_good ⟨l, false⟩
  have hle := fText_len ⟨l, false⟩
  have hlt := fText_le ⟨l, false⟩
  obtain ⟨⟨m, st⟩, hM⟩ : ∃ x, fText ⟨l, false⟩ = x := ⟨_, rfl⟩
  rw [hM] at hok hgood hle hlt
  simp only [hM] at hc
  simp only at hok hgood hle hlt
  have HC := Lib.hid hc; clear hc hM
  have HK := Lib.hid hk; clear hk
  have HG := Lib.hid hgood; clear hgood
  have HO := Lib.hid hok; clear hok
  obtain ⟨sB, hsB⟩ : ∃ s, bs l = s := ⟨_, rfl⟩
  rw [hsB] at hsz
  rw [hsB]
  have HS := Lib.hid hsB; clear hsB
  have hzz : sB.size = l.length := by rw [← HS.out, bs_size]
  have HZ := Lib.hid hzz; clear hzz

  go_enter Try.func6, Try.ntmps6
  go_wp2_with fail
  refine (small_any _).mono ?_; rintro e w1 ⟨rfl, hB1⟩
  go_wp2_with fail
  rw [← HS.out]
  refine (wOpen l _).mono ?_; rintro e w2 ⟨rfl, hw2⟩
  rw [HS.out]
  have hr2 : Rd w2 w1.heap.size 59 ⟨l, false⟩ := by rw [hw2]; exact Rd.opened _ _ _
  have hB2 : Below w1.heap.size w1 w2 := by rw [hw2]; exact (Below.refl _ _).alloc (Nat.le_refl _) _
  have hsz2 : w1.heap.size < w2.heap.size := hr2.lt
  clear hw2
  go_wp2_with fail
  refine (kind_any what _ _ _ _ _).mono ?_; rintro e w3 ⟨rfl, hB3⟩
  rw [HK.out]
  have hr3 := hr2.below hB3 hsz2
  go_wp2_with fail
  refine (HC.out _ _ hr3).mono ?_; rintro e w4 ⟨rfl, hr4, hg4⟩
  go_wp2_with fail
  refine (wtext m _ (by omega)).mono ?_; rintro e w5 ⟨rfl, hB5⟩
  have hr5 := hr4.below hB5 hr4.lt
  have c2 := hB1.trans (hB2.mono hB1.size)
  have c3 := c2.trans (hB3.mono c2.size)
  have c4 := c3.trans (Below.of_grown hg4 c3.size hB1.size)
  have c5 := c4.trans (hB5.mono c4.size)
  clear hB1 hB2 hB3 hg4 hB5 c2 c3 c4 hr2 hr3 hr4
  obtain ⟨t, ht⟩ : ∃ s, bs (enc m.length ++ m) = s := ⟨_, rfl⟩
  rw [ht]
  have HT := Lib.hid ht; clear ht
  have hleft := wLeft _ _ _ hr5 (by omega)
  have hdone := wDone _ _ _ hr5
  obtain ⟨q, hq⟩ : ∃ q, st.l.length = q := ⟨_, rfl⟩
  rw [hq] at hleft
  have hqs : (q : Int) ≤ sB.size := by have := HZ.out; omega
  have HL := Lib.hid hleft; clear hleft
  have HQ := Lib.hid hq; clear hq
  by_cases hb : st.bad = true
  · have hnil := HO.out hb
    have hd : doneB st = false := by unfold doneB; rw [hb]; rfl
    rw [hd] at hdone
    have hq0 : q = 0 := by have := HQ.out; rw [hnil] at this; simpa using this.symm
    subst hq0
    have HD := Lib.hid hdone; clear hdone hd hnil hb
    go_wp2_with fail
    refine HL.out.mono ?_; rintro e w' ⟨rfl, rfl⟩
    go_wp2_with fail
    refine HD.out.mono ?_; rintro e w' ⟨rfl, rfl⟩
    go_wp2_with fail
    go_ret
    exact ⟨rfl, c5⟩
  · have hb' : st.bad = false := by simpa using hb
    have hg : l = (enc m.length ++ m) ++ st.l := HG.out hb'
    have hn2 : l.length - q = (enc m.length ++ m).length := by
      have := HQ.out
      rw [hg, List.length_append]; omega
    have htake : sB.extract 0 (sB.size - q) = t := by rw [← HS.out, bs_size, bs_take, hn2, ← HT.out]; congr 1; conv => lhs; rw [hg]
                                                      exact List.take_left
    have hsub : ((sB.size : Int) - q).toNat = sB.size - q := by omega
    have hs0 : (0 : Int) ≤ (sB.size : Int) - q := by omega
    have hs1 : (sB.size : Int) - q ≤ sB.size := by omega
    by_cases hq0 : q = 0
    · have hd : doneB st = true := by
        unfold doneB; rw [hb']
        have := HQ.out
        have h3 : st.l = [] := List.eq_nil_of_length_eq_zero (by omega)
        rw [h3]; rfl
      rw [hd] at hdone
      subst hq0
      have HTE : Hid (sB = t) := by
        show _ = _
        rw [← htake]; simp
      have HD := Lib.hid hdone; clear hdone hd hg hn2 hb hb' htake
      go_wp2_with fail
      refine HL.out.mono ?_; rintro e w' ⟨rfl, rfl⟩
      go_wp2_with fail
      refine HD.out.mono ?_; rintro e w' ⟨rfl, rfl⟩
      go_wp2_with fail
      refine HL.out.mono ?_; rintro e w' ⟨rfl, rfl⟩
      go_wp2_with fail
      go_ret
      exact ⟨by rw [show (t.toList == sB.toList) = true by rw [HTE.out]; simp]; rfl, c5⟩
    · have hqne : ((q : Int) == 0) = false := by simp; omega
      clear hdone hg hn2 hb hb'
      go_wp2_with fail
      refine HL.out.mono ?_; rintro e w' ⟨rfl, rfl⟩
      go_wp2_with fail
      refine HL.out.mono ?_; rintro e w' ⟨rfl, rfl⟩
      go_wp2_with fail
      go_ret
      exact ⟨rfl, c5⟩

set_option maxRecDepth 100000 in
set_option maxHeartbeats 1000000 in
theorem walk3 (l : List UInt8) (what : Int) (w : World) (hl : l.length ≤ 400) (hk : what % 5 = 3) :
    Calls Try.prog 6 #[.string (bs l), .int .i64 what] w fun e w' => e = .returned (.bool true) ∧ Below w.heap.size w w' := by
  have hsz : (bs l).size ≤ 400 := by rw [bs_size]; exact hl
  have hc := fun (g : Nat) (w : World) (h : Rd w g 59 ⟨l, false⟩) => wNums g ⟨l, false⟩ w h (by simp; omega)
  have hok := fList_ok fInt fInt_ok ⟨l, false⟩ (fun h => by cases h)
  have hgood := fList_good' fInt_good ⟨l, false⟩ (fun h => by cases h)
  have hle := fList_small fInt_len ⟨l, false⟩
  have hlt := nums_in ⟨l, false⟩
  have hlt2 := fList_length fInt ⟨l, false⟩
  obtain ⟨⟨m, st⟩, hM⟩ : ∃ x, fList fInt ⟨l, false⟩ = x := ⟨_, rfl⟩
  rw [hM] at hok hgood hle hlt hlt2
  simp only [hM] at hc
  simp only at hok hgood hle hlt hlt2
  have HC := Lib.hid hc; clear hc hM
  have HK := Lib.hid hk; clear hk
  have HG := Lib.hid hgood; clear hgood
  have HO := Lib.hid hok; clear hok
  obtain ⟨sB, hsB⟩ : ∃ s, bs l = s := ⟨_, rfl⟩
  rw [hsB] at hsz
  rw [hsB]
  have HS := Lib.hid hsB; clear hsB
  have hzz : sB.size = l.length := by rw [← HS.out, bs_size]
  have HZ := Lib.hid hzz; clear hzz
  have HI := Lib.hid hlt; clear hlt
  go_enter Try.func6, Try.ntmps6
  go_wp2_with fail
  refine (small_any _).mono ?_; rintro e w1 ⟨rfl, hB1⟩
  go_wp2_with fail
  rw [← HS.out]
  refine (wOpen l _).mono ?_; rintro e w2 ⟨rfl, hw2⟩
  rw [HS.out]
  have hr2 : Rd w2 w1.heap.size 59 ⟨l, false⟩ := by rw [hw2]; exact Rd.opened _ _ _
  have hB2 : Below w1.heap.size w1 w2 := by rw [hw2]; exact (Below.refl _ _).alloc (Nat.le_refl _) _
  have hsz2 : w1.heap.size < w2.heap.size := hr2.lt
  clear hw2
  go_wp2_with fail
  refine (kind_any what _ _ _ _ _).mono ?_; rintro e w3 ⟨rfl, hB3⟩
  rw [HK.out]
  have hr3 := hr2.below hB3 hsz2
  go_wp2_with fail
  refine (HC.out _ _ hr3).mono ?_; rintro e w4 ⟨v, rfl, ho, hr4, hg4⟩
  go_wp2_with fail
  refine (wnums _ m _ ((Row.of_own ho)) HI.out (by omega)).mono ?_; rintro e w5 ⟨rfl, hB5⟩
  have hr5 := hr4.below hB5 hr4.lt
  have c2 := hB1.trans (hB2.mono hB1.size)
  have c3 := c2.trans (hB3.mono c2.size)
  have c4 := c3.trans (Below.of_grown hg4 c3.size hB1.size)
  have c5 := c4.trans (hB5.mono c4.size)
  clear hB1 hB2 hB3 hg4 hB5 c2 c3 c4 hr2 hr3 hr4
  obtain ⟨t, ht⟩ : ∃ s, bs (encNums m) = s := ⟨_, rfl⟩
  rw [ht]
  have HT := Lib.hid ht; clear ht
  have hleft := wLeft _ _ _ hr5 (by omega)
  have hdone := wDone _ _ _ hr5
  obtain ⟨q, hq⟩ : ∃ q, st.l.length = q := ⟨_, rfl⟩
  rw [hq] at hleft
  have hqs : (q : Int) ≤ sB.size := by have := HZ.out; omega
  have HL := Lib.hid hleft; clear hleft
  have HQ := Lib.hid hq; clear hq
  by_cases hb : st.bad = true
  · have hnil := HO.out hb
    have hd : doneB st = false := by unfold doneB; rw [hb]; rfl
    rw [hd] at hdone
    have hq0 : q = 0 := by have := HQ.out; rw [hnil] at this; simpa using this.symm
    subst hq0
    have HD := Lib.hid hdone; clear hdone hd hnil hb
    go_wp2_with fail
    refine HL.out.mono ?_; rintro e w' ⟨rfl, rfl⟩
    go_wp2_with fail
    refine HD.out.mono ?_; rintro e w' ⟨rfl, rfl⟩
    go_wp2_with fail
    go_ret
    exact ⟨rfl, c5⟩
  · have hb' : st.bad = false := by simpa using hb
    have hg : l = (encNums m) ++ st.l := HG.out hb'
    have hn2 : l.length - q = (encNums m).length := by
      have := HQ.out
      rw [hg, List.length_append]; omega
    have htake : sB.extract 0 (sB.size - q) = t := by rw [← HS.out, bs_size, bs_take, hn2, ← HT.out]; congr 1; conv => lhs; rw [hg]
                                                      exact List.take_left
    have hsub : ((sB.size : Int) - q).toNat = sB.size - q := by omega
    have hs0 : (0 : Int) ≤ (sB.size : Int) - q := by omega
    have hs1 : (sB.size : Int) - q ≤ sB.size := by omega
    by_cases hq0 : q = 0
    · have hd : doneB st = true := by
        unfold doneB; rw [hb']
        have := HQ.out
        have h3 : st.l = [] := List.eq_nil_of_length_eq_zero (by omega)
        rw [h3]; rfl
      rw [hd] at hdone
      subst hq0
      have HTE : Hid (sB = t) := by
        show _ = _
        rw [← htake]; simp
      have HD := Lib.hid hdone; clear hdone hd hg hn2 hb hb' htake
      go_wp2_with fail
      refine HL.out.mono ?_; rintro e w' ⟨rfl, rfl⟩
      go_wp2_with fail
      refine HD.out.mono ?_; rintro e w' ⟨rfl, rfl⟩
      go_wp2_with fail
      refine HL.out.mono ?_; rintro e w' ⟨rfl, rfl⟩
      go_wp2_with fail
      go_ret
      exact ⟨by rw [show (t.toList == sB.toList) = true by rw [HTE.out]; simp]; rfl, c5⟩
    · have hqne : ((q : Int) == 0) = false := by simp; omega
      clear hdone hg hn2 hb hb'
      go_wp2_with fail
      refine HL.out.mono ?_; rintro e w' ⟨rfl, rfl⟩
      go_wp2_with fail
      refine HL.out.mono ?_; rintro e w' ⟨rfl, rfl⟩
      go_wp2_with fail
      go_ret
      exact ⟨rfl, c5⟩

set_option maxRecDepth 100000 in
set_option maxHeartbeats 1000000 in
theorem walk4 (l : List UInt8) (what : Int) (w : World) (hl : l.length ≤ 400) (hk : what % 5 = 4) :
    Calls Try.prog 6 #[.string (bs l), .int .i64 what] w fun e w' => e = .returned (.bool true) ∧ Below w.heap.size w w' := by
  have hsz : (bs l).size ≤ 400 := by rw [bs_size]; exact hl
  have hc := fun (g : Nat) (w : World) (h : Rd w g 59 ⟨l, false⟩) => wTexts g ⟨l, false⟩ w h (by simp; omega)
  have hok := fList_ok fText fText_ok ⟨l, false⟩ (fun h => by cases h)
  have hgood := fList_good' fText_good ⟨l, false⟩ (fun h => by cases h)
  have hle := fList_small fText_len ⟨l, false⟩
  have hlt := texts_le ⟨l, false⟩
  have hlt2 := fList_length fText ⟨l, false⟩
  obtain ⟨⟨m, st⟩, hM⟩ : ∃ x, fList fText ⟨l, false⟩ = x := ⟨_, rfl⟩
  rw [hM] at hok hgood hle hlt hlt2
  simp only [hM] at hc
  simp only at hok hgood hle hlt hlt2
  have HC := Lib.hid hc; clear hc hM
  have HK := Lib.hid hk; clear hk
  have HG := Lib.hid hgood; clear hgood
  have HO := Lib.hid hok; clear hok
  obtain ⟨sB, hsB⟩ : ∃ s, bs l = s := ⟨_, rfl⟩
  rw [hsB] at hsz
  rw [hsB]
  have HS := Lib.hid hsB; clear hsB
  have hzz : sB.size = l.length := by rw [← HS.out, bs_size]
  have HZ := Lib.hid hzz; clear hzz
  have HI := Lib.hid hlt; clear hlt
  go_enter Try.func6, Try.ntmps6
  go_wp2_with fail
  refine (small_any _).mono ?_; rintro e w1 ⟨rfl, hB1⟩
  go_wp2_with fail
  rw [← HS.out]
  refine (wOpen l _).mono ?_; rintro e w2 ⟨rfl, hw2⟩
  rw [HS.out]
  have hr2 : Rd w2 w1.heap.size 59 ⟨l, false⟩ := by rw [hw2]; exact Rd.opened _ _ _
  have hB2 : Below w1.heap.size w1 w2 := by rw [hw2]; exact (Below.refl _ _).alloc (Nat.le_refl _) _
  have hsz2 : w1.heap.size < w2.heap.size := hr2.lt
  clear hw2
  go_wp2_with fail
  refine (kind_any what _ _ _ _ _).mono ?_; rintro e w3 ⟨rfl, hB3⟩
  rw [HK.out]
  have hr3 := hr2.below hB3 hsz2
  go_wp2_with fail
  refine (HC.out _ _ hr3).mono ?_; rintro e w4 ⟨v, rfl, ho, hr4, hg4⟩
  go_wp2_with fail
  refine (wtexts _ m _ ((Row.of_own ho)) (fun s hs => Nat.le_trans (HI.out s hs) hl) (by omega)).mono ?_; rintro e w5 ⟨rfl, hB5⟩
  have hr5 := hr4.below hB5 hr4.lt
  have c2 := hB1.trans (hB2.mono hB1.size)
  have c3 := c2.trans (hB3.mono c2.size)
  have c4 := c3.trans (Below.of_grown hg4 c3.size hB1.size)
  have c5 := c4.trans (hB5.mono c4.size)
  clear hB1 hB2 hB3 hg4 hB5 c2 c3 c4 hr2 hr3 hr4
  obtain ⟨t, ht⟩ : ∃ s, bs (encTexts m) = s := ⟨_, rfl⟩
  rw [ht]
  have HT := Lib.hid ht; clear ht
  have hleft := wLeft _ _ _ hr5 (by omega)
  have hdone := wDone _ _ _ hr5
  obtain ⟨q, hq⟩ : ∃ q, st.l.length = q := ⟨_, rfl⟩
  rw [hq] at hleft
  have hqs : (q : Int) ≤ sB.size := by have := HZ.out; omega
  have HL := Lib.hid hleft; clear hleft
  have HQ := Lib.hid hq; clear hq
  by_cases hb : st.bad = true
  · have hnil := HO.out hb
    have hd : doneB st = false := by unfold doneB; rw [hb]; rfl
    rw [hd] at hdone
    have hq0 : q = 0 := by have := HQ.out; rw [hnil] at this; simpa using this.symm
    subst hq0
    have HD := Lib.hid hdone; clear hdone hd hnil hb
    go_wp2_with fail
    refine HL.out.mono ?_; rintro e w' ⟨rfl, rfl⟩
    go_wp2_with fail
    refine HD.out.mono ?_; rintro e w' ⟨rfl, rfl⟩
    go_wp2_with fail
    go_ret
    exact ⟨rfl, c5⟩
  · have hb' : st.bad = false := by simpa using hb
    have hg : l = (encTexts m) ++ st.l := HG.out hb'
    have hn2 : l.length - q = (encTexts m).length := by
      have := HQ.out
      rw [hg, List.length_append]; omega
    have htake : sB.extract 0 (sB.size - q) = t := by rw [← HS.out, bs_size, bs_take, hn2, ← HT.out]; congr 1; conv => lhs; rw [hg]
                                                      exact List.take_left
    have hsub : ((sB.size : Int) - q).toNat = sB.size - q := by omega
    have hs0 : (0 : Int) ≤ (sB.size : Int) - q := by omega
    have hs1 : (sB.size : Int) - q ≤ sB.size := by omega
    by_cases hq0 : q = 0
    · have hd : doneB st = true := by
        unfold doneB; rw [hb']
        have := HQ.out
        have h3 : st.l = [] := List.eq_nil_of_length_eq_zero (by omega)
        rw [h3]; rfl
      rw [hd] at hdone
      subst hq0
      have HTE : Hid (sB = t) := by
        show _ = _
        rw [← htake]; simp
      have HD := Lib.hid hdone; clear hdone hd hg hn2 hb hb' htake
      go_wp2_with fail
      refine HL.out.mono ?_; rintro e w' ⟨rfl, rfl⟩
      go_wp2_with fail
      refine HD.out.mono ?_; rintro e w' ⟨rfl, rfl⟩
      go_wp2_with fail
      refine HL.out.mono ?_; rintro e w' ⟨rfl, rfl⟩
      go_wp2_with fail
      go_ret
      exact ⟨by rw [show (t.toList == sB.toList) = true by rw [HTE.out]; simp]; rfl, c5⟩
    · have hqne : ((q : Int) == 0) = false := by simp; omega
      clear hdone hg hn2 hb hb'
      go_wp2_with fail
      refine HL.out.mono ?_; rintro e w' ⟨rfl, rfl⟩
      go_wp2_with fail
      refine HL.out.mono ?_; rintro e w' ⟨rfl, rfl⟩
      go_wp2_with fail
      go_ret
      exact ⟨rfl, c5⟩

set_option maxRecDepth 100000 in
theorem walk_long (l : List UInt8) (what : Int) (w : World) (hl : 400 < l.length) :
    Calls Try.prog 6 #[.string (bs l), .int .i64 what] w fun e w' => e = .returned (.bool true) ∧ Below w.heap.size w w' := by
  have hsz : 400 < (bs l).size := by rw [bs_size]; exact hl
  obtain ⟨sB, hsB⟩ : ∃ s, bs l = s := ⟨_, rfl⟩
  rw [hsB] at hsz
  rw [hsB]
  have HS := Lib.hid hsB; clear hsB
  go_enter Try.func6, Try.ntmps6
  go_wp2_with fail
  refine (small_any _).mono ?_; rintro e w1 ⟨rfl, hB1⟩
  go_wp2_with fail
  go_ret
  exact ⟨rfl, hB1⟩

theorem walk (s : ByteArray) (what : Int) (hs : s.size ≤ maxLen) (hw : (Lit.int .i64 what).wf = true) (w : World) :
    Calls Try.prog 6 #[.string s, .int .i64 what] w fun e w' => e = .returned (.bool true) ∧ Below w.heap.size w w' := by
  rw [← bs_data s]
  by_cases hl : s.data.toList.length ≤ 400
  · have : what % 5 = 0 ∨ what % 5 = 1 ∨ what % 5 = 2 ∨ what % 5 = 3 ∨ what % 5 = 4 := by omega
    rcases this with hk | hk | hk | hk | hk
    · exact walk0 _ _ _ hl hk
    · exact walk1 _ _ _ hl hk
    · exact walk2 _ _ _ hl hk
    · exact walk3 _ _ _ hl hk
    · exact walk4 _ _ _ hl hk
  · exact walk_long _ _ _ (by omega)
end wireAgain
end Go.Proofs.Ytebepofbngdccaa
