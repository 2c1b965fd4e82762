/-
  Package isa: the first word of a line, and the operands behind it.
-/
import Derived.Test.YtmnhnighlgpjmaaDoorI7
import Derived.WalkSmall
namespace Go.Proofs.YtmnhnighlgpjmaaDoor
set_option linter.unusedVariables false
set_option linter.unusedSimpArgs false
open Go.RowKit

theorem arr_take (t : ByteArray) (k : Nat) : t.extract 0 k = arr (t.data.toList.take k) := by
  apply W1.ba_ext; rw [W1.extract_list]; simp [arr]
theorem arr_drop (t : ByteArray) (k : Nat) : t.extract k t.size = arr (t.data.toList.drop k) := by
  apply W1.ba_ext; rw [W1.extract_list, List.take_of_length_le (by simp)]; rfl

set_option maxHeartbeats 1000000 in
theorem cutNameP (s : ByteArray) (w : World) (hs : s.size ≤ 9223372036854775807) (hI : IdxAny (arr (Lib.trimS s.data.toList blk))) :
    Calls Tryd.prog 20 #[.string s] w fun e w' => e = .returned (.tuple #[.string (arr (wordOf s.data.toList)), .string (arr (restOf s.data.toList))]) ∧ Below w.heap.size w w' := by
  obtain ⟨nm, hnm⟩ : ∃ nm, wordOf s.data.toList = nm := ⟨_, rfl⟩
  obtain ⟨rs, hrs⟩ : ∃ rs, restOf s.data.toList = rs := ⟨_, rfl⟩
  rw [hnm, hrs]
  have HT := Lib.hid (trimP s w hs)
  obtain ⟨l, hl⟩ : ∃ l, Lib.trimS s.data.toList blk = l := ⟨_, rfl⟩
  rw [hl] at HT hI
  have hx := indexAny_take l
  have hw1 := take_word l (!isBl ·)
  have hw2 := drop_word l (!isBl ·)
  unfold wordOf at hnm
  unfold restOf at hrs
  rw [hl] at hnm hrs
  rw [hnm] at hw1 hx
  rw [hrs] at hw2
  rw [hnm] at hw2
  obtain ⟨t, ht⟩ : ∃ t, arr l = t := ⟨_, rfl⟩
  have hts : t.size = l.length := by rw [← ht]; rfl
  have htl : t.data.toList = l := by rw [← ht]; rfl
  rw [ht] at HT hI
  by_cases hlt : nm.length < l.length
  · have e1 : t.extract 0 nm.length = arr nm := by rw [arr_take, htl, hw1]
    have e2 : t.extract nm.length t.size = arr rs := by rw [arr_drop, htl, hw2]
    rw [if_pos hlt] at hx
    have hx2 : Lib.indexAny t.data.toList blk = (nm.length : Int) := by rw [htl, hx]
    have HI : Hid (∀ w, Calls Tryd.prog 47 #[.string t, .string ⟨#[32, 9]⟩] w fun e w' => e = .returned (.int .i64 (nm.length : Nat)) ∧ Below w.heap.size w w') := Lib.hid (fun w => by have := hI w; rw [hx2] at this; exact this)
    obtain ⟨k, hk⟩ : ∃ k, nm.length = k := ⟨_, rfl⟩
    rw [hk] at HI e1 e2 hlt
    have hkt : k ≤ t.size := by omega
    have hmax : t.size ≤ 9223372036854775807 := by
      have h1 := trimS_le s.data.toList
      rw [hl] at h1
      have : s.data.toList.length = s.size := by simp
      omega
    have E1 := Lib.hid e1
    have E2 := Lib.hid e2
    clear e1 e2 hx hx2 hI hw1 hw2 htl hts ht hl hnm hrs hk hlt
    go_enter Tryd.func20, Tryd.ntmps20
    go_wp2_with fail
    refine HT.out.mono ?_; rintro e w2 ⟨rfl, hb⟩
    have HB := Lib.hid hb; clear hb
    go_wp2_with fail
    refine (HI.out _).mono ?_; rintro e w3 ⟨rfl, hb⟩
    have HB2 := Lib.hid hb; clear hb
    go_wp2_with fail
    go_quiet (fail)
    go_wp2_with fail
    go_ret2
    exact ⟨by rw [← E1.out, ← E2.out]; rfl, below_drewN (HB.out.trans (HB2.out.mono HB.out.size)) _⟩
  · rw [if_neg hlt] at hx
    have hx2 : Lib.indexAny t.data.toList blk = -1 := by rw [htl, hx]
    have HI : Hid (∀ w, Calls Tryd.prog 47 #[.string t, .string ⟨#[32, 9]⟩] w fun e w' => e = .returned (.int .i64 (-1)) ∧ Below w.heap.size w w') := Lib.hid (fun w => by have := hI w; rw [hx2] at this; exact this)
    have hle : nm.length ≤ l.length := by
      have := congrArg List.length hw1
      rw [List.length_take] at this; omega
    have hn : nm = l := by rw [← hw1, List.take_of_length_le (by omega)]
    have hr : rs = [] := by rw [← hw2, List.drop_of_length_le (by omega)]
    have E1 := Lib.hid (show arr nm = t by rw [hn, ht])
    have E2 := Lib.hid (show arr rs = ⟨#[]⟩ by rw [hr]; rfl)
    clear hx hx2 hI hw1 hw2 htl hts ht hl hnm hrs hlt hle hn hr
    go_enter Tryd.func20, Tryd.ntmps20
    go_wp2_with fail
    refine HT.out.mono ?_; rintro e w2 ⟨rfl, hb⟩
    have HB := Lib.hid hb; clear hb
    go_wp2_with fail
    refine (HI.out _).mono ?_; rintro e w3 ⟨rfl, hb⟩
    have HB2 := Lib.hid hb; clear hb
    go_wp2_with fail
    go_ret2
    exact ⟨by rw [E1.out, E2.out]; rfl, HB.out.trans (HB2.out.mono HB.out.size)⟩
end Go.Proofs.YtmnhnighlgpjmaaDoor
