/-
  container/heap: Pop.
-/
import Derived.Test.YtobpolmlblpmjaaHeapD
namespace Go.Proofs.Ytobpolmlblpmjaa
set_option linter.unusedVariables false
set_option linter.unusedSimpArgs false
open Go.RowKit

theorem swapL_same (h : List Nat) (i : Nat) (hi : i < h.length) : swapL h i i = h := by
  unfold swapL
  rw [List.set_set]
  apply List.ext_getElem
  · simp
  · intro k h1 h2
    rw [List.getElem_set]
    split
    · rename_i e; subst e; simp [List.getD_eq_getElem?_getD, hi]
    · rfl
set_option maxHeartbeats 4000000 in
theorem swapSame {w : World} {base cap n : Nat} {A : Option Addr} {h : List Nat} (ho : OwnI w base (.slice A n cap) (zi h)) (i : Nat) (hi : i < h.length) (hl : h.length ≤ 100000) :
    Calls Try.prog 103 #[.slice A n cap, .int .i64 i, .int .i64 i] w fun e w' => e = .returned (.tuple #[]) ∧ OwnI w' base (.slice A n cap) (zi (swapL h i i)) ∧ w.grownBy w' (Value.slice A n cap).ownBlock := by
  have hn : n = h.length := by
    obtain ⟨A2, c2, e⟩ := own_slice ho
    injection e with _ e _; rw [zi_length] at e; exact e
  obtain ⟨g, rfl, c1⟩ := own_rd ho i (by rw [zi_length]; exact hi)
  have z1 : (zi h)[i]'(by rw [zi_length]; exact hi) = ((h.getD i 0 : Nat) : Int) := by simp [zi, List.getD_eq_getElem?_getD, hi]
  rw [z1] at c1
  have HS : Hid (OwnI ((w.setCell ⟨g, i, none⟩ (.int .i64 (h.getD i 0 : Nat))).setCell ⟨g, i, none⟩ (.int .i64 (h.getD i 0 : Nat))) base (.slice (some ⟨g, 0, none⟩) n cap) (zi (swapL h i i))) := Lib.hid (by
    have h1 := (ho.store i (by rw [zi_length]; exact hi) (h.getD i 0 : Nat)).store i (by rw [List.length_set, zi_length]; exact hi) (h.getD i 0 : Nat)
    have e : zi (swapL h i i) = ((zi h).set i ((h.getD i 0 : Nat) : Int)).set i ((h.getD i 0 : Nat) : Int) := by unfold swapL; rw [zi_set, zi_set]
    rw [e]; exact h1)
  have fi : w.frozen? ⟨g, i, none⟩ = false := own_free (by have := ho; unfold OwnI at this; rw [zi_length, ← hn] at this; exact this) i
  obtain ⟨a, ha⟩ : ∃ a, h.getD i 0 = a := ⟨_, rfl⟩
  rw [ha] at c1 HS
  have hi0 : (0 : Int) ≤ i := by omega
  have hin : (i : Int) < n := by omega
  clear ha z1 ho hn hi
  go_enter Try.func103, Try.ntmps103
  go_wp2_with fail
  go_region
  all_goals
    go_wp2_with fail
    go_end0
    refine ⟨rfl, ?_, ?_⟩
    · first
        | exact HS.out
        | (have h := HS.out; exact ⟨h.1, h.2⟩)
    · first
        | exact (grown_set w g i _).trans (grown_set _ g i _)
        | (have h := (grown_set w g i (.int .i64 (a : Int))).trans (grown_set _ g i (.int .i64 (a : Int))); exact ⟨h.os, h.tape, h.output, h.size, h.block⟩)
theorem swapAny {w : World} {base cap n : Nat} {A : Option Addr} {h : List Nat} (ho : OwnI w base (.slice A n cap) (zi h)) (i j : Nat) (hi : i < h.length) (hj : j < h.length) (hl : h.length ≤ 100000) :
    Calls Try.prog 103 #[.slice A n cap, .int .i64 i, .int .i64 j] w fun e w' => e = .returned (.tuple #[]) ∧ OwnI w' base (.slice A n cap) (zi (swapL h i j)) ∧ w.grownBy w' (Value.slice A n cap).ownBlock := by
  by_cases e : i = j
  · subst e; exact swapSame ho i hi hl
  · exact swapP ho i j hi hj e hl
set_option maxRecDepth 100000 in
set_option maxHeartbeats 4000000 in
theorem heapPopP {w : World} {f base hb : Nat} {sl : Value} {h : List Nat} (H : HeapAt f w base hb sl h) (hH : Heap h h.length) (h0 : 0 < h.length) (hbase : base ≤ w.heap.size) (hl : h.length ≤ 10000) :
    Calls Try.prog 35 #[.iface 48 (.pointer (some ⟨hb, 0, none⟩))] w (HPopPost f base hb h w) := by
  obtain ⟨m, hm⟩ : ∃ m, h.length = m + 1 := ⟨h.length - 1, by omega⟩
  obtain ⟨A, cap, hsl⟩ := own_slice H.own
  rw [zi_length, hm] at hsl
  subst hsl
  have hml : m ≤ 10000 := by omega
  have hm1 := m_len H.bx
  have hm2 := m_swap H.bx
  have HS := Lib.hid (swapAny H.own 0 m (by omega) (by omega) (by omega))
  have HD := Lib.hid (DownOk.start (n := m) (by rw [hm] at hH; exact hH) hm)
  have HMIN : Hid (∀ x ∈ h, h.getD 0 0 ≤ x) := Lib.hid (fun x hx => by
    obtain ⟨k, hk, rfl⟩ := List.getElem_of_mem hx
    have := hH.min k hk
    have e : h.getD k 0 = h[k] := by rw [List.getD_eq_getElem?_getD, List.getElem?_eq_getElem hk]; rfl
    rw [e] at this; exact this)
  have HG : Hid ((swapL h 0 m).getD m 0 = h.getD 0 0) := Lib.hid (by rw [swapL_get h (by omega) (by omega), if_pos rfl])
  have HP := Lib.hid (swapL_perm h (i := 0) (j := m) (by omega) (by omega))
  have HL := Lib.hid hm
  have HH := Lib.hid H
  have w1 : IntKind.i64.wrap ((m : Int) + 1 - 1) = m := by rw [IntWalk.i64_in _ (by omega)]; omega
  have w2 : (m : Int) + 1 - 1 = m := by omega
  have w3 : IntKind.i64.wrap (m : Int) = m := IntWalk.i64_in _ (by omega)
  clear H hH h0 hm hl
  go_enter Try.func35, Try.ntmps35
  go_wp2_with fail
  refine (lenP _ _ _ _).mono ?_; rintro e w4 ⟨rfl, rfl⟩
  go_wp2_with fail
  refine HS.out.mono ?_; rintro e w4 ⟨rfl, h1, h3⟩
  have H2 := HH.out.row h3 h1
  have hK2 := HKeep.row HH.out hbase h3
  have HDN := Lib.hid (downP H2 (Nat.le_trans hbase hK2.below.size) (by rw [swapL_length]; exact HL.out) HD.out hml)
  have HK2 := Lib.hid hK2
  clear hm1 hm2 HS HD H2 hK2 h1 h3 HH
  go_wp2_with fail
  refine HDN.out.mono ?_; rintro e w5 ⟨⟨b, rfl⟩, sl5, h5, H5, hh5, hp5, hg5, hK5⟩
  have hl5 : h5.length = m + 1 := by rw [hp5.length_eq, swapL_length]; exact HL.out
  have hsp := split_last hl5
  obtain ⟨t, ht⟩ : ∃ t, h5.take m = t := ⟨_, rfl⟩
  have hx : h5.getD m 0 = h.getD 0 0 := by rw [hg5]; exact HG.out
  have htk := heap_take hh5 hl5
  rw [ht] at hsp htk
  rw [hx] at hsp
  obtain ⟨x, hxx⟩ : ∃ x, h.getD 0 0 = x := ⟨_, rfl⟩
  rw [hxx] at hsp
  rw [hsp] at H5 hp5
  have htl : t.length ≤ 100000 := by rw [← ht, List.length_take]; omega
  have hm6 := m_pop ⟨hb, 0, none⟩ w5
  have HPP := Lib.hid (popP H5 htl)
  have HFP : Hid ((x :: t).Perm h) := Lib.hid ((List.perm_append_singleton x t).symm.trans (hp5.trans HP.out))
  have HTK := Lib.hid htk
  have HM : Hid (∀ y ∈ h, x ≤ y) := Lib.hid (by rw [← hxx]; exact HMIN.out)
  have HK5 := Lib.hid (HK2.out.trans hK5)
  clear HDN H5 hh5 hp5 hg5 hK5 hl5 hsp ht hx htk hxx htl HK2 HG HP HMIN
  go_wp2_with fail
  refine HPP.out.mono ?_; rintro e w6 ⟨rfl, sl6, h6, hK6⟩
  have HF : Hid (HPopPost f base hb h w (.returned (.iface 3 (.int .i64 (x : Nat)))) w6) := ⟨x, rfl, HM.out, sl6, t, h6, HTK.out, HFP.out, HK5.out.trans hK6⟩
  clear h6 hK6 HPP
  go_wp2_with fail
  go_ret
  exact HF.out
end Go.Proofs.Ytobpolmlblpmjaa
