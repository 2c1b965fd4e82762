/-
  Contract of the program's Sum.
-/
import Derived.Test.YtcekmedfphmpcaaDoorAbs
import Derived.Test.YtcekmedfphmpcaaDoorSumS
import Derived.Test.YtcekmedfphmpcaaDoorLast
import Derived.Test.YtcekmedfphmpcaaDoorShortRef
namespace Go.Proofs.YtcekmedfphmpcaaDoor
set_option linter.unusedVariables false
set_option linter.unusedSimpArgs false
open Go.RowKit

theorem absorb_window (a L : List Nat) (p : Nat) : absorb a L p = absorb a ((L.drop p).take 136) 0 := by
  unfold absorb
  congr 1
  apply List.map_congr_left
  intro i _
  by_cases h : i < 17
  · rw [if_pos h, if_pos h]
    congr 1
    unfold laneOf
    rw [List.drop_take, List.take_take, List.drop_drop, Nat.zero_add, Nat.min_eq_left (by omega)]
  · rw [if_neg h, if_neg h]
theorem nl_take (l : List UInt8) (k : Nat) : nl (l.take k) = (nl l).take k := by simp [nl, List.map_take]
theorem nl_drop (l : List UInt8) (k : Nat) : nl (l.drop k) = (nl l).drop k := by simp [nl, List.map_drop]
theorem padB_take (l : List UInt8) : (padB l).take l.length = l := by
  unfold padB
  rw [List.take_set_of_le (by omega)]
  unfold padA
  rw [List.append_assoc, List.take_left]
theorem padB_block (l : List UInt8) (m : Nat) (h : m + 136 ≤ l.length) : ((nl (padB l)).drop m).take 136 = nl ((l.drop m).take 136) := by
  rw [← nl_drop, ← nl_take]
  congr 1
  conv => rhs; rw [← padB_take l]
  rw [List.drop_take, List.take_take, Nat.min_eq_left (by omega)]
theorem padA_drop (l : List UInt8) (z m : Nat) (h : m ≤ l.length) : (padA l z).drop m = padA (l.drop m) z := by
  unfold padA
  rw [List.append_assoc, List.drop_append_of_le_length h, ← List.append_assoc]
theorem padB_drop (l : List UInt8) (q : Nat) (h : 136 * q ≤ l.length) : (padB l).drop (136 * q) = padB (l.drop (136 * q)) := by
  have hz : zs (l.drop (136 * q)) = zs l := by unfold zs; rw [List.length_drop]; omega
  unfold padB
  rw [hz, List.drop_set, if_neg (by omega), padA_drop _ _ _ h, List.length_drop]
  rw [show l.length - 136 * q + zs l = l.length + zs l - 136 * q by omega]
  congr 2
  congr 1
  unfold lat
  rw [← padA_drop _ _ _ h, nl_drop, List.getD_eq_getElem?_getD, List.getD_eq_getElem?_getD, List.getElem?_drop]
  rw [show 136 * q + (l.length + zs l - 136 * q) = l.length + zs l by omega]

def ssize : Value → Nat | .string s => s.size | _ => 0
def zeros25 : List Nat := List.replicate 25 0
def foldK (l : List UInt8) (k : Nat) : List Nat := (List.range k).foldl (fun a k => absorb a (nl (padB l)) (136 * k)) zeros25
theorem lanes_perm {a : List Nat} (h : lanes a) : lanes (permL a) := by
  unfold permL
  have hc : ∀ c ∈ consts, c < 18446744073709551616 := by decide +kernel
  revert hc
  generalize consts = cs
  intro hc
  induction cs generalizing a with
  | nil => exact h
  | cons c cs ih => exact ih (lanes_round h (hc c (by simp))) (fun x hx => hc x (by simp [hx]))
theorem lanes_absorb {a : List Nat} (h : lanes a) (l : List UInt8) (p : Nat) : lanes (absorb a (nl l) p) := by
  rw [absorb_takeIn]; exact lanes_perm (lanes_takeIn h l p 17)
theorem lanes_fold (l : List UInt8) (k : Nat) : lanes (foldK l k) := by
  induction k with
  | zero => exact ⟨by simp [foldK, zeros25], fun x hx => by have := List.eq_of_mem_replicate hx; omega⟩
  | succ k ih => unfold foldK; rw [range_foldl_succ]; exact lanes_absorb ih _ _
theorem foldK_succ (l : List UInt8) (k : Nat) : foldK l (k + 1) = absorb (foldK l k) (nl (padB l)) (136 * k) := range_foldl_succ _ _ _
theorem foldK_block (l : List UInt8) (k : Nat) (h : 136 * k + 136 ≤ l.length) : foldK l (k + 1) = absorb (foldK l k) (nl ((l.drop (136 * k)).take 136)) 0 := by
  rw [foldK_succ, absorb_window, padB_block l _ h]
theorem foldK_last (l : List UInt8) (q : Nat) (h : 136 * q ≤ l.length) (h2 : l.length < 136 * q + 136) : absorb (foldK l q) (nl (padB (l.drop (136 * q)))) 0 = sponge (padded (nl l)) := by
  have hlen : (padB l).length = 136 * q + 136 := by
    rw [padB_length]; unfold zs; omega
  unfold sponge
  rw [← padB_nl, nl_length, hlen, show (136 * q + 136) / 136 = q + 1 by omega]
  rw [show (List.range (q + 1)).foldl (fun a k => absorb a (nl (padB l)) (136 * k)) (List.replicate 25 0) = foldK l (q + 1) from rfl]
  rw [foldK_succ, absorb_window _ (nl (padB l)), ← nl_drop, padB_drop l q h, List.take_of_length_le]
  rw [nl_length, ← padB_drop l q h, List.length_drop]; omega

set_option maxRecDepth 100000 in
set_option maxHeartbeats 2000000 in
theorem sumP (l : List UInt8) (w : World) (hl : l.length ≤ 100000) (hL : Laid w) :
    Calls Tryd.prog 12 #[.string (bs l)] w fun e w' => e = .returned (.string (bs (sumB l))) ∧ Below w.heap.size w w' := by
  have hap := hL.apart (Nat.le_refl w.heap.size)
  have h0 : St (w.alloc (.cells zero25 38)) w.heap.size (foldK l 0) := ⟨38, by rw [heap_alloc_new]; rfl⟩
  have hB0 := below_new w (.cells zero25 38)
  unfold zero25 at h0 hB0
  obtain ⟨g, hg⟩ : ∃ g, w.heap.size = g := ⟨_, rfl⟩
  rw [hg] at hap h0 hB0
  have HL := Lib.hid hL; clear hL
  have HAP := Lib.hid hap; clear hap
  obtain ⟨s, hS⟩ : ∃ s, bs l = s := ⟨_, rfl⟩
  have hS2 : s = bs (l.drop (136 * 0)) := by rw [← hS]; simp
  rw [hS]
  have HS2 := Lib.hid hS2; clear hS2 hS
  go_enter Tryd.func12, Tryd.ntmps12
  go_wp2_with fail
  have HG := Lib.hid hg; clear hg
  go_loopw [0] (fun sv wl => ∃ (k : Nat) (r : ByteArray), 136 * k ≤ l.length ∧ sv = .string r ∧ r = bs (l.drop (136 * k)) ∧ St wl g (foldK l k) ∧ Below g w wl) (fun sv _ => ssize sv)
  case atStart => exact ⟨0, s, by omega, rfl, HS2.out, h0, hB0⟩
  case round =>
    obtain ⟨k, r, hk, rfl, hr, hs, hB⟩ := hrel
    have hrs : r.size = l.length - 136 * k := by rw [hr, bs_size, List.length_drop]
    have hgr : w.grownBy wr (some g) := ⟨hB.os, hB.tape, hB.output, hB.size, fun i hi _ => hB.block i (by rw [← HG.out]; exact hi)⟩
    have hLr := HL.out.grown hgr HAP.out
    have hbg := hB.size
    by_cases hlt : 136 ≤ r.size
    · have e1 : r.extract 0 136 = bs ((l.drop (136 * k)).take 136) := by rw [hr, bs_take]
      have e2 : r.extract 136 r.size = bs (l.drop (136 * (k + 1))) := by rw [hr, bs_drop, List.drop_drop]; congr 2
      have HA := Lib.hid (absP g (foldK l k) ((l.drop (136 * k)).take 136) wr hs (lanes_fold l k) (by rw [List.length_take, List.length_drop]; omega) hLr HAP.out)
      rw [← foldK_block l k (by omega), ← e1] at HA
      have E2 := Lib.hid e2; clear e2 e1
      have HRS := Lib.hid hrs; clear hrs hr
      have HGR := Lib.hid hgr; clear hgr
      have hlt' : (136 : Int) ≤ r.size := by omega
      go_wp2_with fail
      refine HA.out.mono ?_; rintro e w1 ⟨rfl, hs1, hg1⟩
      have hB1 := hB.grown hg1 (by rw [← HG.out]; exact hbg) (fun j hj => by injection hj with hj; omega)
      go_wp2_with fail
      go_roundw
      case rel => exact ⟨k + 1, _, by have := HRS.out; omega, rfl, E2.out, hs1, hB1⟩
      case measure => simp [ssize]; omega
    · have hrl : (l.drop (136 * k)).length < 136 := by rw [List.length_drop]; omega
      have HLB : Hid (∀ w, Calls Tryd.prog 24 #[.string r] w fun e w' => e = .returned (.string (bs (padB (l.drop (136 * k))))) ∧ Below w.heap.size w w') := fun w => by
        have h := lastP (l.drop (136 * k)) w hrl
        rw [← hr] at h; exact h
      have hpl : (padB (l.drop (136 * k))).length = 136 := by rw [padB_length]; unfold zs; omega
      have HLA := Lib.hid (foldK_last l k hk (by omega))
      have HPL := Lib.hid hpl; clear hpl
      have HRS := Lib.hid hrs; clear hrs hr
      have HGR := Lib.hid hgr; clear hgr
      have hlt' : ¬ (136 : Int) ≤ r.size := by omega
      go_wp2_with fail
      refine (HLB.out _).mono ?_; rintro e w1 ⟨rfl, hB1⟩
      have hs1 := hs.below hB1 hs.lt
      have hL1 := hLr.keep hB1
      have hB1' := hB.trans (hB1.mono (by rw [← HG.out]; exact hbg))
      have HA := Lib.hid (absP g (foldK l k) (padB (l.drop (136 * k))) w1 hs1 (lanes_fold l k) HPL.out hL1 HAP.out)
      rw [HLA.out] at HA
      obtain ⟨pb, hpb⟩ : ∃ pb, bs (padB (l.drop (136 * k))) = pb := ⟨_, rfl⟩
      rw [hpb] at HA
      rw [hpb]
      clear hpb
      go_wp2_with fail
      refine HA.out.mono ?_; rintro e w2 ⟨rfl, hs2, hg2⟩
      have hB2 := hB1'.grown hg2 (by rw [← HG.out]; exact hB1'.size) (fun j hj => by injection hj with hj; omega)
      have hsp : lanes (sponge (padded (nl l))) := by rw [← HLA.out]; exact lanes_absorb (lanes_fold l k) _ _
      have HSS := Lib.hid (sumS g _ w2 hs2 hsp)
      have HE : Hid (bs (outB (sponge (padded (nl l))) 4 0 0) = bs (sumB l)) := by show _ = _; rw [outB_end _ 0 (nl l) rfl]; rfl
      rw [HE.out] at HSS
      have hb2 := hB2.size
      go_wp2_with fail
      refine HSS.out.mono ?_; rintro e w3 ⟨rfl, hB3⟩
      obtain ⟨res, hres⟩ : ∃ res, bs (sumB l) = res := ⟨_, rfl⟩
      rw [hres]
      have HRR := Lib.hid hres; clear hres
      go_wp2_with fail
      go_ret
      exact ⟨by rw [HRR.out]; rfl, by rw [HG.out]; exact hB2.trans (hB3.mono (by rw [← HG.out]; exact hb2))⟩
end Go.Proofs.YtcekmedfphmpcaaDoor
