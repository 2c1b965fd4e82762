/-
  slices.Repeat of one number.
-/
import Derived.Test.YtmnhnighlgpjmaaGreatLib
import Derived.Laws.CopyOwn
namespace Go.Proofs.YtmnhnighlgpjmaaGreat
set_option linter.unusedVariables false
set_option linter.unusedSimpArgs false
open Go.RowKit

/-- m times a, and zeros up to n. -/
def rc (n m : Nat) (a : Int) : List Value := List.replicate m (.int .i64 a) ++ List.replicate (n - m) (.int .i64 0)
theorem rc_length (n m : Nat) (a : Int) (h : m ≤ n) : (rc n m a).length = n := by simp [rc]; omega
theorem rc_splice (n m k : Nat) (a : Int) (h : m + k ≤ n) : splice (rc n m a) m (List.replicate k (.int .i64 a)) = rc n (m + k) a := by
  unfold splice rc
  rw [List.take_left' (by simp), List.drop_append, List.drop_replicate, List.drop_replicate]
  have e1 : m - (m + (List.replicate k (Value.int .i64 a)).length) = 0 := by simp
  have e2 : n - m - (m + (List.replicate k (Value.int .i64 a)).length - (List.replicate m (Value.int .i64 a)).length) = n - (m + k) := by simp; omega
  rw [e1, e2, ← List.append_assoc, List.replicate_append_replicate]
  simp
theorem mulP (n : Nat) (hn : n ≤ 1000) (w : World) : Calls Tryz.prog 83 #[.int .u64 1, .int .u64 n] w fun e w' => e = .returned (.tuple #[.int .u64 0, .int .u64 (n : Int)]) ∧ w = w' := by
  refine (Tryz.bits_Mul 1 n (by decide) (by omega) w).mono ?_
  rintro e w' ⟨rfl, rfl⟩
  refine ⟨?_, rfl⟩
  have e1 : 1 * n / 18446744073709551616 = 0 := by omega
  have e2 : 1 * n % 18446744073709551616 = n := by omega
  rw [e1, e2]; rfl

def CopyOk (dp sp : Option Addr) (g off : Nat) (cs : List Value) (w : World) : Prop := 0 < cs.length → dp = some ⟨g, off, none⟩ ∧ ∃ ad, sp = some ad ∧ ∀ (j : Nat) (v : Value), cs[j]? = some v → w.cell? (ad.add j) = some v
theorem CopyOk.use {dp sp : Option Addr} {g off : Nat} {cs : List Value} {w : World} (h : CopyOk dp sp g off cs w) : 0 < cs.length → dp = some ⟨g, off, none⟩ ∧ ∃ ad, sp = some ad ∧ ∀ (j : Nat) (v : Value), cs[j]? = some v → w.cell? (ad.add j) = some v := h
def ReptRel (n : Nat) (a : Int) (w0 : World) (i : Value) (wl : World) : Prop := ∃ m : Nat, i = .int .i64 m ∧ m ≤ n ∧ (m = 0 → n = 0) ∧ wl.heap[w0.heap.size]? = some (.cells (rc n m a).toArray 3 (0, 0)) ∧ Below w0.heap.size w0 wl
set_option maxRecDepth 100000 in
set_option maxHeartbeats 4000000 in
theorem repeatP (b off cap n : Nat) (a : Int) (w : World) (hb : b < w.heap.size) (hc : w.cell? ⟨b, off, none⟩ = some (.int .i64 a)) (hn : n ≤ 1000) :
    Calls Tryz.prog 68 #[.slice (some ⟨b, off, none⟩) 1 cap, .int .i64 n] w fun e w' => e = .returned (.slice (some ⟨w.heap.size, 0, none⟩) n n) ∧ OwnI w' w.heap.size (.slice (some ⟨w.heap.size, 0, none⟩) n n) (List.replicate n a) ∧ Below w.heap.size w w' := by
  obtain ⟨i0, hi, hz0, hz1, hz2⟩ := info_parts infoI
  obtain ⟨w1, hmk, hown, hb1⟩ := run_mkI w n (by omega)
  have HM := Lib.hid (mulP n hn w)
  have hg1 : w1.heap[w.heap.size]? = some (.cells (rc n 0 a).toArray 3 (0, 0)) := by
    rcases hown.form with ⟨hv, _⟩ | ⟨g, cap2, cur, hv, h2, h3, h4, h5, h6, h7⟩
    · cases hv
    · injection hv with e1 e2 e3
      injection e1 with e1
      injection e1 with e1 _ _
      subst e1
      rw [h3]
      have e4 : cur = (rc n 0 a).toArray := by
        apply Array.ext'
        have e5 : cur.toList.length ≤ (List.replicate n (0 : Int)).length := by simp; omega
        rw [List.take_of_length_le e5] at h7
        rw [h7]
        simp [iv, rc]
      rw [e4]
  have hc1 := (hb1.cell (p := ⟨b, off, none⟩) hb).trans hc
  have hsz : ((Tryz.prog.info? 3).map (·.size)) = some 1 := by rw [hi]; simp [hz1]
  have HG1 := Lib.hid hg1
  have HB1 := Lib.hid hb1
  have HC1 := Lib.hid hc1
  have hn0 : (0 : Int) ≤ n := by omega
  have d1 : decide ((n : Int) < 0) = false := by rw [decide_eq_false_iff_not]; omega
  have d2 : decide ((9223372036854775807 : Int) < n) = false := by rw [decide_eq_false_iff_not]; omega
  clear hown hg1 hb1 hc1 hc
  obtain ⟨k, hk⟩ : ∃ k, min 1 n = k := ⟨_, rfl⟩
  have hk1 : k ≤ n := by omega
  have HK : Hid (k = 0 → n = 0) := Lib.hid (by omega)
  have HK2 : Hid ((List.replicate k (Value.int .i64 a)).length = Nat.min 1 n) := Lib.hid (by rw [List.length_replicate]; exact hk.symm)
  have hk2 : k ≤ 1 := by omega
  clear hk
  have HO1 : Hid (∀ k, ∀ v ∈ List.replicate k (Value.int .i64 a), v.oneCell' = true) := fun k v hv => by rw [List.eq_of_mem_replicate hv]; rfl
  have HF1 : Hid (0 + (List.replicate k (Value.int .i64 a)).length ≤ (rc n 0 a).length) := Lib.hid (by rw [rc_length n 0 a (by omega), List.length_replicate]; omega)
  have HP1 : Hid (CopyOk (some ⟨w.heap.size, 0, none⟩) (some ⟨b, off, none⟩) w.heap.size 0 (List.replicate k (Value.int .i64 a)) w1) := fun _ =>
    ⟨rfl, _, rfl, fun i v hv => by
      rw [List.getElem?_replicate] at hv
      split at hv
      · rename_i hi
        injection hv with hv; subst hv
        obtain rfl : i = 0 := by omega
        have hadd : (⟨b, off, none⟩ : Addr).add 0 = ⟨b, off, none⟩ := by unfold Addr.add; split <;> simp_all
        rw [hadd]; exact HC1.out
      · cases hv⟩
  go_enter Tryz.func68, Tryz.ntmps68
  go_wp2_with fail
  refine HM.out.mono ?_; rintro e w' ⟨rfl, rfl⟩
  go_wp2_with (with_reducible refine wpList_copy_splice rfl (.tmp 31) (.tmp 32) 33 33 rfl 3 Tryz.underlying33 hsz (some ⟨w.heap.size, 0, none⟩) (some ⟨b, off, none⟩) n n 1 cap rfl rfl w.heap.size 0 (rc n 0 a) 3 HG1.out (List.replicate k (.int .i64 a)) HK2.out HP1.out.use HF1.out (HO1.out k) w.heap.size w HB1.out (Nat.le_refl _) ?_; intro w2 hg2 hb2)
  have HG2 := Lib.hid hg2.out
  rw [show splice (rc n 0 a) 0 (List.replicate k (Value.int .i64 a)) = rc n k a from by have := rc_splice n 0 k a (by omega); rw [Nat.zero_add] at this; exact this] at HG2
  clear hg2 HG1 HB1 HP1 HF1 HK2
  have HB2 := Lib.hid hb2
  clear hb2
  go_loopw [8] (fun i wl => ReptRel n a w i wl) (fun i _ => n - (intOf i).toNat)
  case atStart => exact ⟨k, rfl, hk1, HK.out, HG2.out, HB2.out⟩
  case round =>
    obtain ⟨m, rfl, hm, hmz, hg, hB⟩ := hrel
    have HG := Lib.hid hg
    have HB := Lib.hid hB
    have HMZ := Lib.hid hmz
    clear hg hB hmz
    by_cases hlt : m < n
    · obtain ⟨j, hj⟩ : ∃ j, min m (n - m) = j := ⟨_, rfl⟩
      have hj0 : 0 < j := by have := HMZ.out; omega
      have hj1 : m + j ≤ n := by omega
      have HJ : Hid ((List.replicate j (Value.int .i64 a)).length = Nat.min m (n - m)) := Lib.hid (by rw [List.length_replicate]; exact hj.symm)
      have HP : Hid (CopyOk (some ⟨w.heap.size, m, none⟩) (some ⟨w.heap.size, 0, none⟩) w.heap.size m (List.replicate j (Value.int .i64 a)) wr.drew) := fun _ =>
        ⟨rfl, _, rfl, fun i v hv => by
          rw [List.getElem?_replicate] at hv
          split at hv
          · rename_i hi
            injection hv with hv; subst hv
            have hadd : (⟨w.heap.size, 0, none⟩ : Addr).add i = ⟨w.heap.size, i, none⟩ := by unfold Addr.add; split <;> simp_all
            rw [hadd]
            show wr.cell? _ = _
            rw [cell_of_row _ _ _ _ _ _ HG.out]
            simp only [List.getElem?_toArray]
            unfold rc
            rw [List.getElem?_append_left (by simp; omega), List.getElem?_replicate, if_pos (by omega)]
          · cases hv⟩
      have HF : Hid (m + (List.replicate j (Value.int .i64 a)).length ≤ (rc n m a).length) := Lib.hid (by rw [rc_length n m a hm, List.length_replicate]; exact hj1)
      have HGd : Hid (wr.drew.heap[w.heap.size]? = some (.cells (rc n m a).toArray 3 (0, 0))) := HG.out
      have HBd : Hid (Below w.heap.size w wr.drew) := HB.out.drew
      have HS := Lib.hid (rc_splice n m j a hj1)
      clear hj
      have s1 : (0 : Int) ≤ m := by omega
      have s2 : (m : Int) ≤ n := by omega
      have s3 : ((m : Int)).toNat = m := by omega
      have s4 : ¬ n = m := by omega
      have s5 : IntKind.i64.wrap ((m : Int) + j) = (m : Int) + j := IntWalk.i64_in _ (by omega)
      go_wp2_with fail
      first | (go_region_held3 (fun _ => True) (trivial) ((refine step_copy_splice (by rfl) (.tmp 41) (.tmp 44) 33 33 (by rfl) 3 Tryz.underlying33 hsz (some ⟨w.heap.size, m, none⟩) (some ⟨w.heap.size, 0, none⟩) (n - m) (n - m) m n (by first | rfl | simp [Act.eval, Act.put]) (by first | rfl | simp [Act.eval, Act.put]) w.heap.size m (rc n m a) 3 HGd.out (List.replicate j (.int .i64 a)) HJ.out HP.out.use HF.out (HO1.out j) w.heap.size w HBd.out (Nat.le_refl _) ?_; intro w3 hg3 hb3))) | fail
      have HG3 := Lib.hid hg3.out
      rw [HS.out] at HG3
      have HB3 := Lib.hid hb3
      clear hg3 hb3
      go_wp2_with fail
      go_roundw
      case rel => exact ⟨m + j, by go_num, hj1, by omega, HG3.out, HB3.out⟩
      case measure => simp [intOf]; omega
    · have hmn : m = n := by omega
      have HF : Hid (OwnI wr w.heap.size (.slice (some ⟨w.heap.size, 0, none⟩) n n) (List.replicate n a)) := by
        have h := HG.out
        rw [hmn] at h
        refine ⟨by simp [iv], .inr ⟨w.heap.size, n, _, by rw [List.length_replicate], Nat.le_refl _, h, by simp, by unfold maxLen; omega, by simp [rc], ?_⟩⟩
        simp [rc, iv]
      have hge : ¬ ((m : Int) < n) := by omega
      clear hmn
      go_wp2_with fail
      go_ret
      exact ⟨rfl, HF.out, HB.out⟩
end Go.Proofs.YtmnhnighlgpjmaaGreat
