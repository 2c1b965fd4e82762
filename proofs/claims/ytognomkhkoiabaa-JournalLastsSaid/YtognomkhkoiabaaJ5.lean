/-
  Package journal: what was written is read again.
-/
import Derived.Test.YtognomkhkoiabaaJ3
import Derived.Test.YtognomkhkoiabaaJ4
namespace Go.Proofs.Ytognomkhkoiabaa
set_option linter.unusedVariables false
set_option linter.unusedSimpArgs false
open Go.RowKit

theorem num_list (n : Int) : (num n).data.toList = W1.bytesOf n 8 := by simp [num, bs]
theorem bs_list (l : List UInt8) : (bs l).data.toList = l := by simp [bs]
theorem val8_at (s : ByteArray) (p : Nat) (a r : List UInt8) (n : Int) (h : s.data.toList = a ++ (W1.bytesOf n 8 ++ r)) (hp : a.length = p) (h1 : -9223372036854775808 ≤ n) (h2 : n ≤ 9223372036854775807) : val8 s p = n := by
  unfold val8
  have e : W1.bytesAt s p 8 = W1.bytesOf n 8 := by
    unfold W1.bytesAt
    rw [h, Int.toNat_natCast, show (8 : Int).toNat = 8 from rfl, ← hp, List.drop_left, List.take_left' (W1.bytesOf_length n 8)]
  rw [e]
  have hv := W1.valOf_bytesOf 8 n true (.inr (.inr (.inr rfl))) h1 h2 (W1.fits_both8 n h1 h2)
  have e2 : ∀ g g' : Bool, ∀ l, W1.valOf 8 g l = W1.valOf 8 g' l := fun g g' l => by simp [W1.valOf]
  rw [e2 true (decide (n < 0))]
  exact hv

theorem frm_list (s : ByteArray) : (frm s).data.toList = W1.bytesOf s.size 8 ++ s.data.toList := by
  unfold frm
  rw [ByteArray.data_append, Array.toList_append, num_list]
theorem splitS_flat : ∀ (l : List ByteArray), ext l ≤ 1000000000000 → splitS (bs (flat l)) = some l
  | [], _ => splitS_nil _ rfl
  | a :: l, h => by
    have hsz : (bs (flat (a :: l))).size + 16 = ext (a :: l) := by rw [bs_size, ← flat_length (a :: l)]; omega
    have hex : ext (a :: l) = 8 + a.size + ext l := by unfold ext; simp only [List.map_cons, List.sum_cons]; omega
    have hel : 16 ≤ ext l := by unfold ext; omega
    have hl : (bs (flat (a :: l))).data.toList = W1.bytesOf a.size 8 ++ (a.data.toList ++ flat l) := by
      rw [bs_list]
      show (frm a).data.toList ++ flat l = _
      rw [frm_list, List.append_assoc]
    have hv : val8 (bs (flat (a :: l))) 0 = (a.size : Int) := val8_at _ 0 [] (a.data.toList ++ flat l) _ (by rw [hl]; rfl) rfl (by omega) (by omega)
    rw [splitS_step _ (by omega) a.size hv (by omega)]
    have e1 : (bs (flat (a :: l))).extract 8 (8 + a.size) = a := by
      apply W1.ba_ext
      rw [W1.extract_list, hl, ← List.append_assoc]
      rw [List.take_left' (by rw [List.length_append, W1.bytesOf_length, dl_len']), List.drop_left' (W1.bytesOf_length _ _)]
    have e2 : (bs (flat (a :: l))).extract (8 + a.size) (bs (flat (a :: l))).size = bs (flat l) := by
      apply W1.ba_ext
      rw [W1.extract_list, List.take_of_length_le (by rw [dl_len']; exact Nat.le_refl _), hl, ← List.append_assoc, List.drop_left' (by rw [List.length_append, W1.bytesOf_length, dl_len']), bs_list]
    rw [e1, e2, splitS_flat l (by omega)]
    rfl
theorem whl_list (l : List ByteArray) : (whl l).data.toList = W1.bytesOf (ext l) 8 ++ (W1.bytesOf l.length 8 ++ flat l) := by
  unfold whl
  rw [bs_list]
  unfold hdr
  rw [ByteArray.data_append, Array.toList_append, num_list, num_list, List.append_assoc]
/-- What whole wrote is found again, whatever stands behind it. -/
theorem parse_whole (l : List ByteArray) (more : ByteArray) (h : ext l ≤ 1000000000000) : parseS (whl l ++ more) = some l := by
  have hl : (whl l ++ more).data.toList = W1.bytesOf (ext l) 8 ++ (W1.bytesOf l.length 8 ++ (flat l ++ more.data.toList)) := by
    rw [ByteArray.data_append, Array.toList_append, whl_list]; simp [List.append_assoc]
  have hsz : (whl l ++ more).size = ext l + more.size := by rw [ByteArray.size_append, whl_size]
  have hel : 16 ≤ ext l := by unfold ext; omega
  have hle := ext_len l
  have hv : val8 (whl l ++ more) 0 = (ext l : Int) := val8_at _ 0 [] _ _ (by rw [hl]; rfl) rfl (by omega) (by omega)
  have hc : val8 (whl l ++ more) 8 = (l.length : Int) := val8_at _ 8 (W1.bytesOf (ext l) 8) (flat l ++ more.data.toList) _ hl (W1.bytesOf_length _ _) (by omega) (by omega)
  have e : (whl l ++ more).extract 16 (ext l) = bs (flat l) := by
    apply W1.ba_ext
    have hf := flat_length l
    rw [W1.extract_list, hl, ← List.append_assoc, ← List.append_assoc]
    rw [List.take_left' (by simp only [List.length_append, W1.bytesOf_length]; omega)]
    rw [List.drop_left' (by simp only [List.length_append, W1.bytesOf_length])]
    rw [bs_list]
  unfold parseS
  rw [if_neg (by omega), hv, if_neg (by omega), if_neg (by omega), Int.toNat_natCast, e, splitS_flat l h]
  show (if (l.length : Int) = _ then some l else none) = _
  rw [hc, if_pos rfl]
end Go.Proofs.Ytognomkhkoiabaa
