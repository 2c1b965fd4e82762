/-
  Layer 7: what stands behind the rows does not matter.
-/
import Derived.Test.YtognomkhkoiabaaJ21
namespace Go.Proofs.Ytognomkhkoiabaa
set_option linter.unusedVariables false
set_option linter.unusedSimpArgs false
open Go.RowKit

theorem val8_app (s more : ByteArray) (p : Nat) (h : p + 8 ≤ s.size) : val8 (s ++ more) p = val8 s p := by
  have hl : s.data.toList.length = s.size := dl_len' s
  unfold val8 W1.bytesAt
  rw [ByteArray.data_append, Array.toList_append, Int.toNat_natCast, List.drop_append_of_le_length (by omega), show (8 : Int).toNat = 8 from rfl, List.take_append_of_le_length (by rw [List.length_drop]; omega)]
theorem extract_app (s more : ByteArray) (a n : Nat) (h : n ≤ s.size) : (s ++ more).extract a n = s.extract a n := by
  have hl : s.data.toList.length = s.size := dl_len' s
  apply W1.ba_ext
  rw [W1.extract_list, W1.extract_list, ByteArray.data_append, Array.toList_append, List.take_append_of_le_length (by omega)]
theorem parse_more (s more : ByteArray) (l : List ByteArray) (h16 : 16 ≤ s.size) (h : parseS s = some l) : parseS (s ++ more) = some l := by
  have hsz : (s ++ more).size = s.size + more.size := ByteArray.size_append
  unfold parseS at h ⊢
  rw [if_neg (by omega)] at h
  rw [if_neg (by omega), val8_app s more 0 (by omega), val8_app s more 8 (by omega)]
  by_cases h0 : val8 s 0 = 0
  · rw [if_pos h0] at h ⊢; exact h
  · rw [if_neg h0] at h ⊢
    by_cases h1 : val8 s 0 < 16 ∨ (s.size : Int) < val8 s 0
    · rw [if_pos h1] at h; cases h
    · rw [if_neg h1] at h
      rw [if_neg (by omega), extract_app s more 16 _ (by omega)]
      exact h
theorem pput_end (d x : List UInt8) : pput d d.length x = d ++ x := by
  apply List.ext_getElem?
  intro k
  rw [pput_get]
  by_cases h : k < d.length
  · rw [if_pos h, if_pos h, List.getElem?_append_left h]
  · rw [if_neg h, List.getElem?_append_right (by omega)]
    by_cases h2 : k < d.length + x.length
    · rw [if_pos h2]
    · rw [if_neg h2, List.getElem?_eq_none (l := x) (by omega)]
      exact List.getElem?_eq_none (by omega)
/-- A write at the end of a file. -/
theorem bytes_app {s : Dk} {f : Nat} {t : ByteArray} (x : ByteArray) (h : s.bytes f = t) : ({ s with pend := s.pend ++ pcs f x.size t.size x } : Dk).bytes f = t ++ x := by
  unfold Dk.bytes at h ⊢
  show bs (fileL (s.d f).data.toList (s.pend ++ pcs f x.size t.size x) f) = t ++ x
  rw [fileL_append]
  have hl : fileL (s.d f).data.toList s.pend f = t.data.toList := by rw [← h, bs_list]
  rw [hl]
  by_cases h0 : x.size = 0
  · rw [pcs_none f x h0, fileL_nil, bs_data, ba_nil h0]
    apply W1.ba_ext
    rw [ByteArray.data_append, Array.toList_append]; simp [bs]
  · rw [fileL_pcs0 f _ x _ (by omega), ← dl_len' t, pput_end]
    apply W1.ba_ext
    rw [ByteArray.data_append, Array.toList_append, bs_list]
theorem calm0 : Calm dk0 := ⟨rfl, rfl⟩
theorem write0 (f : Nat) (hf : f < 8) (s : ByteArray) (hs : s.size ≤ 16777216) : dk0.write f 0 s = (0, { dk0 with pend := pcs f s.size 0 s }) := by
  have := Calm.write calm0 (f := f) (a := 0) s hf (by omega)
  simpa [dk0] using this
theorem bytes0 (f : Nat) (hf : f < 8) (s : ByteArray) : ({ dk0 with pend := pcs f s.size 0 s } : Dk).bytes f = s := by
  unfold Dk.bytes
  show bs (fileL (dk0.d f).data.toList (pcs f s.size 0 s) f) = s
  rw [dk0_d, bs_list, fileL_new]
theorem own_heapJ {w w' : World} {base sz n : Nat} {e : TypeId} {v : Value} {xs : List Value} (h : w.ownsRow base e sz v n xs) (hb : ∀ k, v.ownBlock = some k → k < w.heap.size → w'.heap[k]? = w.heap[k]?) : w'.ownsRow base e sz v n xs := by
  refine ⟨h.1, ?_⟩
  rcases h.2 with h | ⟨g, cap, cur, rfl, h2, h3, r⟩
  · exact .inl h
  · exact .inr ⟨g, cap, cur, rfl, h2, (hb g rfl (Array.getElem?_eq_some_iff.1 h3).1).trans h3, r⟩
theorem own_belowJ {w w' : World} {base sz n : Nat} {e : TypeId} {v : Value} {xs : List Value} (h : w.ownsRow base e sz v n xs) (hb : Below w.heap.size w w') : w'.ownsRow base e sz v n xs := own_heapJ h fun k _ hk => hb.block k hk
def WT (W w1 : World) (d n : Nat) (r : Int × Dk) (e : Ending) (w2 : World) : Prop := e = .returned (.int .i64 r.1) ∧ Dsk W w2 d r.2 ∧ ∀ k, k < w1.heap.size → n ≤ k → w2.heap[k]? = w1.heap[k]?
/-- A write of a disk that is known to lie in older memory. -/
theorem dWriteT {W w1 : World} {d n : Nat} {s : Dk} (ht : DiskAt (fun k => W.heap.size ≤ k ∧ k < n) w1 d s) (hb : Below W.heap.size W w1) (f a : Int) (t : ByteArray) (hn : s.pend.length + t.size ≤ 1000000) :
    Calls Try.prog 28 #[.pointer (some ⟨d, 0, none⟩), .int .i64 f, .int .i64 a, .string t] w1 (WT W w1 d n (s.write f a t)) :=
  (writeP ht f a t hn).mono fun e w2 ⟨he, ho⟩ => ⟨he, Dsk.op (s := s) ⟨ht.mono fun k _ h => h.1, hb⟩ (ho.mono fun k _ h => h.1), fun k hk hnk => ho.fr.block k hk fun h => by have := h.2; omega⟩
end Go.Proofs.Ytognomkhkoiabaa
