/-
  The reference of layer 6: bytes of a slice made of a string; Put.
-/
import Derived.Test.YtcfngdlgllanhaaDl0
import Derived.Laws.IdiomStrings
import Derived.Maps.AppendAt
import Derived.Lib.SlFresh
namespace Go.Proofs.Ytcfngdlgllanhaa
set_option linter.unusedVariables false
set_option linter.unusedSimpArgs false
open Go.RowKit

theorem infoU8 : (Try.prog.info? 5).map (fun i => (i.zero, i.size, i.bytes)) = some (some (.int .u8 0), 1, 1) := by kernel_rfl
theorem cl_get (l : List UInt8) (i : Nat) : (cl l)[i]? = l[i]?.map fun b => Value.int .u8 (b.toNat : Int) := by unfold cl; rw [List.getElem?_map]
theorem cl_set (l : List UInt8) (i : Nat) (x : UInt8) : cl (l.set i x) = (cl l).set i (.int .u8 (x.toNat : Int)) := by unfold cl; rw [List.map_set]
/-- A slice value of bytes of its own, whatever mark its row bears. -/
structure BB (w : World) (base : Nat) (v : Value) (l : List UInt8) : Prop where
  ex : ∃ g cap cur fz, v = .slice (some ⟨g, 0, none⟩) l.length cap ∧ base ≤ g ∧ w.heap[g]? = some (.cells cur 5 fz) ∧ (fz = (0, 0) ∨ fz = (cap, cap + 1)) ∧ l.length ≤ cap ∧ cap ≤ maxLen ∧ cur.size = cap ∧ cur.toList.take l.length = cl l
theorem bb_new (w : World) (s : ByteArray) (hs : s.size ≤ maxLen) : ∃ cap W0, (convert 9 68 (.string s)).run Try.prog w = .ok (.slice (some ⟨w.heap.size, 0, none⟩) s.size cap) W0 ∧ BB W0 w.heap.size (.slice (some ⟨w.heap.size, 0, none⟩) s.size cap) s.data.toList ∧ Below w.heap.size w W0 := by
  have hge := grownCap_ge w s.size 0 5
  have hle := grownCap_le_maxLen w s.size 0 5 hs
  refine ⟨_, _, run_bytes_of_string (P := Try.prog) w 9 68 5 s Try.underlying9 Try.underlying68 Try.underlying5, ?_, ?_⟩
  · have hsz : (bytesRow s (grownCap w s.size 0 5)).size = grownCap w s.size 0 5 := by
      unfold bytesRow
      rw [Array.size_append, Array.size_map, Array.size_replicate]
      show s.size + _ = _
      omega
    refine ⟨w.heap.size, grownCap w s.size 0 5, _, _, by rw [dl_len], Nat.le_refl _, heap_alloc_new w.drew _, .inr (by rw [hsz]), by rw [dl_len]; exact hge, hle, hsz, ?_⟩
    unfold bytesRow
    rw [Array.toList_append, dl_len]
    have : (s.data.map fun b => Value.int .u8 (b.toNat : Int)).toList.length = s.size := by rw [Array.length_toList, Array.size_map]; rfl
    rw [List.take_append_of_le_length (by rw [this]; exact Nat.le_refl _), List.take_of_length_le (by rw [this]; exact Nat.le_refl _), Array.toList_map]
    rfl
  · exact ((Below.refl w.heap.size w).drew).alloc (Nat.le_refl _) _
theorem BB.at {w : World} {base n cap g : Nat} {l : List UInt8} (h : BB w base (.slice (some ⟨g, 0, none⟩) n cap) l) (k : Nat) (hk : k < l.length) :
    w.cell? ⟨g, k, none⟩ = some (.int .u8 (l[k].toNat : Int)) ∧ w.frozen? ⟨g, k, none⟩ = false := by
  obtain ⟨g', cap', cur, fz, hv, h1, h2, h3, h4, h5, h6, h7⟩ := h
  injection hv with e1 e2 e3
  injection e1 with e1
  injection e1 with e1 _ _
  subst e1; subst e3
  constructor
  · have hc : cur[k]? = some (.int .u8 (l[k].toNat : Int)) := by
      have : (cur.toList.take l.length)[k]? = cur.toList[k]? := by rw [List.getElem?_take, if_pos hk]
      rw [← Array.getElem?_toList, ← this, h7, cl_get, List.getElem?_eq_getElem hk]; rfl
    unfold World.cell?
    simp only [h2]
    exact hc
  · unfold World.frozen?
    simp only [h2]
    rcases h3 with rfl | rfl
    · simp
    · simp only [Bool.and_eq_false_iff, decide_eq_false_iff_not]
      left; omega
theorem BB.form {w : World} {base : Nat} {v : Value} {l : List UInt8} (h : BB w base v l) : ∃ g cap, v = .slice (some ⟨g, 0, none⟩) l.length cap ∧ base ≤ g ∧ l.length ≤ cap := by
  obtain ⟨g, cap, cur, fz, hv, h1, h2, h3, h4, _⟩ := h
  exact ⟨g, cap, hv, h1, h4⟩
theorem heap_setCell_any (w : World) (g i : Nat) (cs : Array Value) (t : TypeId) (fz : Nat × Nat) (v : Value) (hg : w.heap[g]? = some (.cells cs t fz)) : (w.setCell ⟨g, i, none⟩ v).heap[g]? = some (.cells (cs.setIfInBounds i v) t fz) := by
  rw [setCell_eq_setRow w g i cs t fz v hg]
  exact setRow_heap w g cs _ t _ hg
theorem BB.store {w : World} {base n cap g : Nat} {l : List UInt8} (h : BB w base (.slice (some ⟨g, 0, none⟩) n cap) l) (k : Nat) (x : UInt8) : BB (w.setCell ⟨g, k, none⟩ (.int .u8 (x.toNat : Int))) base (.slice (some ⟨g, 0, none⟩) n cap) (l.set k x) ∧ base ≤ g := by
  obtain ⟨g', cap', cur, fz, hv, h1, h2, h3, h4, h5, h6, h7⟩ := h
  injection hv with e1 e2 e3
  injection e1 with e1
  injection e1 with e1 _ _
  subst e1; subst e3
  refine ⟨⟨g, cap, _, fz, by rw [List.length_set, e2], h1, heap_setCell_any w g k cur _ fz _ h2, h3, by rw [List.length_set]; exact h4, h5, by simpa using h6, ?_⟩, h1⟩
  rw [List.length_set, cl_set, Array.toList_setIfInBounds, List.take_set, h7]
theorem BB.conv {w : World} {base n cap g : Nat} {l : List UInt8} (h : BB w base (.slice (some ⟨g, 0, none⟩) n cap) l) : (convert 68 9 (.slice (some ⟨g, 0, none⟩) n cap)).run Try.prog w = .ok (.string (bs l)) w := by
  obtain ⟨g', cap', hv, _⟩ := h.form
  injection hv with _ e2 _
  subst e2
  refine run_convert_bytes_back (P := Try.prog) w 68 9 5 ⟨g, 0, none⟩ cap l Try.underlying68 Try.underlying5 Try.underlying9 fun j hj => ?_
  rw [Addr.add_lit, Nat.zero_add]
  exact (h.at j hj).1
set_option maxRecDepth 100000 in
theorem BB.push {w : World} {base b : Nat} {v : Value} {l : List UInt8} (x : UInt8) (h : BB w base v l) (hb : base ≤ w.heap.size) (hl : l.length < 100000000) (hc : w.cell? ⟨b, 0, none⟩ = some (.int .u8 (x.toNat : Int))) :
    ∃ v' w', (Builtin.append_ #[68, 68] 68 #[v, .slice (some ⟨b, 0, none⟩) 1 1]).run Try.prog w = .ok v' w' ∧ BB w' base v' (l ++ [x]) ∧ Below base w w' := by
  obtain ⟨i0, hi, hz0, hz1, hz2⟩ := info_parts infoU8
  have h0 := h
  obtain ⟨g, cap, cur, fz, rfl, h1, h2, h3, h4, h5, h6, h7⟩ := h
  have hnews : ∀ j u, ([.int .u8 (x.toNat : Int)] : List Value)[j]? = some u → w.cell? ((⟨b, 0, none⟩ : Addr).add j) = some u := fun j u hu => by
    cases j with
    | zero =>
      simp at hu
      subst hu
      rw [Addr.add_lit]; exact hc
    | succ j => simp at hu
  by_cases hroom : l.length + 1 ≤ cap
  · have hf := run_firstCells_some (P := Try.prog) w 1 1 ⟨b, 0, none⟩ 1 1 [.int .u8 (x.toNat : Int)] rfl hnews
    have hcell : ∃ y, w.cell? ⟨g, l.length, none⟩ = some y := by
      refine ⟨cur[l.length]'(by omega), ?_⟩
      unfold World.cell?
      simp only [h2]
      exact Array.getElem?_eq_getElem (by omega)
    obtain ⟨y, hy⟩ := hcell
    have hfro : w.frozen? ⟨g, l.length, none⟩ = false := by
      unfold World.frozen?
      simp only [h2]
      rcases h3 with rfl | rfl
      · simp
      · simp only [Bool.and_eq_false_iff, decide_eq_false_iff_not]
        left; omega
    have hst1 : (Go.store ⟨g, l.length, none⟩ (.int .u8 (x.toNat : Int))).run Try.prog w = .ok () (w.setCell ⟨g, l.length, none⟩ (.int .u8 (x.toNat : Int))) := by
      rw [run_store Try.prog w _ _ _ rfl, hy]
      simp [hfro]
    have hst : (storeCells ⟨g, l.length, none⟩ [.int .u8 (x.toNat : Int)]).run Try.prog w = .ok () (w.setCell ⟨g, l.length, none⟩ (.int .u8 (x.toNat : Int))) := by
      have e0 : (⟨g, l.length, none⟩ : Addr).add 0 = ⟨g, l.length, none⟩ := by rw [Addr.add_lit, Nat.add_zero]
      simp only [storeCells, Sem.run_bind, e0, hst1, Result.andThen_ok, Sem.run_pure]
    refine ⟨.slice (some ⟨g, 0, none⟩) (l.length + 1) cap, _, ?_, ?_, (Below.refl base w).setCell (p := ⟨g, l.length, none⟩) h1 (.int .u8 (x.toNat : Int))⟩
    · simp [Builtin.append_, run_underlying (P := Try.prog) Try.underlying68, sizeOf, typeInfo, hi, hz1, Builtin.lenOf, hroom, hf, Addr.add_lit, hst]
    · refine ⟨g, cap, _, fz, by simp, h1, heap_setCell_any w g l.length cur _ fz _ h2, h3, by simpa using hroom, h5, by simpa using h6, ?_⟩
      have hcl : l.length < cur.toList.length := by rw [Array.length_toList (xs := cur)]; omega
      rw [List.length_append, cl_append, Array.toList_setIfInBounds, List.length_singleton, List.take_set, List.take_succ_eq_append_getElem hcl, h7]
      have : (cl l).length = l.length := cl_length l
      rw [List.set_append_right _ _ (by omega), this, Nat.sub_self]
      rfl
  · have hr := run_append_grow (P := Try.prog) w 68 68 5 i0 (.int .u8 0) Try.underlying68 hi hz0 ⟨g, 0, none⟩ l.length cap (cl l) (by rw [hz1, cl_length]; omega) (fun j u hu => by
      rw [cl_get] at hu
      by_cases hj : j < l.length
      · rw [List.getElem?_eq_getElem hj] at hu
        simp only [Option.map_some, Option.some.injEq] at hu
        rw [Addr.add_lit, Nat.zero_add, ← hu]
        exact (h0.at j hj).1
      · rw [List.getElem?_eq_none (by omega)] at hu; simp at hu) ⟨b, 0, none⟩ 1 1 [.int .u8 (x.toNat : Int)] (by rw [hz1]; rfl) hnews (by omega) (by omega) (growslice_fits (by omega) (by rw [hz2]; omega))
    have hge := grownCap_ge w (l.length + 1) cap 5
    have hle := grownCap_le_maxLen w (l.length + 1) cap 5 (by unfold maxLen; omega)
    refine ⟨_, _, hr, ?_, ((Below.refl base w).drew).alloc hb _⟩
    refine ⟨w.heap.size, _, _, (0, 0), by simp, hb, heap_alloc_new w.drew _, .inl rfl, by simpa using hge, hle, ?_, ?_⟩
    · simp only [Array.size_append, List.size_toArray, size_zeroCells, cl_length, List.length_singleton]
      show l.length + 1 + (grownCap w (l.length + 1) cap 5 - (l.length + 1)) * 1 = _
      omega
    · simp only [Array.toList_append, List.append_assoc]
      rw [← List.append_assoc, cl_append]
      have e : (l ++ [x]).length = (cl l ++ [Value.int .u8 (x.toNat : Int)]).length := by simp [cl]
      rw [e]
      exact List.take_left
/-- Bytes padded to n, with t stored from a on. -/
theorem spl_put (s : List UInt8) (a : Nat) (t : List UInt8) : spl (padL (a + t.length) s) a t = pput s a t := by
  by_cases h : s.length ≤ a + t.length
  · rw [pad_put _ _ _ _ h (Nat.le_refl _)]
    have hl := pput_length s a t
    have : a + t.length = (pput s a t).length := by rw [hl]; omega
    rw [this, padL_full]
  · have e : padL (a + t.length) s = s := by unfold padL; rw [show a + t.length - s.length = 0 by omega]; simp
    rw [e]
    unfold spl pput
    rw [show a - s.length = 0 by omega]
    simp
theorem spl_nil (L : List UInt8) (a : Nat) : spl L a [] = L := by unfold spl; simp
theorem spl_length (L : List UInt8) (a : Nat) (t : List UInt8) (h : a + t.length ≤ L.length) : (spl L a t).length = L.length := by
  unfold spl; simp only [List.length_append, List.length_take, List.length_drop]; omega
theorem spl_step (L : List UInt8) (a : Nat) (t : List UInt8) (i : Nat) (hi : i < t.length) (h : a + t.length ≤ L.length) : (spl L a (t.take i)).set (a + i) t[i] = spl L a (t.take (i + 1)) := by
  apply List.ext_getElem?
  intro k
  have h1 : (t.take i).length = i := by rw [List.length_take]; omega
  have h2 : (t.take (i + 1)).length = i + 1 := by rw [List.length_take]; omega
  have hl := spl_length L a (t.take i) (by omega)
  rw [List.getElem?_set, spl_get _ _ _ (by omega), spl_get _ _ _ (by omega), h1, h2, hl]
  by_cases hk : a + i = k
  · subst hk
    rw [if_pos rfl, if_pos (by omega), if_neg (by omega), if_pos (by omega), Nat.add_sub_cancel_left, List.getElem?_take, if_pos (by omega), List.getElem?_eq_getElem hi]
  · rw [if_neg hk]
    by_cases h3 : k < a
    · rw [if_pos h3, if_pos h3]
    · rw [if_neg h3, if_neg h3]
      by_cases h4 : k < a + i
      · rw [if_pos h4, if_pos (by omega), List.getElem?_take, List.getElem?_take, if_pos (by omega), if_pos (by omega)]
      · rw [if_neg h4, if_neg (by omega)]
theorem ba_get (t : ByteArray) (i : Nat) (h : i < t.size) : t[i] = t.data.toList[i]'(by rw [dl_len]; exact h) := by
  rw [Array.getElem_toList]; rfl
def PadR (s : List UInt8) (n : Nat) (w : World) (b : Value) (wl : World) : Prop := ∃ k : Nat, BB wl w.heap.size b (s ++ List.replicate k 0) ∧ (k = 0 ∨ s.length + k ≤ n) ∧ Below w.heap.size w wl
def StoR (L : List UInt8) (a : Nat) (t : List UInt8) (w : World) (b i : Value) (wl : World) : Prop := ∃ k : Nat, i = .int .i64 k ∧ k ≤ t.length ∧ BB wl w.heap.size b (spl L a (t.take k)) ∧ Below w.heap.size w wl
def slN : Value → Nat
  | .slice _ n _ => n
  | _ => 0
def PutPost (s : ByteArray) (a : Nat) (t : ByteArray) (w : World) (e : Ending) (w' : World) : Prop := e = .returned (.string (bs (pput s.data.toList a t.data.toList))) ∧ Below w.heap.size w w'
set_option maxRecDepth 100000 in
set_option maxHeartbeats 4000000 in
theorem putP (s : ByteArray) (a : Nat) (t : ByteArray) (w : World) (hs : s.size ≤ 16777216) (ht : a + t.size ≤ 16777216) :
    Calls Try.prog 58 #[.string s, .int .i64 a, .string t] w (PutPost s a t w) := by
  obtain ⟨cap0, W0, hcv, hbb, hB0⟩ := bb_new w s (by unfold maxLen; omega)
  have HBB := Lib.hid hbb
  have HB0 := Lib.hid hB0
  have hsl : s.data.toList.length = s.size := dl_len s
  have htl : t.data.toList.length = t.size := dl_len t
  obtain ⟨S, hS⟩ : ∃ S, s.data.toList = S := ⟨_, rfl⟩
  rw [hS] at HBB hsl
  have HSL := Lib.hid hsl
  have HTL := Lib.hid htl
  have HSS := Lib.hid hS
  have hsb : S.length ≤ 16777216 := by omega
  have hat : (a : Int) + (t.size : Int) ≤ 16777216 := by omega
  clear hbb hB0 hS hsl htl
  go_enter Try.func58, Try.ntmps58
  go_wp2_with fail
  clear hcv
  go_loopw [7] (fun b wl => PadR S (a + t.size) w b wl) (fun b _ => a + t.size - slN b)
  case atStart => exact ⟨0, by rw [List.replicate_zero, List.append_nil]; exact HBB.out, .inl rfl, HB0.out⟩
  case round =>
    clear HBB HB0
    obtain ⟨k, hbb, hk, hB⟩ := hrel
    obtain ⟨g, cap, rfl, hg, _⟩ := hbb.form
    obtain ⟨n, hn⟩ : ∃ n, S.length + k = n := ⟨_, rfl⟩
    have hll : (S ++ List.replicate k (0 : UInt8)).length = n := by simp; exact hn
    rw [hll] at hbb
    rw [hll]
    have HN := Lib.hid hn
    have hnb : n ≤ 33554432 := by rcases hk with rfl | hk <;> omega
    clear hn
    by_cases hlt : n < a + t.size
    · have hb0 := below_new wr (.cells #[.int .u8 0] 5)
      have hbb1 : BB (wr.alloc (.cells #[.int .u8 0] 5)) w.heap.size (.slice (some ⟨g, 0, none⟩) n cap) (S ++ List.replicate k 0) := by
        obtain ⟨g', cap', cur, fz, hv, h1, h2, r⟩ := hbb
        exact ⟨g', cap', cur, fz, hv, h1, (hb0.block g' (Array.getElem?_eq_some_iff.1 h2).1).trans h2, r⟩
      obtain ⟨v', w3, hrun, hbb3, hB3⟩ := hbb1.push (b := wr.heap.size) 0 (Nat.le_trans hB.size (by simp)) (by rw [hll]; omega) ((Blk.new wr 5 #[.int .u8 0]).cell 0)
      have hrep : S ++ List.replicate k (0 : UInt8) ++ [0] = S ++ List.replicate (k + 1) 0 := by
        rw [List.append_assoc, List.replicate_succ']
      rw [hrep] at hbb3
      obtain ⟨g3, cap3, rfl, _⟩ := hbb3.form
      have hl3 : (S ++ List.replicate (k + 1) (0 : UInt8)).length = n + 1 := by have := HN.out; simp; omega
      rw [hl3] at hrun hbb3
      have HRUN := Lib.hid hrun
      have HBB3 := Lib.hid hbb3
      have HB3 := Lib.hid ((hB.trans (hb0.mono hB.size)).trans hB3)
      have hi1 : (n : Int) < (a : Int) + (t.size : Int) := by omega
      clear hrun hbb3 hbb1 hbb hB hb0 hB3 hrep hll hl3
      go_wp2_with (at_builtin; refine Lib.wpList_append_run_sl _ rfl _ _ 68 rfl _ _ rfl rfl HRUN.out ?_)
      go_roundw
      case rel => exact ⟨k + 1, HBB3.out, .inr (by have := HN.out; omega), HB3.out⟩
      case measure => simp [slN]; omega
    · have hpad : S ++ List.replicate k (0 : UInt8) = padL (a + t.data.toList.length) S := by
        unfold padL
        rw [HTL.out]
        have := HN.out
        congr 2
        rcases hk with rfl | hk <;> omega
      have hpl : (padL (a + t.data.toList.length) S).length = n := by rw [← hpad]; exact hll
      rw [hpad] at hbb
      have HBB := Lib.hid hbb
      have HB := Lib.hid hB
      have hi1 : ¬ (n : Int) < (a : Int) + (t.size : Int) := by omega
      have HPL := Lib.hid hpl
      have hna : a + t.size ≤ n := by omega
      clear hbb hB hpad hll hpl hk hlt
      go_wp2_with fail
      go_loopw [8] (fun i wl => StoR (padL (a + t.data.toList.length) S) a t.data.toList w (.slice (some ⟨g, 0, none⟩) n cap) i wl) (fun i _ => t.size - (intOf i).toNat)
      case atStart => exact ⟨0, rfl, Nat.zero_le _, by rw [List.take_zero, spl_nil]; exact HBB.out, HB.out⟩
      case round =>
        clear HBB HB
        obtain ⟨i, rfl, hi, hbb, hB⟩ := hrel
        rw [HTL.out] at hi
        by_cases hlt : i < t.size
        · have hsl := spl_length (padL (a + t.data.toList.length) S) a (t.data.toList.take i) (by rw [HPL.out, List.length_take, HTL.out]; omega)
          obtain ⟨c1, c2⟩ := hbb.at (a + i) (by rw [hsl, HPL.out]; omega)
          obtain ⟨hst, _⟩ := hbb.store (a + i) t[i]
          have hgt := ba_get t i hlt
          rw [hgt, spl_step _ a t.data.toList i (by rw [HTL.out]; exact hlt) (by rw [HPL.out, HTL.out]; omega)] at hst
          rw [← hgt] at hst
          have HST := Lib.hid hst
          have HB := Lib.hid (hB.setCell (p := ⟨g, a + i, none⟩) hg (.int .u8 (t[i].toNat : Int)))
          have q1 : (i : Int) < t.size := by omega
          have q2 : (a : Int) + (i : Int) < n := by omega
          have q3 : (0 : Int) ≤ (a : Int) + (i : Int) := by omega
          have q4 : ((a : Int) + (i : Int)).toNat = a + i := by omega
          generalize (spl (padL (a + t.data.toList.length) S) a (t.data.toList.take i))[a + i]'(by rw [hsl, HPL.out]; omega) = old at c1
          clear hst hbb hB hsl hgt
          go_wp2_with fail
          go_roundw
          case rel => exact ⟨i + 1, by go_num, by rw [HTL.out]; omega, HST.out, HB.out⟩
          case measure => simp [intOf]; omega
        · have hcv := hbb.conv
          have hpp : spl (padL (a + t.data.toList.length) S) a (t.data.toList.take i) = pput s.data.toList a t.data.toList := by
            rw [List.take_of_length_le (by rw [HTL.out]; omega), spl_put, HSS.out]
          rw [hpp] at hcv
          have HF : Hid (PutPost s a t w (.returned (.string (bs (pput s.data.toList a t.data.toList)))) wr) := Lib.hid ⟨rfl, hB⟩
          generalize bs (pput s.data.toList a t.data.toList) = R at hcv HF
          clear hbb hB hpp
          go_wp2_with fail
          go_ret
          exact HF.out
end Go.Proofs.Ytcfngdlgllanhaa
