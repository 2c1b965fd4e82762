/-
  The reference of layer 6: bytes of a slice made of a string; Put.
  The reference of layer 6: its disk in memory.
  The reference of layer 6: read, may, fits, without.
  The reference of layer 6: Down, Start, Lose, Size, Read, Arm, New.
-/
import Derived.Test.YthdmcjiccbgknaaDl0
import Derived.Laws.IdiomStrings
import Derived.Maps.AppendAt
import Derived.Lib.SlFresh
import Derived.StillTailTactics
import Derived.Test.YthdmcjiccbgknaaDp
namespace Go.Proofs.Ythdmcjiccbgknaa
set_option linter.unusedVariables false
set_option linter.unusedSimpArgs false
open Go.RowKit

set_option maxRecDepth 100000 in
theorem infoU8R : (Try.prog.info? 5).map (fun i => (i.zero, i.size, i.bytes)) = some (some (.int .u8 0), 1, 1) := by kernel_rfl
set_option maxRecDepth 100000 in
theorem cl_get (l : List UInt8) (i : Nat) : (cl l)[i]? = l[i]?.map fun b => Value.int .u8 (b.toNat : Int) := by unfold cl; rw [List.getElem?_map]
set_option maxRecDepth 100000 in
theorem cl_set (l : List UInt8) (i : Nat) (x : UInt8) : cl (l.set i x) = (cl l).set i (.int .u8 (x.toNat : Int)) := by unfold cl; rw [List.map_set]
/-- A slice value of bytes of its own, whatever mark its row bears. -/
structure BB (w : World) (base : Nat) (v : Value) (l : List UInt8) : Prop where
  ex : ∃ g cap cur fz, v = .slice (some ⟨g, 0, none⟩) l.length cap ∧ base ≤ g ∧ w.heap[g]? = some (.cells cur 5 fz) ∧ (fz = (0, 0) ∨ fz = (cap, cap + 1)) ∧ l.length ≤ cap ∧ cap ≤ maxLen ∧ cur.size = cap ∧ cur.toList.take l.length = cl l
set_option maxRecDepth 100000 in
theorem bb_new (w : World) (s : ByteArray) (hs : s.size ≤ maxLen) : ∃ cap W0, (convert 9 99 (.string s)).run Try.prog w = .ok (.slice (some ⟨w.heap.size, 0, none⟩) s.size cap) W0 ∧ BB W0 w.heap.size (.slice (some ⟨w.heap.size, 0, none⟩) s.size cap) s.data.toList ∧ Below w.heap.size w W0 := by
  have hge := grownCap_ge w s.size 0 5
  have hle := grownCap_le_maxLen w s.size 0 5 hs
  refine ⟨_, _, run_bytes_of_string (P := Try.prog) w 9 99 5 s Try.underlying9 Try.underlying99 Try.underlying5, ?_, ?_⟩
  · have hsz : (bytesRow s (grownCap w s.size 0 5)).size = grownCap w s.size 0 5 := by
      unfold bytesRow
      rw [Array.size_append, Array.size_map, Array.size_replicate]
      show s.size + _ = _
      omega
    refine ⟨w.heap.size, grownCap w s.size 0 5, _, _, by rw [dl_len], Nat.le_refl _, heap_alloc_new w.drew _, .inr (by rw [hsz]), by rw [dl_len]; exact hge, hle, hsz, ?_⟩
    unfold bytesRow
    rw [Array.toList_append, dl_len]
    have : (s.data.map fun b => Value.int .u8 (b.toNat : Int)).toList.length = s.size := by rw [Array.length_toList, Array.size_map]; rfl
    rw [List.take_append_of_le_length (by rw [this]; exact Nat.le_refl _), List.take_of_length_le (by rw [this]; exact Nat.le_refl _), Array.toList_map]
    rfl
  · exact ((Below.refl w.heap.size w).drew).alloc (Nat.le_refl _) _
set_option maxRecDepth 100000 in
theorem BB.at {w : World} {base n cap g : Nat} {l : List UInt8} (h : BB w base (.slice (some ⟨g, 0, none⟩) n cap) l) (k : Nat) (hk : k < l.length) :
    w.cell? ⟨g, k, none⟩ = some (.int .u8 (l[k].toNat : Int)) ∧ w.frozen? ⟨g, k, none⟩ = false := by
  obtain ⟨g', cap', cur, fz, hv, h1, h2, h3, h4, h5, h6, h7⟩ := h
  injection hv with e1 e2 e3
  injection e1 with e1
  injection e1 with e1 _ _
  subst e1; subst e3
  constructor
  · have hc : cur[k]? = some (.int .u8 (l[k].toNat : Int)) := by
      have : (cur.toList.take l.length)[k]? = cur.toList[k]? := by rw [List.getElem?_take, if_pos hk]
      rw [← Array.getElem?_toList, ← this, h7, cl_get, List.getElem?_eq_getElem hk]; rfl
    unfold World.cell?
    simp only [h2]
    exact hc
  · unfold World.frozen?
    simp only [h2]
    rcases h3 with rfl | rfl
    · simp
    · simp only [Bool.and_eq_false_iff, decide_eq_false_iff_not]
      left; omega
set_option maxRecDepth 100000 in
theorem BB.form {w : World} {base : Nat} {v : Value} {l : List UInt8} (h : BB w base v l) : ∃ g cap, v = .slice (some ⟨g, 0, none⟩) l.length cap ∧ base ≤ g ∧ l.length ≤ cap := by
  obtain ⟨g, cap, cur, fz, hv, h1, h2, h3, h4, _⟩ := h
  exact ⟨g, cap, hv, h1, h4⟩
set_option maxRecDepth 100000 in
theorem heap_setCell_any (w : World) (g i : Nat) (cs : Array Value) (t : TypeId) (fz : Nat × Nat) (v : Value) (hg : w.heap[g]? = some (.cells cs t fz)) : (w.setCell ⟨g, i, none⟩ v).heap[g]? = some (.cells (cs.setIfInBounds i v) t fz) := by
  rw [setCell_eq_setRow w g i cs t fz v hg]
  exact setRow_heap w g cs _ t _ hg
set_option maxRecDepth 100000 in
theorem BB.store {w : World} {base n cap g : Nat} {l : List UInt8} (h : BB w base (.slice (some ⟨g, 0, none⟩) n cap) l) (k : Nat) (x : UInt8) : BB (w.setCell ⟨g, k, none⟩ (.int .u8 (x.toNat : Int))) base (.slice (some ⟨g, 0, none⟩) n cap) (l.set k x) ∧ base ≤ g := by
  obtain ⟨g', cap', cur, fz, hv, h1, h2, h3, h4, h5, h6, h7⟩ := h
  injection hv with e1 e2 e3
  injection e1 with e1
  injection e1 with e1 _ _
  subst e1; subst e3
  refine ⟨⟨g, cap, _, fz, by rw [List.length_set, e2], h1, heap_setCell_any w g k cur _ fz _ h2, h3, by rw [List.length_set]; exact h4, h5, by simpa using h6, ?_⟩, h1⟩
  rw [List.length_set, cl_set, Array.toList_setIfInBounds, List.take_set, h7]
set_option maxRecDepth 100000 in
theorem BB.conv {w : World} {base n cap g : Nat} {l : List UInt8} (h : BB w base (.slice (some ⟨g, 0, none⟩) n cap) l) : (convert 99 9 (.slice (some ⟨g, 0, none⟩) n cap)).run Try.prog w = .ok (.string (bs l)) w := by
  obtain ⟨g', cap', hv, _⟩ := h.form
  injection hv with _ e2 _
  subst e2
  refine run_convert_bytes_back (P := Try.prog) w 99 9 5 ⟨g, 0, none⟩ cap l Try.underlying99 Try.underlying5 Try.underlying9 fun j hj => ?_
  rw [Addr.add_lit, Nat.zero_add]
  exact (h.at j hj).1
set_option maxRecDepth 100000 in
theorem BB.push {w : World} {base b : Nat} {v : Value} {l : List UInt8} (x : UInt8) (h : BB w base v l) (hb : base ≤ w.heap.size) (hl : l.length < 100000000) (hc : w.cell? ⟨b, 0, none⟩ = some (.int .u8 (x.toNat : Int))) :
    ∃ v' w', (Builtin.append_ #[99, 99] 99 #[v, .slice (some ⟨b, 0, none⟩) 1 1]).run Try.prog w = .ok v' w' ∧ BB w' base v' (l ++ [x]) ∧ Below base w w' := by
  obtain ⟨i0, hi, hz0, hz1, hz2⟩ := info_parts infoU8R
  have h0 := h
  obtain ⟨g, cap, cur, fz, rfl, h1, h2, h3, h4, h5, h6, h7⟩ := h
  have hnews : ∀ j u, ([.int .u8 (x.toNat : Int)] : List Value)[j]? = some u → w.cell? ((⟨b, 0, none⟩ : Addr).add j) = some u := fun j u hu => by
    cases j with
    | zero =>
      simp at hu
      subst hu
      rw [Addr.add_lit]; exact hc
    | succ j => simp at hu
  by_cases hroom : l.length + 1 ≤ cap
  · have hf := run_firstCells_some (P := Try.prog) w 1 1 ⟨b, 0, none⟩ 1 1 [.int .u8 (x.toNat : Int)] rfl hnews
    have hcell : ∃ y, w.cell? ⟨g, l.length, none⟩ = some y := by
      refine ⟨cur[l.length]'(by omega), ?_⟩
      unfold World.cell?
      simp only [h2]
      exact Array.getElem?_eq_getElem (by omega)
    obtain ⟨y, hy⟩ := hcell
    have hfro : w.frozen? ⟨g, l.length, none⟩ = false := by
      unfold World.frozen?
      simp only [h2]
      rcases h3 with rfl | rfl
      · simp
      · simp only [Bool.and_eq_false_iff, decide_eq_false_iff_not]
        left; omega
    have hst1 : (Go.store ⟨g, l.length, none⟩ (.int .u8 (x.toNat : Int))).run Try.prog w = .ok () (w.setCell ⟨g, l.length, none⟩ (.int .u8 (x.toNat : Int))) := by
      rw [run_store Try.prog w _ _ _ rfl, hy]
      simp [hfro]
    have hst : (storeCells ⟨g, l.length, none⟩ [.int .u8 (x.toNat : Int)]).run Try.prog w = .ok () (w.setCell ⟨g, l.length, none⟩ (.int .u8 (x.toNat : Int))) := by
      have e0 : (⟨g, l.length, none⟩ : Addr).add 0 = ⟨g, l.length, none⟩ := by rw [Addr.add_lit, Nat.add_zero]
      simp only [storeCells, Sem.run_bind, e0, hst1, Result.andThen_ok, Sem.run_pure]
    refine ⟨.slice (some ⟨g, 0, none⟩) (l.length + 1) cap, _, ?_, ?_, (Below.refl base w).setCell (p := ⟨g, l.length, none⟩) h1 (.int .u8 (x.toNat : Int))⟩
    · simp [Builtin.append_, run_underlying (P := Try.prog) Try.underlying99, sizeOf, typeInfo, hi, hz1, Builtin.lenOf, hroom, hf, Addr.add_lit, hst]
    · refine ⟨g, cap, _, fz, by simp, h1, heap_setCell_any w g l.length cur _ fz _ h2, h3, by simpa using hroom, h5, by simpa using h6, ?_⟩
      have hcl : l.length < cur.toList.length := by rw [Array.length_toList (xs := cur)]; omega
      rw [List.length_append, cl_append, Array.toList_setIfInBounds, List.length_singleton, List.take_set, List.take_succ_eq_append_getElem hcl, h7]
      have : (cl l).length = l.length := cl_length l
      rw [List.set_append_right _ _ (by omega), this, Nat.sub_self]
      rfl
  · have hr := run_append_grow (P := Try.prog) w 99 99 5 i0 (.int .u8 0) Try.underlying99 hi hz0 ⟨g, 0, none⟩ l.length cap (cl l) (by rw [hz1, cl_length]; omega) (fun j u hu => by
      rw [cl_get] at hu
      by_cases hj : j < l.length
      · rw [List.getElem?_eq_getElem hj] at hu
        simp only [Option.map_some, Option.some.injEq] at hu
        rw [Addr.add_lit, Nat.zero_add, ← hu]
        exact (h0.at j hj).1
      · rw [List.getElem?_eq_none (by omega)] at hu; simp at hu) ⟨b, 0, none⟩ 1 1 [.int .u8 (x.toNat : Int)] (by rw [hz1]; rfl) hnews (by omega) (by omega) (growslice_fits (by omega) (by rw [hz2]; omega))
    have hge := grownCap_ge w (l.length + 1) cap 5
    have hle := grownCap_le_maxLen w (l.length + 1) cap 5 (by unfold maxLen; omega)
    refine ⟨_, _, hr, ?_, ((Below.refl base w).drew).alloc hb _⟩
    refine ⟨w.heap.size, _, _, (0, 0), by simp, hb, heap_alloc_new w.drew _, .inl rfl, by simpa using hge, hle, ?_, ?_⟩
    · simp only [Array.size_append, List.size_toArray, size_zeroCells, cl_length, List.length_singleton]
      show l.length + 1 + (grownCap w (l.length + 1) cap 5 - (l.length + 1)) * 1 = _
      omega
    · simp only [Array.toList_append, List.append_assoc]
      rw [← List.append_assoc, cl_append]
      have e : (l ++ [x]).length = (cl l ++ [Value.int .u8 (x.toNat : Int)]).length := by simp [cl]
      rw [e]
      exact List.take_left
set_option maxRecDepth 100000 in
/-- Bytes padded to n, with t stored from a on. -/
theorem spl_put (s : List UInt8) (a : Nat) (t : List UInt8) : spl (padL (a + t.length) s) a t = pput s a t := by
  by_cases h : s.length ≤ a + t.length
  · rw [pad_put _ _ _ _ h (Nat.le_refl _)]
    have hl := pput_length s a t
    have : a + t.length = (pput s a t).length := by rw [hl]; omega
    rw [this, padL_full]
  · have e : padL (a + t.length) s = s := by unfold padL; rw [show a + t.length - s.length = 0 by omega]; simp
    rw [e]
    unfold spl pput
    rw [show a - s.length = 0 by omega]
    simp
set_option maxRecDepth 100000 in
theorem spl_nil (L : List UInt8) (a : Nat) : spl L a [] = L := by unfold spl; simp
set_option maxRecDepth 100000 in
theorem spl_length (L : List UInt8) (a : Nat) (t : List UInt8) (h : a + t.length ≤ L.length) : (spl L a t).length = L.length := by
  unfold spl; simp only [List.length_append, List.length_take, List.length_drop]; omega
set_option maxRecDepth 100000 in
theorem spl_step (L : List UInt8) (a : Nat) (t : List UInt8) (i : Nat) (hi : i < t.length) (h : a + t.length ≤ L.length) : (spl L a (t.take i)).set (a + i) t[i] = spl L a (t.take (i + 1)) := by
  apply List.ext_getElem?
  intro k
  have h1 : (t.take i).length = i := by rw [List.length_take]; omega
  have h2 : (t.take (i + 1)).length = i + 1 := by rw [List.length_take]; omega
  have hl := spl_length L a (t.take i) (by omega)
  rw [List.getElem?_set, spl_get _ _ _ (by omega), spl_get _ _ _ (by omega), h1, h2, hl]
  by_cases hk : a + i = k
  · subst hk
    rw [if_pos rfl, if_pos (by omega), if_neg (by omega), if_pos (by omega), Nat.add_sub_cancel_left, List.getElem?_take, if_pos (by omega), List.getElem?_eq_getElem hi]
  · rw [if_neg hk]
    by_cases h3 : k < a
    · rw [if_pos h3, if_pos h3]
    · rw [if_neg h3, if_neg h3]
      by_cases h4 : k < a + i
      · rw [if_pos h4, if_pos (by omega), List.getElem?_take, List.getElem?_take, if_pos (by omega), if_pos (by omega)]
      · rw [if_neg h4, if_neg (by omega)]
set_option maxRecDepth 100000 in
theorem ba_get (t : ByteArray) (i : Nat) (h : i < t.size) : t[i] = t.data.toList[i]'(by rw [dl_len]; exact h) := by
  rw [Array.getElem_toList]; rfl
def PadR (s : List UInt8) (n : Nat) (w : World) (b : Value) (wl : World) : Prop := ∃ k : Nat, BB wl w.heap.size b (s ++ List.replicate k 0) ∧ (k = 0 ∨ s.length + k ≤ n) ∧ Below w.heap.size w wl
def StoR (L : List UInt8) (a : Nat) (t : List UInt8) (w : World) (b i : Value) (wl : World) : Prop := ∃ k : Nat, i = .int .i64 k ∧ k ≤ t.length ∧ BB wl w.heap.size b (spl L a (t.take k)) ∧ Below w.heap.size w wl
def slN : Value → Nat
  | .slice _ n _ => n
  | _ => 0
def PutPost (s : ByteArray) (a : Nat) (t : ByteArray) (w : World) (e : Ending) (w' : World) : Prop := e = .returned (.string (bs (pput s.data.toList a t.data.toList))) ∧ Below w.heap.size w w'
set_option maxRecDepth 100000 in
set_option maxHeartbeats 4000000 in
theorem putP (s : ByteArray) (a : Nat) (t : ByteArray) (w : World) (hs : s.size ≤ 16777216) (ht : a + t.size ≤ 16777216) :
    Calls Try.prog 89 #[.string s, .int .i64 a, .string t] w (PutPost s a t w) := by
  obtain ⟨cap0, W0, hcv, hbb, hB0⟩ := bb_new w s (by unfold maxLen; omega)
  have HBB := Lib.hid hbb
  have HB0 := Lib.hid hB0
  have hsl : s.data.toList.length = s.size := dl_len s
  have htl : t.data.toList.length = t.size := dl_len t
  obtain ⟨S, hS⟩ : ∃ S, s.data.toList = S := ⟨_, rfl⟩
  rw [hS] at HBB hsl
  have HSL := Lib.hid hsl
  have HTL := Lib.hid htl
  have HSS := Lib.hid hS
  have hsb : S.length ≤ 16777216 := by omega
  have hat : (a : Int) + (t.size : Int) ≤ 16777216 := by omega
  clear hbb hB0 hS hsl htl
  go_enter Try.func89, Try.ntmps89
  go_wp2_with fail
  clear hcv
  go_loopw [7] (fun b wl => PadR S (a + t.size) w b wl) (fun b _ => a + t.size - slN b)
  case atStart => exact ⟨0, by rw [List.replicate_zero, List.append_nil]; exact HBB.out, .inl rfl, HB0.out⟩
  case round =>
    clear HBB HB0
    obtain ⟨k, hbb, hk, hB⟩ := hrel
    obtain ⟨g, cap, rfl, hg, _⟩ := hbb.form
    obtain ⟨n, hn⟩ : ∃ n, S.length + k = n := ⟨_, rfl⟩
    have hll : (S ++ List.replicate k (0 : UInt8)).length = n := by simp; exact hn
    rw [hll] at hbb
    rw [hll]
    have HN := Lib.hid hn
    have hnb : n ≤ 33554432 := by rcases hk with rfl | hk <;> omega
    clear hn
    by_cases hlt : n < a + t.size
    · have hb0 := below_new wr (.cells #[.int .u8 0] 5)
      have hbb1 : BB (wr.alloc (.cells #[.int .u8 0] 5)) w.heap.size (.slice (some ⟨g, 0, none⟩) n cap) (S ++ List.replicate k 0) := by
        obtain ⟨g', cap', cur, fz, hv, h1, h2, r⟩ := hbb
        exact ⟨g', cap', cur, fz, hv, h1, (hb0.block g' (Array.getElem?_eq_some_iff.1 h2).1).trans h2, r⟩
      obtain ⟨v', w3, hrun, hbb3, hB3⟩ := hbb1.push (b := wr.heap.size) 0 (Nat.le_trans hB.size (by simp)) (by rw [hll]; omega) ((Blk.new wr 5 #[.int .u8 0]).cell 0)
      have hrep : S ++ List.replicate k (0 : UInt8) ++ [0] = S ++ List.replicate (k + 1) 0 := by
        rw [List.append_assoc, List.replicate_succ']
      rw [hrep] at hbb3
      obtain ⟨g3, cap3, rfl, _⟩ := hbb3.form
      have hl3 : (S ++ List.replicate (k + 1) (0 : UInt8)).length = n + 1 := by have := HN.out; simp; omega
      rw [hl3] at hrun hbb3
      have HRUN := Lib.hid hrun
      have HBB3 := Lib.hid hbb3
      have HB3 := Lib.hid ((hB.trans (hb0.mono hB.size)).trans hB3)
      have hi1 : (n : Int) < (a : Int) + (t.size : Int) := by omega
      clear hrun hbb3 hbb1 hbb hB hb0 hB3 hrep hll hl3
      go_wp2_with (at_builtin; refine Lib.wpList_append_run_sl _ rfl _ _ 99 rfl _ _ rfl rfl HRUN.out ?_)
      go_roundw
      case rel => exact ⟨k + 1, HBB3.out, .inr (by have := HN.out; omega), HB3.out⟩
      case measure => simp [slN]; omega
    · have hpad : S ++ List.replicate k (0 : UInt8) = padL (a + t.data.toList.length) S := by
        unfold padL
        rw [HTL.out]
        have := HN.out
        congr 2
        rcases hk with rfl | hk <;> omega
      have hpl : (padL (a + t.data.toList.length) S).length = n := by rw [← hpad]; exact hll
      rw [hpad] at hbb
      have HBB := Lib.hid hbb
      have HB := Lib.hid hB
      have hi1 : ¬ (n : Int) < (a : Int) + (t.size : Int) := by omega
      have HPL := Lib.hid hpl
      have hna : a + t.size ≤ n := by omega
      clear hbb hB hpad hll hpl hk hlt
      go_wp2_with fail
      go_loopw [8] (fun i wl => StoR (padL (a + t.data.toList.length) S) a t.data.toList w (.slice (some ⟨g, 0, none⟩) n cap) i wl) (fun i _ => t.size - (intOf i).toNat)
      case atStart => exact ⟨0, rfl, Nat.zero_le _, by rw [List.take_zero, spl_nil]; exact HBB.out, HB.out⟩
      case round =>
        clear HBB HB
        obtain ⟨i, rfl, hi, hbb, hB⟩ := hrel
        rw [HTL.out] at hi
        by_cases hlt : i < t.size
        · have hsl := spl_length (padL (a + t.data.toList.length) S) a (t.data.toList.take i) (by rw [HPL.out, List.length_take, HTL.out]; omega)
          obtain ⟨c1, c2⟩ := hbb.at (a + i) (by rw [hsl, HPL.out]; omega)
          obtain ⟨hst, _⟩ := hbb.store (a + i) t[i]
          have hgt := ba_get t i hlt
          rw [hgt, spl_step _ a t.data.toList i (by rw [HTL.out]; exact hlt) (by rw [HPL.out, HTL.out]; omega)] at hst
          rw [← hgt] at hst
          have HST := Lib.hid hst
          have HB := Lib.hid (hB.setCell (p := ⟨g, a + i, none⟩) hg (.int .u8 (t[i].toNat : Int)))
          have q1 : (i : Int) < t.size := by omega
          have q2 : (a : Int) + (i : Int) < n := by omega
          have q3 : (0 : Int) ≤ (a : Int) + (i : Int) := by omega
          have q4 : ((a : Int) + (i : Int)).toNat = a + i := by omega
          generalize (spl (padL (a + t.data.toList.length) S) a (t.data.toList.take i))[a + i]'(by rw [hsl, HPL.out]; omega) = old at c1
          clear hst hbb hB hsl hgt
          go_wp2_with fail
          go_roundw
          case rel => exact ⟨i + 1, by go_num, by rw [HTL.out]; omega, HST.out, HB.out⟩
          case measure => simp [intOf]; omega
        · have hcv := hbb.conv
          have hpp : spl (padL (a + t.data.toList.length) S) a (t.data.toList.take i) = pput s.data.toList a t.data.toList := by
            rw [List.take_of_length_le (by rw [HTL.out]; omega), spl_put, HSS.out]
          rw [hpp] at hcv
          have HF : Hid (PutPost s a t w (.returned (.string (bs (pput s.data.toList a t.data.toList)))) wr) := Lib.hid ⟨rfl, hB⟩
          generalize bs (pput s.data.toList a t.data.toList) = R at hcv HF
          clear hbb hB hpp
          go_wp2_with fail
          go_ret
          exact HF.out
end Go.Proofs.Ythdmcjiccbgknaa

namespace Go.Proofs.Ythdmcjiccbgknaa
set_option linter.unusedVariables false
set_option linter.unusedSimpArgs false
open Go.RowKit

abbrev RP : TypeId := 111
set_option maxRecDepth 100000 in
theorem infoRP : (Try.prog.info? 111).map (fun i => (i.zero, i.size, i.bytes)) = some (some (.agg #[.int .i64 0, .int .i64 0, .string (bs [])]), 3, 32) := by kernel_rfl
set_option maxRecDepth 100000 in
theorem infoStr : (Try.prog.info? 9).map (fun i => (i.zero, i.size, i.bytes)) = some (some (.string (bs [])), 1, 16) := by kernel_rfl
set_option maxRecDepth 100000 in
theorem own_heap {w w' : World} {base sz n : Nat} {e : TypeId} {v : Value} {xs : List Value} (h : w.ownsRow base e sz v n xs) (hb : ∀ k, v.ownBlock = some k → k < w.heap.size → w'.heap[k]? = w.heap[k]?) : w'.ownsRow base e sz v n xs := by
  refine ⟨h.1, ?_⟩
  rcases h.2 with h | ⟨g, cap, cur, rfl, h2, h3, r⟩
  · exact .inl h
  · exact .inr ⟨g, cap, cur, rfl, h2, (hb g rfl (Array.getElem?_eq_some_iff.1 h3).1).trans h3, r⟩
set_option maxRecDepth 100000 in
theorem own_blk {w : World} {base sz n b : Nat} {e t : TypeId} {v : Value} {xs : List Value} {cs : Array Value} (h : w.ownsRow base e sz v n xs) (hb : Blk w b t cs) (hne : t ≠ e) : v.ownBlock ≠ some b := by
  intro hv
  rcases h.2 with ⟨rfl, _⟩ | ⟨g, cap, cur, rfl, _, hg, _⟩
  · simp [Value.ownBlock] at hv
  · simp [Value.ownBlock] at hv
    subst hv
    unfold Blk at hb
    rw [hb] at hg
    injection hg with hg
    injection hg with _ h2 _
    exact hne h2
set_option maxRecDepth 100000 in
theorem own_own {w : World} {base sz n base' sz' n' : Nat} {e e' : TypeId} {v v' : Value} {xs xs' : List Value} (h : w.ownsRow base e sz v n xs) (h' : w.ownsRow base' e' sz' v' n' xs') (hne : e ≠ e') (k : Nat) (hk : v.ownBlock = some k) : v'.ownBlock ≠ some k := by
  rcases h.2 with ⟨rfl, _⟩ | ⟨g, cap, cur, rfl, _, hg, _⟩
  · simp [Value.ownBlock] at hk
  · simp [Value.ownBlock] at hk
    subst hk
    exact own_blk (cs := cur) h' (show Blk w g e cur from hg) hne
def rcells (lv qv kv : Value) (s : Dk) : Array Value := #[lv, qv, .int .i64 s.lost, .bool s.down, .int .i64 s.calls, kv]
structure RAt (w : World) (db : Nat) (lv qv kv : Value) (s : Dk) : Prop where
  bx : Blk w db 71 (rcells lv qv kv s)
  lst : w.ownsRow 0 9 1 lv 8 (s.dur.map Value.string)
  q : w.ownsRow 0 111 3 qv s.pend.length (pc s.pend)
  kp : w.ownsRow 0 3 1 kv s.keep.length (iv s.keep)
  ok : s.ok
structure RIn (B : Nat → Prop) (db : Nat) (lv qv kv : Value) : Prop where
  b0 : B db
  b1 : ∀ k, lv.ownBlock = some k → B k
  b2 : ∀ k, qv.ownBlock = some k → B k
  b3 : ∀ k, kv.ownBlock = some k → B k
/-- The reference's disk s lies at db, and all of its blocks are in B. -/
def RefAt (B : Nat → Prop) (w : World) (db : Nat) (s : Dk) : Prop := ∃ lv qv kv, RAt w db lv qv kv s ∧ RIn B db lv qv kv
set_option maxRecDepth 100000 in
theorem RAt.heap {w w' : World} {db : Nat} {lv qv kv : Value} {s : Dk} (h : RAt w db lv qv kv s) (hb : ∀ k, k < w.heap.size → (k = db ∨ lv.ownBlock = some k ∨ qv.ownBlock = some k ∨ kv.ownBlock = some k) → w'.heap[k]? = w.heap[k]?) : RAt w' db lv qv kv s :=
  ⟨(hb db h.bx.lt (.inl rfl)).trans h.bx, own_heap h.lst fun k hk hl => hb k hl (.inr (.inl hk)), own_heap h.q fun k hk hl => hb k hl (.inr (.inr (.inl hk))), own_heap h.kp fun k hk hl => hb k hl (.inr (.inr (.inr hk))), h.ok⟩
set_option maxRecDepth 100000 in
theorem RefAt.mono {B C : Nat → Prop} {w : World} {db : Nat} {s : Dk} (h : RefAt B w db s) (hB : ∀ k, k < w.heap.size → B k → C k) : RefAt C w db s := by
  obtain ⟨lv, qv, kv, h, h1⟩ := h
  exact ⟨lv, qv, kv, h, hB _ h.bx.lt h1.b0, fun k hk => hB k (World.ownsRow.lt h.lst k hk).2 (h1.b1 k hk), fun k hk => hB k (World.ownsRow.lt h.q k hk).2 (h1.b2 k hk), fun k hk => hB k (World.ownsRow.lt h.kp k hk).2 (h1.b3 k hk)⟩
set_option maxRecDepth 100000 in
theorem RefAt.fr {B C : Nat → Prop} {w w' : World} {db : Nat} {s : Dk} (h : RefAt B w db s) (hf : Fr C w w') (hBC : ∀ k, k < w.heap.size → B k → ¬ C k) : RefAt B w' db s := by
  obtain ⟨lv, qv, kv, h, h1⟩ := h
  refine ⟨lv, qv, kv, h.heap (fun k hk hc => hf.block k hk (hBC k hk ?_)), h1⟩
  rcases hc with rfl | hc | hc | hc
  · exact h1.b0
  · exact h1.b1 k hc
  · exact h1.b2 k hc
  · exact h1.b3 k hc
set_option maxRecDepth 100000 in
theorem RefAt.below {B : Nat → Prop} {w w' : World} {db : Nat} {s : Dk} (h : RefAt B w db s) (hb : Below w.heap.size w w') : RefAt B w' db s :=
  h.fr (C := fun _ => False) ⟨hb.os, hb.tape, hb.output, hb.size, fun k hk _ => hb.block k hk⟩ (fun _ _ _ h => h)
set_option maxRecDepth 100000 in
theorem RefAt.ok {B : Nat → Prop} {w : World} {db : Nat} {s : Dk} (h : RefAt B w db s) : s.ok := by obtain ⟨_, _, _, h, _⟩ := h; exact h.ok
set_option maxRecDepth 100000 in
theorem RefAt.lt {B : Nat → Prop} {w : World} {db : Nat} {s : Dk} (h : RefAt B w db s) : db < w.heap.size := by obtain ⟨_, _, _, h, _⟩ := h; exact h.bx.lt
/-- A call on the reference's disk has made s of it. -/
structure ROp (B : Nat → Prop) (w w' : World) (db : Nat) (s : Dk) : Prop where
  at_ : RefAt (Ext B w w') w' db s
  fr : Fr B w w'
set_option maxRecDepth 100000 in
theorem ROp.refl {B : Nat → Prop} {w : World} {db : Nat} {s : Dk} (h : RefAt B w db s) : ROp B w w db s := ⟨h.mono fun k _ h => .inl h, Fr.refl _ _⟩
set_option maxRecDepth 100000 in
theorem ROp.trans {B : Nat → Prop} {w w1 w2 : World} {db : Nat} {s s' : Dk} (h : ROp B w w1 db s) (k : ROp (Ext B w w1) w1 w2 db s') : ROp B w w2 db s' := by
  refine ⟨k.at_.mono fun i _ hi => ?_, h.fr.trans k.fr fun i hi hx => ?_⟩
  · have h1 := h.fr.size
    have h2 := k.fr.size
    rcases hi with (hi | hi) | hi
    · exact .inl hi
    · exact .inr ⟨hi.1, by omega⟩
    · exact .inr ⟨by omega, hi.2⟩
  · rcases hx with hx | hx
    · exact hx
    · omega
set_option maxRecDepth 100000 in
theorem ROp.below {B : Nat → Prop} {w w1 w2 : World} {db : Nat} {s : Dk} (h : ROp B w w1 db s) (k : Below w1.heap.size w1 w2) : ROp B w w2 db s := by
  refine ⟨(h.at_.below k).mono fun i _ hi => ?_, h.fr.trans (Fr.below (B := fun _ => False) k) fun i _ hx => hx.elim⟩
  rcases hi with hi | hi
  · exact .inl hi
  · exact .inr ⟨hi.1, Nat.lt_of_lt_of_le hi.2 k.size⟩
set_option maxRecDepth 100000 in
theorem ROp.mono {B C : Nat → Prop} {w w' : World} {db : Nat} {s : Dk} (h : ROp B w w' db s) (hB : ∀ k, k < w.heap.size → B k → C k) : ROp C w w' db s :=
  ⟨h.at_.mono fun k hk hx => by
    rcases hx with hx | hx
    · by_cases hl : k < w.heap.size
      · exact .inl (hB k hl hx)
      · exact .inr ⟨by omega, hk⟩
    · exact .inr hx, h.fr.mono hB⟩
set_option maxRecDepth 100000 in
theorem ROp.pre {B : Nat → Prop} {w w1 w2 : World} {db : Nat} {s : Dk} (k : Below w.heap.size w w1) (h : ROp B w1 w2 db s) : ROp B w w2 db s := by
  refine ⟨h.at_.mono fun i _ hi => ?_, (Fr.below k).trans h.fr fun i _ hx => hx⟩
  have := k.size
  rcases hi with hi | hi
  · exact .inl hi
  · exact .inr ⟨by omega, hi.2⟩
set_option maxRecDepth 100000 in
theorem ROp.drew {B : Nat → Prop} {w w1 : World} {db : Nat} {s : Dk} (h : ROp B w w1 db s) : ROp B w w1.drew db s := h.below ⟨rfl, rfl, rfl, Nat.le_refl _, fun _ _ => rfl⟩
set_option maxRecDepth 100000 in
theorem RAt.cells {w : World} {db : Nat} {lv qv kv : Value} {s : Dk} (h : RAt w db lv qv kv s) : w.cell? ⟨db, 0, none⟩ = some lv ∧ w.cell? ⟨db, 1, none⟩ = some qv ∧ w.cell? ⟨db, 2, none⟩ = some (.int .i64 s.lost) ∧ w.cell? ⟨db, 3, none⟩ = some (.bool s.down) ∧ w.cell? ⟨db, 4, none⟩ = some (.int .i64 s.calls) ∧ w.cell? ⟨db, 5, none⟩ = some kv ∧ ∀ i, w.frozen? ⟨db, i, none⟩ = false := by
  have hb := h.bx
  refine ⟨hb.cell 0, hb.cell 1, hb.cell 2, hb.cell 3, hb.cell 4, hb.cell 5, fun i => ?_⟩
  unfold Blk at hb
  simp [World.frozen?, hb]
set_option maxRecDepth 100000 in
/-- The durable parts. -/
theorem RAt.last {w : World} {db : Nat} {lv qv kv : Value} {s : Dk} (h : RAt w db lv qv kv s) : ∃ g cap, lv = .slice (some ⟨g, 0, none⟩) 8 cap ∧ g < w.heap.size ∧ (∀ f, f < 8 → w.cell? ⟨g, f, none⟩ = some (.string (s.d f)) ∧ w.frozen? ⟨g, f, none⟩ = false) := by
  have hl := h.lst
  obtain ⟨g, cap, rfl⟩ := (show ∃ g cap, lv = .slice (some ⟨g, 0, none⟩) 8 cap by
    rcases hl.2 with ⟨_, h0⟩ | ⟨g, cap, cur, hv, _⟩
    · omega
    · exact ⟨g, cap, hv⟩)
  refine ⟨g, cap, rfl, (World.ownsRow.lt hl g rfl).2, fun f hf => ⟨?_, hl.frozenAt f⟩⟩
  rw [hl.cellAt f (by omega), List.getElem?_map, List.getElem?_eq_getElem (by rw [h.ok.dl]; exact hf)]
  unfold Dk.d
  rw [List.getD_eq_getElem?_getD, List.getElem?_eq_getElem (by rw [h.ok.dl]; exact hf)]
  rfl
set_option maxRecDepth 100000 in
/-- A row of pieces, read. -/
theorem own_pcs {w : World} {base : Nat} {v : Value} {l : List Pc} (h : w.ownsRow base 111 3 v l.length (pc l)) : ∃ A cap, v = .slice A l.length cap ∧ l.length ≤ cap ∧ cap ≤ maxLen ∧ (0 < l.length → ∃ g, A = some ⟨g, 0, none⟩ ∧ g < w.heap.size ∧ ∀ i, i < l.length → w.cell? ⟨g, i * 3, none⟩ = some (.int .i64 (gp l i).f) ∧ w.cell? ⟨g, i * 3 + 1, none⟩ = some (.int .i64 (gp l i).a) ∧ w.cell? ⟨g, i * 3 + 2, none⟩ = some (.string (gp l i).t)) := by
  rcases h.2 with ⟨rfl, h0⟩ | ⟨g, cap, cur, rfl, _, hg, h1, h2, h3, h4⟩
  · exact ⟨none, 0, by rw [h0], by omega, by decide, fun h => by omega⟩
  · refine ⟨_, cap, rfl, h1, h2, fun _ => ⟨g, rfl, (Array.getElem?_eq_some_iff.1 hg).1, fun i hi => ?_⟩⟩
    have hc : ∀ j u, (pc l)[j]? = some u → w.cell? ⟨g, j, none⟩ = some u := fun j u hu => by
      rw [← h4, List.getElem?_take] at hu
      split at hu
      · rw [cell_of_row _ _ _ _ _ _ hg, ← Array.getElem?_toList]; exact hu
      · cases hu
    have h5 := pc_at l i hi
    exact ⟨hc _ _ h5.1, hc _ _ h5.2.1, hc _ _ h5.2.2⟩
set_option maxRecDepth 100000 in
/-- A store into a field of the disk, behind what grew its rows. -/
theorem RAt.field {B : Nat → Prop} {w w' : World} {db i : Nat} {lv qv kv lv' qv' kv' x : Value} {s s' : Dk} (h : RAt w db lv qv kv s) (hb : RIn B db lv qv kv) (hg : w.grownBy w' qv.ownBlock)
    (hl : w'.ownsRow 0 9 1 lv' 8 (s'.dur.map Value.string)) (hq : w'.ownsRow 0 111 3 qv' s'.pend.length (pc s'.pend)) (hk : w'.ownsRow 0 3 1 kv' s'.keep.length (iv s'.keep))
    (nl : ∀ k, lv'.ownBlock = some k → lv.ownBlock = some k ∨ w.heap.size ≤ k) (nq : ∀ k, qv'.ownBlock = some k → qv.ownBlock = some k ∨ w.heap.size ≤ k) (nk : ∀ k, kv'.ownBlock = some k → kv.ownBlock = some k ∨ w.heap.size ≤ k)
    (hc : (rcells lv qv kv s).setIfInBounds i x = rcells lv' qv' kv' s') (ok : s'.ok) : ROp B w (w'.setCell ⟨db, i, none⟩ x) db s' := by
  have hs : (w'.setCell ⟨db, i, none⟩ x).heap.size = w'.heap.size := by simp [World.setCell]
  have ho : ∀ k, k ≠ db → (w'.setCell ⟨db, i, none⟩ x).heap[k]? = w'.heap[k]? := fun k hk => Below.heap_setCell w' ⟨db, i, none⟩ x k hk
  have hbx : Blk w' db 71 (rcells lv qv kv s) := (hg.block db h.bx.lt (fun e => own_blk h.q h.bx (by decide) e.symm)).trans h.bx
  refine ⟨⟨lv', qv', kv', ⟨?_, own_heap hl fun k hk _ => ho k (fun e => own_blk hl hbx (by decide) (by rw [hk, e])), own_heap hq fun k hk _ => ho k (fun e => own_blk hq hbx (by decide) (by rw [hk, e])), own_heap hk fun k hk' _ => ho k (fun e => own_blk hk hbx (by decide) (by rw [hk', e])), ok⟩, .inl hb.b0, ?_, ?_, ?_⟩, ?_⟩
  · have := blk_set hbx (i := i) x
    rw [hc] at this
    exact this
  · intro k hk'
    rcases nl k hk' with h1 | h1
    · exact .inl (hb.b1 k h1)
    · exact .inr ⟨h1, by rw [hs]; exact (World.ownsRow.lt hl k hk').2⟩
  · intro k hk'
    rcases nq k hk' with h1 | h1
    · exact .inl (hb.b2 k h1)
    · exact .inr ⟨h1, by rw [hs]; exact (World.ownsRow.lt hq k hk').2⟩
  · intro k hk'
    rcases nk k hk' with h1 | h1
    · exact .inl (hb.b3 k h1)
    · exact .inr ⟨h1, by rw [hs]; exact (World.ownsRow.lt hk k hk').2⟩
  · refine ⟨hg.os, hg.tape, hg.output, by rw [hs]; exact hg.size, fun k hk hB => (ho k (fun e => hB (by rw [e]; exact hb.b0))).trans (hg.block k hk (fun e => hB (hb.b2 k e.symm)))⟩
set_option maxRecDepth 100000 in
theorem IRow.heap2 {w w' : World} {v : Value} {l : List Int} (h : IRow w w.heap.size v l) (hs : w.heap.size ≤ w'.heap.size) (hb : l ≠ [] → ∀ k, v.ownBlock = some k → k < w.heap.size → w'.heap[k]? = w.heap[k]?) : IRow w' w'.heap.size v l := by
  by_cases hl : l = []
  · subst hl
    obtain ⟨A, cap, hv, h1, h2, h3, hA⟩ := h
    exact ⟨A, cap, hv, h1, h2, h3, fun h0 => by simp at h0⟩
  · exact h.heap hs (hb hl)
set_option maxRecDepth 100000 in
theorem grownR (w : World) (r : Option Nat) : w.grownBy w r := ⟨rfl, rfl, rfl, Nat.le_refl _, fun _ _ _ => rfl⟩
set_option maxRecDepth 100000 in
theorem RefAt.set {B : Nat → Prop} {w : World} {db i : Nat} {x : Value} {s s' : Dk} (h : RefAt B w db s) (hd : s'.dur = s.dur) (hp : s'.pend = s.pend) (hk : s'.keep = s.keep) (hok : s'.ok) (hc : ∀ lv qv kv, (rcells lv qv kv s).setIfInBounds i x = rcells lv qv kv s') : ROp B w (w.setCell ⟨db, i, none⟩ x) db s' := by
  obtain ⟨lv, qv, kv, h, hb⟩ := h
  exact h.field hb (grownR _ _) (by rw [hd]; exact h.lst) (by rw [hp]; exact h.q) (by rw [hk]; exact h.kp) (fun k hk => .inl hk) (fun k hk => .inl hk) (fun k hk => .inl hk) (hc _ _ _) hok
set_option maxRecDepth 100000 in
theorem RefAt.set_down {B : Nat → Prop} {w : World} {db : Nat} {s : Dk} (h : RefAt B w db s) (b : Bool) : ROp B w (w.setCell ⟨db, 3, none⟩ (.bool b)) db { s with down := b } :=
  h.set rfl rfl rfl ⟨h.ok.dl, h.ok.ds, h.ok.ps, h.ok.pn, h.ok.kn, h.ok.lo, h.ok.ca⟩ fun _ _ _ => rfl
set_option maxRecDepth 100000 in
theorem RefAt.set_lost {B : Nat → Prop} {w : World} {db : Nat} {s : Dk} (h : RefAt B w db s) (n : Nat) (hn : n ≤ 9223372036854775807) : ROp B w (w.setCell ⟨db, 2, none⟩ (.int .i64 n)) db { s with lost := n } :=
  h.set rfl rfl rfl ⟨h.ok.dl, h.ok.ds, h.ok.ps, h.ok.pn, h.ok.kn, hn, h.ok.ca⟩ fun _ _ _ => rfl
set_option maxRecDepth 100000 in
theorem RefAt.set_calls {B : Nat → Prop} {w : World} {db : Nat} {s : Dk} (h : RefAt B w db s) (n : Nat) (hn : n ≤ 9223372036854775807) : ROp B w (w.setCell ⟨db, 4, none⟩ (.int .i64 n)) db { s with calls := n } :=
  h.set rfl rfl rfl ⟨h.ok.dl, h.ok.ds, h.ok.ps, h.ok.pn, h.ok.kn, h.ok.lo, hn⟩ fun _ _ _ => rfl
set_option maxRecDepth 100000 in
/-- A store into the durable parts. -/
theorem RAt.set_dur {B : Nat → Prop} {w : World} {db g cap : Nat} {qv kv : Value} {s : Dk} (h : RAt w db (.slice (some ⟨g, 0, none⟩) 8 cap) qv kv s) (hb : RIn B db (.slice (some ⟨g, 0, none⟩) 8 cap) qv kv) (f : Nat) (b : ByteArray) (hs : b.size ≤ 16777216) :
    RAt (w.setCell ⟨g, f, none⟩ (.string b)) db (.slice (some ⟨g, 0, none⟩) 8 cap) qv kv { s with dur := s.dur.set f b } ∧ ROp B w (w.setCell ⟨g, f, none⟩ (.string b)) db { s with dur := s.dur.set f b } := by
  obtain ⟨h1, h2⟩ := World.ownsRow.stored h.lst f (.string b)
  have hbx := h.bx
  have hR : RAt (w.setCell ⟨g, f, none⟩ (.string b)) db (.slice (some ⟨g, 0, none⟩) 8 cap) qv kv { s with dur := s.dur.set f b } := by
    refine ⟨(h2.block db hbx.lt (fun e => own_blk h.lst hbx (by decide) e.symm)).trans hbx, ?_, own_heap h.q fun k hk hkl => h2.block k hkl (fun e => own_own h.q h.lst (by decide) k hk (by rw [e]; rfl)), own_heap h.kp fun k hk hkl => h2.block k hkl (fun e => own_own h.kp h.lst (by decide) k hk (by rw [e]; rfl)), ⟨by simp [h.ok.dl], fun x hx => ?_, h.ok.ps, h.ok.pn, h.ok.kn, h.ok.lo, h.ok.ca⟩⟩
    · rw [List.map_set]; exact h1
    · rcases List.mem_or_eq_of_mem_set hx with hx | rfl
      · exact h.ok.ds _ hx
      · exact hs
  refine ⟨hR, ⟨⟨_, _, _, hR, .inl hb.b0, fun k hk => .inl (hb.b1 k hk), fun k hk => .inl (hb.b2 k hk), fun k hk => .inl (hb.b3 k hk)⟩, ⟨h2.os, h2.tape, h2.output, h2.size, fun k hk hB => h2.block k hk (fun e => hB (hb.b1 k (by rw [e]; rfl)))⟩⟩⟩
end Go.Proofs.Ythdmcjiccbgknaa

namespace Go.Proofs.Ythdmcjiccbgknaa
set_option linter.unusedVariables false
set_option linter.unusedSimpArgs false
open Go.RowKit

def RRdR (l : List Pc) (d : ByteArray) (F : Nat) (w : World) (x i : Value) (wl : World) : Prop := ∃ k : Nat, i = .int .i64 k ∧ k ≤ l.length ∧ x = .string (bs (fileL d.data.toList (l.take k) F)) ∧ Below w.heap.size w wl
def RRdPost (r : ByteArray) (w : World) (e : Ending) (w' : World) : Prop := e = .returned (.string r) ∧ Below w.heap.size w w'
set_option maxRecDepth 100000 in
set_option maxHeartbeats 4000000 in
theorem readR {B : Nat → Prop} {w : World} {db : Nat} {s : Dk} (h : RefAt B w db s) (F : Nat) (hF : F < 8) :
    Calls Try.prog 66 #[.pointer (some ⟨db, 0, none⟩), .int .i64 F] w (RRdPost (s.bytes F) w) := by
  obtain ⟨lv, qv, kv, h, _⟩ := h
  have hok := h.ok
  obtain ⟨c0, c1, _⟩ := h.cells
  obtain ⟨g, cap, rfl, hg, hgc⟩ := h.last
  have cf := (hgc F hF).1
  obtain ⟨A, qcap, rfl, _, _, hA⟩ := own_pcs h.q
  have hdb := h.bx.lt
  have hps := hok.ps
  have hpn := hok.pn
  have hdl := hok.d_le F
  have hbl := hok.bytes_le F
  have hby : s.bytes F = bs (fileL (s.d F).data.toList s.pend F) := rfl
  obtain ⟨r, hr⟩ : ∃ r, s.bytes F = r := ⟨_, rfl⟩
  obtain ⟨l, hl⟩ : ∃ l, s.pend = l := ⟨_, rfl⟩
  obtain ⟨d, hd⟩ : ∃ d, s.d F = d := ⟨_, rfl⟩
  rw [hr] at hby hbl
  rw [hr]
  rw [hl] at hby hA hps hpn c1
  rw [hd] at hby cf hdl
  have HPS := Lib.hid hps
  have HBY := Lib.hid hby
  have HBL := Lib.hid hbl
  have HC1 : Hid (∀ wl, Below w.heap.size w wl → wl.cell? ⟨db, 1, none⟩ = some (.slice A l.length qcap)) := Lib.hid (fun wl hb => (hb.cell (p := ⟨db, 1, none⟩) hdb).trans c1)
  have HD0 : Hid (bs (fileL d.data.toList (l.take 0) F) = d) := Lib.hid (by rw [List.take_zero, fileL_nil, bs_data])
  have q0 : (0 : Int) ≤ (F : Int) := by omega
  have q8 : (F : Int) < 8 := by omega
  have q9 : ((F : Int)).toNat = F := by omega
  clear h hok hgc hps hby hbl hr hl hd c1 hg
  go_enter Try.func66, Try.ntmps66
  go_wp2_with fail
  clear c0 cf
  go_loopw [5, 6] (fun x i wl => RRdR l d F w x i wl) (fun _ i _ => l.length - (intOf i).toNat)
  case atStart => exact ⟨0, rfl, by omega, by rw [HD0.out], Below.refl _ _⟩
  case round =>
    clear HD0
    obtain ⟨k, rfl, hk, rfl, hB⟩ := hrel
    have c1 := HC1.out wr hB
    obtain ⟨st, hst⟩ : ∃ st, bs (fileL d.data.toList (l.take k) F) = st := ⟨_, rfl⟩
    have HST := Lib.hid hst
    rw [hst]
    clear hst
    by_cases hlt : k < l.length
    · obtain ⟨b, rfl, hb, hc⟩ := hA (by omega)
      have c2 := (hB.cell (p := ⟨b, k * 3, none⟩) hb).trans (hc k hlt).1
      have c3 := (hB.cell (p := ⟨b, k * 3 + 1, none⟩) hb).trans (hc k hlt).2.1
      have c4 := (hB.cell (p := ⟨b, k * 3 + 2, none⟩) hb).trans (hc k hlt).2.2
      have HP := HPS.out (gp l k) (by rw [gp_get l k hlt]; exact List.getElem_mem hlt)
      have HSN := Lib.hid (fileL_snoc d.data.toList l F k hlt)
      have hle := fileL_take_le d.data.toList l F k
      have hstz : st.size ≤ 16777216 := by
        rw [← HST.out, bs_size]
        have := HBL.out
        rw [HBY.out, bs_size] at this
        omega
      obtain ⟨xf, hxf⟩ : ∃ n, (gp l k).f = n := ⟨_, rfl⟩
      obtain ⟨xa, hxa⟩ : ∃ n, (gp l k).a = n := ⟨_, rfl⟩
      obtain ⟨xt, hxt⟩ : ∃ n, (gp l k).t = n := ⟨_, rfl⟩
      rw [hxf] at c2 HSN
      rw [hxa] at c3 HSN HP
      rw [hxt] at c4 HP
      rw [show (gp l k).l = xt.data.toList by unfold Pc.l; rw [hxt]] at HSN
      have q1 : (k : Int) < l.length := by omega
      have HPT := Lib.hid (putP st xa xt wr.drew hstz HP.2.1)
      have HBD := Lib.hid (hB.trans (Below.refl w.heap.size wr).drew)
      have HB := Lib.hid hB
      clear hA hc hxf hxa hxt HP hle hstz hB
      by_cases hf : xf = F
      · subst hf
        have HNX : Hid (bs (pput st.data.toList xa xt.data.toList) = bs (fileL d.data.toList (l.take (k + 1)) xf)) := Lib.hid (by rw [HSN.out, if_pos rfl, ← HST.out]; rfl)
        clear HSN
        go_wp2_with fail
        go_still_tail 17, (by kernel_rfl)
        change wpList _ _ _ _ _ wr.drew
        go_wp2_with fail
        refine HPT.out.mono ?_; rintro e w2 ⟨rfl, hB2⟩
        have HB2 := Lib.hid (HBD.out.trans (hB2.mono HBD.out.size))
        clear hB2 HPT
        go_wp2_with fail
        go_roundw
        case rel => exact ⟨k + 1, by go_num, by omega, by rw [← HNX.out], HB2.out⟩
        case measure => simp [intOf]; omega
      · have hq : ((xf : Int) == (F : Int)) = false := by simp; omega
        have hf2 : ¬ (xf : Int) = (F : Int) := by omega
        have HNX : Hid (st = bs (fileL d.data.toList (l.take (k + 1)) F)) := Lib.hid (by rw [HSN.out, if_neg hf, HST.out])
        clear HSN HPT
        go_wp2_with fail
        go_roundw
        case rel => exact ⟨k + 1, by go_num, by omega, by rw [← HNX.out], HB.out⟩
        case measure => simp [intOf]; omega
    · have HF : Hid (RRdPost r w (.returned (.string st)) wr) := Lib.hid ⟨by rw [HBY.out, ← HST.out, List.take_of_length_le (by omega)], hB⟩
      clear hA hB
      go_wp2_with fail
      go_ret
      exact HF.out
set_option maxRecDepth 100000 in
set_option maxHeartbeats 2000000 in
theorem mayR {B : Nat → Prop} {w : World} {db : Nat} {s : Dk} (h : RefAt B w db s) (f : Int) :
    Calls Try.prog 65 #[.pointer (some ⟨db, 0, none⟩), .int .i64 f] w fun e w' => e = .returned (.int .i64 (s.chk f)) ∧ w = w' := by
  obtain ⟨lv, qv, kv, h, _⟩ := h
  obtain ⟨_, _, _, c3, _⟩ := h.cells
  have HZ : Hid (s.chk f = if s.down = true then 10 else if isF f = false then 1 else 0) := rfl
  generalize s.chk f = Z at *
  clear h
  cases hd : s.down with
  | true =>
    have HF : Hid (Z = 10) := Lib.hid (by rw [HZ.out, if_pos hd])
    rw [hd] at c3
    clear HZ hd
    go_enter Try.func65, Try.ntmps65
    go_wp2_with fail
    go_ret
    exact ⟨by rw [HF.out]; rfl, rfl⟩
  | false =>
    rw [hd] at c3 HZ
    have HZ2 : Hid (Z = if isF f = false then 1 else 0) := HZ.out
    clear HZ hd
    by_cases h1 : f < 0
    · have HF : Hid (Z = 1) := Lib.hid (by rw [HZ2.out, if_pos (show isF f = false from decide_eq_false (by omega))])
      have d1 : decide (f < 0) = true := decide_eq_true h1
      clear HZ2
      go_enter Try.func65, Try.ntmps65
      go_wp2_with fail
      go_ret
      exact ⟨by rw [HF.out]; rfl, rfl⟩
    · have d1 : decide (f < 0) = false := decide_eq_false h1
      by_cases h2 : 7 < f
      · have HF : Hid (Z = 1) := Lib.hid (by rw [HZ2.out, if_pos (show isF f = false from decide_eq_false (by omega))])
        have d2 : decide (7 < f) = true := decide_eq_true h2
        have d3 : decide (f > 7) = true := decide_eq_true h2
        clear HZ2
        go_enter Try.func65, Try.ntmps65
        go_wp2_with fail
        go_ret
        exact ⟨by rw [HF.out]; rfl, rfl⟩
      · have HF : Hid (Z = 0) := Lib.hid (by rw [HZ2.out, if_neg (by unfold isF; rw [decide_eq_true (by omega)]; decide)])
        have d2 : decide (7 < f) = false := decide_eq_false h2
        have d3 : decide (f > 7) = false := decide_eq_false h2
        clear HZ2
        go_enter Try.func65, Try.ntmps65
        go_wp2_with fail
        go_ret
        exact ⟨by rw [HF.out]; rfl, rfl⟩
set_option maxRecDepth 100000 in
set_option maxHeartbeats 2000000 in
theorem fitsR (a : Int) (t : ByteArray) (w : World) (ht : t.size ≤ 1000000) :
    Calls Try.prog 78 #[.int .i64 a, .string t] w fun e w' => e = .returned (.bool (decide (0 ≤ a ∧ a + t.size ≤ 16777216))) ∧ w = w' := by
  obtain ⟨Z, hZ⟩ : ∃ Z, decide (0 ≤ a ∧ a + (t.size : Int) ≤ 16777216) = Z := ⟨_, rfl⟩
  have HZ := Lib.hid hZ
  rw [hZ]
  clear hZ
  by_cases h1 : 0 ≤ a
  · have d1 : decide (0 ≤ a) = true := decide_eq_true h1
    have d1' : decide (a ≥ 0) = true := decide_eq_true h1
    by_cases h2 : a ≤ 16777216
    · have d2 : decide (a ≤ 16777216) = true := decide_eq_true h2
      by_cases h3 : a + (t.size : Int) ≤ 16777216
      · have d3 : decide (a + (t.size : Int) ≤ 16777216) = true := decide_eq_true h3
        have hF : Z = true := by rw [← HZ.out]; exact decide_eq_true ⟨h1, h3⟩
        subst hF
        go_enter Try.func78, Try.ntmps78
        go_wp2_with fail
        go_ret
        exact ⟨rfl, rfl⟩
      · have d3 : decide (a + (t.size : Int) ≤ 16777216) = false := decide_eq_false h3
        have hF : Z = false := by rw [← HZ.out]; exact decide_eq_false (fun h => h3 h.2)
        subst hF
        go_enter Try.func78, Try.ntmps78
        go_wp2_with fail
        go_ret
        exact ⟨rfl, rfl⟩
    · have d2 : decide (a ≤ 16777216) = false := decide_eq_false h2
      have hF : Z = false := by rw [← HZ.out]; exact decide_eq_false (fun h => by omega)
      subst hF
      go_enter Try.func78, Try.ntmps78
      go_wp2_with fail
      go_ret
      exact ⟨rfl, rfl⟩
  · have d1 : decide (0 ≤ a) = false := decide_eq_false h1
    have d1' : decide (a ≥ 0) = false := decide_eq_false h1
    have hF : Z = false := by rw [← HZ.out]; exact decide_eq_false (fun h => h1 h.1)
    subst hF
    go_enter Try.func78, Try.ntmps78
    go_wp2_with fail
    go_ret
    exact ⟨rfl, rfl⟩
set_option maxRecDepth 100000 in
theorem pushQ (W : World) (base : Nat) (u : Value) (L : List Pc) (p : Pc) (ho : W.ownsRow base 111 3 u L.length (pc L)) (hb : base ≤ W.heap.size) (hl : L.length ≤ 1000000) :
    ∃ g' cap' w3, (Builtin.append_ #[69, 69] 69 #[u, .slice (some ⟨W.heap.size, 0, none⟩) 1 1]).run Try.prog (W.alloc (.cells #[.int .i64 p.f, .int .i64 p.a, .string p.t] 111)) = .ok (.slice (some ⟨g', 0, none⟩) (L.length + 1) cap') w3 ∧
      w3.ownsRow base 111 3 (.slice (some ⟨g', 0, none⟩) (L.length + 1) cap') (L ++ [p]).length (pc (L ++ [p])) ∧ (W.alloc (.cells #[.int .i64 p.f, .int .i64 p.a, .string p.t] 111)).grownBy w3 u.ownBlock ∧ (u.ownBlock = some g' ∨ W.heap.size ≤ g') := by
  obtain ⟨i0, hi, hz0, hz1, hz2⟩ := info_parts infoRP
  have hbk := Blk.new W 111 #[.int .i64 p.f, .int .i64 p.a, .string p.t]
  obtain ⟨v', w3, hrun, ho3, hg3, _, hw⟩ := run_append_own_at (P := Try.prog) (W.alloc (.cells #[.int .i64 p.f, .int .i64 p.a, .string p.t] 111)) base 69 69 111 i0 (.agg #[.int .i64 0, .int .i64 0, .string (bs [])]) 3 32 Try.underlying69 hi hz0 hz1 hz2 rfl (by decide) _ _ _ (ho.alloc _) ⟨W.heap.size, 0, none⟩ 1 1 (pc [p]) rfl (fun j y hy => by
    rw [Addr.add_lit, Nat.zero_add, hbk.cell]
    rw [← hy]
    match j with
    | 0 => rfl
    | 1 => rfl
    | 2 => rfl
    | j + 3 => simp [pc]) (pc_one _) (by unfold maxLen; omega) (by omega) (by simp; omega)
  obtain ⟨g', cap', rfl⟩ := (show ∃ g cap, v' = .slice (some ⟨g, 0, none⟩) (L.length + 1) cap by
    rcases ho3.2 with ⟨_, h0⟩ | ⟨g, cap, cur, hv, _⟩
    · omega
    · exact ⟨g, cap, hv⟩)
  refine ⟨g', cap', w3, hrun, by rw [List.length_append, pc_append]; exact ho3, hg3, ?_⟩
  rcases hw with hw | hw
  · exact .inl hw.symm
  · right
    simp [Value.ownBlock] at hw
    omega
def RWoR (l : List Pc) (F : Nat) (w : World) (o i : Value) (wl : World) : Prop := ∃ k : Nat, i = .int .i64 k ∧ k ≤ l.length ∧ wl.ownsRow w.heap.size 111 3 o ((l.take k).filter fun p => !decide (p.f = F)).length (pc ((l.take k).filter fun p => !decide (p.f = F))) ∧ Below w.heap.size w wl
def RWoPost (l : List Pc) (w : World) (e : Ending) (w' : World) : Prop := ∃ u, e = .returned u ∧ w'.ownsRow w.heap.size 111 3 u l.length (pc l) ∧ Below w.heap.size w w'
set_option maxRecDepth 100000 in
set_option maxHeartbeats 4000000 in
theorem withoutR {B : Nat → Prop} {w : World} {db : Nat} {s : Dk} (h : RefAt B w db s) (F : Nat) :
    Calls Try.prog 77 #[.pointer (some ⟨db, 0, none⟩), .int .i64 F] w (RWoPost (s.pend.filter fun p => !decide (p.f = F)) w) := by
  obtain ⟨lv, qv, kv, h, _⟩ := h
  have hok := h.ok
  obtain ⟨c0, c1, _⟩ := h.cells
  obtain ⟨A, qcap, rfl, _, _, hA⟩ := own_pcs h.q
  have hdb := h.bx.lt
  have hpn := hok.pn
  obtain ⟨l, hl⟩ : ∃ l, s.pend = l := ⟨_, rfl⟩
  rw [hl] at hA hpn c1 ⊢
  have HC1 : Hid (∀ wl, Below w.heap.size w wl → wl.cell? ⟨db, 1, none⟩ = some (.slice A l.length qcap)) := Lib.hid (fun wl hb => (hb.cell (p := ⟨db, 1, none⟩) hdb).trans c1)
  clear h hok hl c1 c0
  go_enter Try.func77, Try.ntmps77
  go_wp2_with fail
  go_loopw [5, 6] (fun o i wl => RWoR l F w o i wl) (fun _ i _ => l.length - (intOf i).toNat)
  case atStart => exact ⟨0, rfl, by omega, World.ownsRow_nil _ _ _ _, Below.refl _ _⟩
  case round =>
    obtain ⟨k, rfl, hk, ho, hB⟩ := hrel
    have c1 := HC1.out wr hB
    obtain ⟨uA, ucap, rfl, _⟩ := own_pcs ho
    by_cases hlt : k < l.length
    · obtain ⟨b, rfl, hb, hc⟩ := hA (by omega)
      have c2 := (hB.cell (p := ⟨b, k * 3, none⟩) hb).trans (hc k hlt).1
      have c3 := (hB.cell (p := ⟨b, k * 3 + 1, none⟩) hb).trans (hc k hlt).2.1
      have c4 := (hB.cell (p := ⟨b, k * 3 + 2, none⟩) hb).trans (hc k hlt).2.2
      have hfl : (l.take (k + 1)).filter (fun p => !decide (p.f = F)) = (l.take k).filter (fun p => !decide (p.f = F)) ++ if (gp l k).f = F then [] else [gp l k] := by
        rw [take_gp l k hlt, List.filter_append]
        congr 1
        by_cases hf : (gp l k).f = F
        · rw [if_pos hf, List.filter_cons_of_neg (by simp [hf])]; rfl
        · rw [if_neg hf, List.filter_cons_of_pos (by simp [hf])]; rfl
      have hflen := List.length_filter_le (fun p => !decide (p.f = F)) (l.take k)
      rw [List.length_take] at hflen
      obtain ⟨L, hL⟩ : ∃ L, (l.take k).filter (fun p => !decide (p.f = F)) = L := ⟨_, rfl⟩
      rw [hL] at ho hfl hflen
      rw [hL]
      have HFL := Lib.hid hfl
      obtain ⟨p, hp⟩ : ∃ p, gp l k = p := ⟨_, rfl⟩
      rw [hp] at c2 c3 c4 HFL
      have q1 : (k : Int) < l.length := by omega
      have hl1 : L.length ≤ 1000000 := by omega
      obtain ⟨g', cap', w3, hrun, ho3, hg3, _⟩ := pushQ wr w.heap.size _ L p ho hB.size hl1
      have HRUN := Lib.hid hrun
      have HO3 := Lib.hid ho3
      have HO := Lib.hid ho
      have HB := Lib.hid hB
      have HB3 : Hid (Below w.heap.size w w3) := Lib.hid ((hB.trans ((below_new wr (.cells #[.int .i64 p.f, .int .i64 p.a, .string p.t] 111)).mono hB.size)).trans ((Below.refl w.heap.size _).grown hg3 (by have := hB.size; simp; omega) (fun j hj => (World.ownsRow.lt ho j hj).1)))
      obtain ⟨pf, hpf⟩ : ∃ n, p.f = n := ⟨_, rfl⟩
      obtain ⟨pa, hpa⟩ : ∃ n, p.a = n := ⟨_, rfl⟩
      obtain ⟨pt, hpt⟩ : ∃ n, p.t = n := ⟨_, rfl⟩
      rw [hpf] at c2 HRUN
      rw [hpa] at c3 HRUN
      rw [hpt] at c4 HRUN
      have HPF := Lib.hid hpf
      clear hA hc hrun ho3 hg3 ho hB hfl hL hp hpf hpa hpt
      by_cases hf : pf = F
      · subst hf
        have HN : Hid ((l.take (k + 1)).filter (fun p => !decide (p.f = pf)) = L) := Lib.hid (by rw [HFL.out, if_pos HPF.out, List.append_nil])
        clear HFL
        go_wp2_with fail
        go_roundw
        case rel => exact ⟨k + 1, by go_num, by omega, by rw [HN.out]; exact HO.out, HB.out⟩
        case measure => simp [intOf]; omega
      · have hq : ((pf : Int) == (F : Int)) = false := by simp; omega
        have hq2 : ((pf : Int) != (F : Int)) = true := by simp; omega
        have hf2 : ¬ (pf : Int) = (F : Int) := by omega
        have HN : Hid ((l.take (k + 1)).filter (fun p => !decide (p.f = F)) = L ++ [p]) := Lib.hid (by rw [HFL.out, if_neg (by rw [HPF.out]; exact hf)])
        clear HFL
        go_wp2_with (at_builtin; refine Lib.wpList_append_run_sl _ rfl _ _ 69 rfl _ _ rfl rfl HRUN.out ?_)
        go_roundw
        case rel => exact ⟨k + 1, by go_num, by omega, by rw [HN.out]; exact HO3.out, HB3.out⟩
        case measure => simp [intOf]; omega
    · rw [List.take_of_length_le (by omega)] at ho
      have e : (List.take k l) = l := List.take_of_length_le (by omega)
      rw [e]
      have HF : Hid (RWoPost (l.filter fun p => !decide (p.f = F)) w (.returned (.slice uA (l.filter fun p => !decide (p.f = F)).length ucap)) wr) := Lib.hid ⟨_, rfl, ho, hB⟩
      clear hA ho hB e
      go_wp2_with fail
      go_ret
      exact HF.out
end Go.Proofs.Ythdmcjiccbgknaa

namespace Go.Proofs.Ythdmcjiccbgknaa
set_option linter.unusedVariables false
set_option linter.unusedSimpArgs false
open Go.RowKit

set_option maxRecDepth 100000 in
set_option maxHeartbeats 1000000 in
theorem downR {B : Nat → Prop} {w : World} {db : Nat} {s : Dk} (h : RefAt B w db s) :
    Calls Try.prog 43 #[.pointer (some ⟨db, 0, none⟩)] w fun e w' => e = .returned (.bool s.down) ∧ w = w' := by
  obtain ⟨lv, qv, kv, h, _⟩ := h
  obtain ⟨_, _, _, c3, _⟩ := h.cells
  generalize s.down = D at *
  clear h
  go_enter Try.func43, Try.ntmps43
  go_wp2_with fail
  go_ret
  exact ⟨rfl, rfl⟩
set_option maxRecDepth 100000 in
set_option maxHeartbeats 1000000 in
theorem startR {B : Nat → Prop} {w : World} {db : Nat} {s : Dk} (h : RefAt B w db s) :
    Calls Try.prog 21 #[.pointer (some ⟨db, 0, none⟩)] w fun e w' => e = .returned (.tuple #[]) ∧ ROp B w w' db s.start := by
  have HO := Lib.hid (h.set_down false)
  obtain ⟨lv, qv, kv, h, _⟩ := h
  obtain ⟨_, _, _, c3, _, _, fz⟩ := h.cells
  have f3 := fz 3
  clear fz h
  go_enter Try.func21, Try.ntmps21
  go_wp2_with fail
  go_end0
  exact ⟨rfl, HO.out⟩
set_option maxRecDepth 100000 in
set_option maxHeartbeats 1000000 in
theorem loseR {B : Nat → Prop} {w : World} {db : Nat} {s : Dk} (h : RefAt B w db s) (n : Int) (hn : n ≤ 9223372036854775807) :
    Calls Try.prog 24 #[.pointer (some ⟨db, 0, none⟩), .int .i64 n] w fun e w' => e = .returned (.tuple #[]) ∧ ROp B w w' db (s.lose n) := by
  have HO := Lib.hid (h.set_lost n.toNat (by omega))
  obtain ⟨lv, qv, kv, h, _⟩ := h
  obtain ⟨_, _, c2, _, _, _, fz⟩ := h.cells
  have f2 := fz 2
  have e : ((n.toNat : Nat) : Int) = max n 0 := by omega
  rw [e] at HO
  clear fz h e
  go_enter Try.func24, Try.ntmps24
  go_wp2_with fail
  go_end0
  exact ⟨rfl, HO.out⟩
set_option maxRecDepth 100000 in
set_option maxHeartbeats 1000000 in
theorem ReadR {B : Nat → Prop} {w : World} {db : Nat} {s : Dk} (h : RefAt B w db s) (f : Int) :
    Calls Try.prog 28 #[.pointer (some ⟨db, 0, none⟩), .int .i64 f] w fun e w' => e = .returned (.tuple #[.string (s.read f).1, .int .i64 (s.read f).2]) ∧ Below w.heap.size w w' := by
  have HK := Lib.hid (mayR h f)
  have HR : Hid (s.read f = if s.chk f ≠ 0 then (bs [], s.chk f) else (s.bytes f.toNat, 0)) := rfl
  generalize s.read f = R at *
  have hcs := chk_cases s f
  rcases hcs with hc | hc | ⟨hc, hdn, hf0, hf8⟩
  · rw [hc] at HK HR
    clear hc h
    go_enter Try.func28, Try.ntmps28
    go_wp2_with fail
    refine HK.out.mono ?_; rintro e w1 ⟨rfl, rfl⟩
    go_wp2_with fail
    go_ret2
    exact ⟨by rw [HR.out]; rfl, Below.refl _ _⟩
  · rw [hc] at HK HR
    clear hc h
    go_enter Try.func28, Try.ntmps28
    go_wp2_with fail
    refine HK.out.mono ?_; rintro e w1 ⟨rfl, rfl⟩
    go_wp2_with fail
    go_ret2
    exact ⟨by rw [HR.out]; rfl, Below.refl _ _⟩
  · rw [hc] at HK HR
    obtain ⟨F, rfl⟩ : ∃ F : Nat, f = F := ⟨f.toNat, by omega⟩
    have HBY := Lib.hid (readR h F (by omega))
    clear hc h
    go_enter Try.func28, Try.ntmps28
    go_wp2_with fail
    refine HK.out.mono ?_; rintro e w1 ⟨rfl, rfl⟩
    go_wp2_with fail
    refine HBY.out.mono ?_; rintro e w1 ⟨rfl, hb⟩
    have HB := Lib.hid hb
    clear hb
    go_wp2_with fail
    go_ret2
    exact ⟨by rw [HR.out]; rfl, HB.out⟩
/-- A slice value that reads as news, wherever it lies. -/
structure SrcR (w : World) (u : Value) (m sz : Nat) (news : List Value) : Prop where
  ex : ∃ A cap, u = .slice A m cap ∧ news.length = m * sz ∧ (A = none → m = 0) ∧ ∀ ad, A = some ad → ∀ j y, news[j]? = some y → w.cell? (ad.add j) = some y
set_option maxRecDepth 100000 in
theorem SrcR.below {w w' : World} {u : Value} {m sz : Nat} {news : List Value} (h : SrcR w u m sz news) (hb : Below w.heap.size w w') : SrcR w' u m sz news := by
  obtain ⟨A, cap, hv, h0, h1, h2⟩ := h
  exact ⟨A, cap, hv, h0, h1, fun ad ha j y hy => (hb.cell (World.block_lt_of_cell? w _ (h2 ad ha j y hy))).trans (h2 ad ha j y hy)⟩
set_option maxRecDepth 100000 in
theorem SrcR.own {w : World} {base sz n : Nat} {e : TypeId} {v : Value} {xs : List Value} (h : w.ownsRow base e sz v n xs) : SrcR w v n sz xs := by
  rcases h.2 with ⟨rfl, h0⟩ | ⟨g, cap, cur, rfl, _, hg, h1, h2, h3, h4⟩
  · exact ⟨none, 0, by rw [h0], h.1, fun _ => h0, fun ad ha => by cases ha⟩
  · refine ⟨_, cap, rfl, h.1, (fun h => by cases h), fun ad ha j y hy => ?_⟩
    injection ha with ha
    subst ha
    rw [Addr.add_lit, Nat.zero_add, cell_of_row _ _ _ _ _ _ hg]
    have : (cur.toList.take (n * sz))[j]? = cur.toList[j]? := by
      rw [List.getElem?_take, if_pos]
      have := (List.getElem?_eq_some_iff.1 hy).1
      rw [h.1] at this; exact this
    rw [← Array.getElem?_toList, ← this, h4, hy]
set_option maxRecDepth 100000 in
theorem SrcR.ints {w : World} {B : Nat} {u : Value} {l : List Int} (h : IRow w B u l) : SrcR w u l.length 1 (iv l) := by
  obtain ⟨A, cap, rfl, h1, h2, h3, hA⟩ := h
  refine ⟨A, cap, rfl, by rw [iv_length, Nat.mul_one], fun h => by have := h3 h; omega, fun ad ha j y hy => ?_⟩
  subst ha
  rw [iv_get] at hy
  by_cases hj : j < l.length
  · rw [List.getElem?_eq_getElem hj] at hy
    simp only [Option.map_some, Option.some.injEq] at hy
    obtain ⟨b, off, e, _, hc⟩ := hA (by omega)
    injection e with e
    subst e
    rw [Go.WideShapes.add_plain, hc j hj, hy]
  · rw [List.getElem?_eq_none (by omega)] at hy; simp at hy
set_option maxRecDepth 100000 in
/-- What append to an empty new slice does: nothing that was there changes. -/
theorem app_newR {w : World} {t e : TypeId} {i : TypeInfo} {z : Value} {sz bytes : Nat} (ht : Try.prog.underlying t = some (.slice e)) (hi : Try.prog.info? e = some i) (hz : i.zero = some z)
    (hsize : i.size = sz) (hby : i.bytes = bytes) (hzs : z.cells.size = sz) (hsz : 0 < sz) (g : Nat) (hg : w.ownsRow 0 e sz (.slice (some ⟨g, 0, none⟩) 0 0) 0 []) (u : Value) (m : Nat) (news : List Value) (hu : SrcR w u m sz news) (h1 : ∀ y ∈ news, y.oneCell' = true) (hm : m ≤ 1000000) (hb : bytes ≤ 64) :
    ∃ v' w', (Builtin.append_ #[t, t] t #[.slice (some ⟨g, 0, none⟩) 0 0, u]).run Try.prog w = .ok v' w' ∧ w'.ownsRow 0 e sz v' m news ∧ Below w.heap.size w w' ∧ (v'.ownBlock = some g ∨ v'.ownBlock = some w.heap.size) := by
  obtain ⟨A, cap, rfl, h0, h3, hc⟩ := hu
  rcases A with _ | ad
  · obtain rfl : m = 0 := h3 rfl
    obtain rfl : news = [] := List.eq_nil_of_length_eq_zero (by omega)
    have hun := run_underlying (P := Try.prog) ht
    refine ⟨.slice (some ⟨g, 0, none⟩) 0 0, w, ?_, hg, Below.refl _ _, .inl rfl⟩
    simp [Builtin.append_, hun, Builtin.lenOf, Builtin.firstCells, sizeOf, typeInfo, hi, storeCells]
  · by_cases hm0 : m = 0
    · subst hm0
      obtain rfl : news = [] := List.eq_nil_of_length_eq_zero (by omega)
      have hun := run_underlying (P := Try.prog) ht
      refine ⟨.slice (some ⟨g, 0, none⟩) 0 0, w, ?_, hg, Below.refl _ _, .inl rfl⟩
      simp [Builtin.append_, hun, Builtin.lenOf, Builtin.firstCells, sizeOf, typeInfo, hi, storeCells, loadCells, loadCellsFrom]
    · have hmb : m * bytes ≤ 64000000 := by
        have := Nat.mul_le_mul hm hb; omega
      have hr := run_append_grow (P := Try.prog) w t t e i z ht hi hz ⟨g, 0, none⟩ 0 0 [] (by simp) (fun j v h => by simp at h) ad m cap news (by rw [hsize]; exact h0) (hc ad rfl) (by omega) (by omega) (growslice_fits (by omega) (by rw [hby, Nat.zero_add]; omega))
      have hge := grownCap_ge w (0 + m) 0 e
      have hle := grownCap_le_maxLen w (0 + m) 0 e (by unfold maxLen; omega)
      simp only [Nat.zero_add] at hr hge hle
      refine ⟨_, _, hr, ?_, ((Below.refl w.heap.size w).drew).alloc (Nat.le_refl _) _, .inr rfl⟩
      refine ⟨h0, .inr ⟨w.heap.size, _, _, rfl, Nat.zero_le _, heap_alloc_new w.drew _, by omega, hle, ?_, ?_⟩⟩
      · simp only [Array.size_append, List.size_toArray, size_zeroCells, hzs, h0, List.length_nil, Nat.zero_add]
        rw [← Nat.add_mul]
        congr 1
        omega
      · simp only [Array.toList_append, List.append_assoc, List.nil_append]
        rw [← h0]
        exact List.take_left
set_option maxRecDepth 100000 in
theorem own_madeR (w : World) (e : TypeId) (sz : Nat) : (w.alloc (.cells #[] e)).ownsRow 0 e sz (.slice (some ⟨w.heap.size, 0, none⟩) 0 0) 0 [] :=
  ⟨by simp, .inr ⟨w.heap.size, 0, #[], rfl, Nat.zero_le _, heap_alloc_new w _, Nat.le_refl _, by decide, by simp, by simp⟩⟩
set_option maxRecDepth 100000 in
theorem iv_one (l : List Int) : ∀ u ∈ iv l, u.oneCell' = true := fun u hu => by
  obtain ⟨z, _, rfl⟩ := List.mem_map.1 hu; rfl
end Go.Proofs.Ythdmcjiccbgknaa
