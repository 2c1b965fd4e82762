/-
  Contract of the program's lastBlock.
-/
import Derived.Test.YtcekmedfphmpcaaDoorLane
import Derived.Lib.BufferWrite
namespace Go.Proofs.YtcekmedfphmpcaaDoor
set_option linter.unusedVariables false
set_option linter.unusedSimpArgs false
open Go.RowKit

def BSt (w : World) (g : Nat) (L : List UInt8) : Prop := ∃ t, w.heap[g]? = some (.cells (cl L).toArray t (0, 0))
theorem BSt.cell {w : World} {g : Nat} {L : List UInt8} (h : BSt w g L) (i : Nat) (hi : i < L.length) : w.cell? ⟨g, i, none⟩ = some (.int .u8 (L[i].toNat : Nat)) := by
  obtain ⟨t, h⟩ := h
  rw [cell_of_row w g i _ t _ h, List.getElem?_toArray]
  simp [cl, hi]
theorem BSt.free {w : World} {g : Nat} {L : List UInt8} (h : BSt w g L) (i : Nat) : w.frozen? ⟨g, i, none⟩ = false := by
  obtain ⟨t, h⟩ := h
  exact frozen_of_row w g i _ t h
theorem BSt.store {w : World} {g : Nat} {L : List UInt8} (h : BSt w g L) (i : Nat) (u : UInt8) : BSt (w.setCell ⟨g, i, none⟩ (.int .u8 (u.toNat : Nat))) g (L.set i u) := by
  obtain ⟨t, h⟩ := h
  refine ⟨t, ?_⟩
  rw [heap_setCell_same w g i _ t _ h]
  congr 2
  apply Array.ext'
  simp [cl, List.map_set]
theorem BSt.conv {w : World} {g c : Nat} {L : List UInt8} (h : BSt w g L) : (convert 30 9 (.slice (some ⟨g, 0, none⟩) L.length c)).run Tryd.prog w = .ok (.string (bs L)) w := by
  refine run_convert_bytes_back (P := Tryd.prog) w 30 9 5 ⟨g, 0, none⟩ c L Tryd.underlying30 Tryd.underlying5 Tryd.underlying9 (fun j hj => ?_)
  have hadd : (⟨g, 0, none⟩ : Addr).add j = ⟨g, j, none⟩ := by unfold Addr.add; split <;> simp_all
  rw [hadd]
  exact h.cell j hj

def Z136 : Array Value := (cl (List.replicate 136 0)).toArray
theorem mk136 (w : World) : (Instr.makeSlice 30 (.int .i64 136) (.int .i64 136)).run Tryd.prog w = .ok (.slice (some ⟨w.heap.size, 0, none⟩) 136 136) (w.alloc (.cells Z136 5)) := by kernel_rfl

theorem zs_short (l : List UInt8) (h : l.length < 136) : zs l = 135 - l.length := by unfold zs; omega
theorem pad_set (l : List UInt8) (h : l.length < 136) : (l ++ List.replicate (136 - l.length) 0).set l.length 6 = padA l (zs l) := by
  rw [zs_short l h]
  unfold padA
  rw [List.append_assoc, List.set_append_right _ _ (Nat.le_refl _), Nat.sub_self]
  rw [show 136 - l.length = (135 - l.length) + 1 by omega, List.replicate_succ]
  rfl

set_option maxRecDepth 100000 in
set_option maxHeartbeats 2000000 in
theorem lastP (l : List UInt8) (w : World) (hl : l.length < 136) :
    Calls Tryd.prog 24 #[.string (bs l)] w fun e w' => e = .returned (.string (bs (padB l))) ∧ Below w.heap.size w w' := by
  obtain ⟨s, hS⟩ : ∃ s, bs l = s := ⟨_, rfl⟩
  have hsz : s.size = l.length := by rw [← hS, bs_size]
  have hsd : s.data.toList = l := by rw [← hS]; simp [bs]
  have hz := mk136
  have hnew := heap_alloc_new w (.cells Z136 5)
  have hB0 := below_new w (.cells Z136 5)
  have hZ : Z136.size = 136 := rfl
  have hcopy := Lib.run_copy_row_string (P := Tryd.prog) (w.alloc (.cells Z136 5)) 30 9 3 5 w.heap.size 0 136 136 s Z136 5 Tryd.underlying30 (by kernel_rfl) hnew (by omega) (by rw [hZ]; omega)
  have hcells : Z136.toList.take 0 ++ Lib.byteCells s.data.toList ++ Z136.toList.drop (0 + s.size) = cl (l ++ List.replicate (136 - l.length) 0) := by
    have e1 : Lib.byteCells s.data.toList = cl l := by rw [hsd]; rfl
    have e2 : Z136.toList = cl (List.replicate 136 0) := rfl
    rw [e1, e2, cl_append, List.take_zero, List.nil_append, hsz, Nat.zero_add]
    congr 1
    rw [cl, List.map_replicate, List.drop_replicate, cl, List.map_replicate]
  rw [hcells] at hcopy
  have hrow : BSt ((w.alloc (.cells Z136 5)).setRow w.heap.size (cl (l ++ List.replicate (136 - l.length) 0)).toArray) w.heap.size (l ++ List.replicate (136 - l.length) 0) := ⟨5, setRow_heap _ _ _ _ _ _ hnew⟩
  have hB1 : Below w.heap.size w ((w.alloc (.cells Z136 5)).setRow w.heap.size (cl (l ++ List.replicate (136 - l.length) 0)).toArray) :=
    ⟨hB0.os, hB0.tape, hB0.output, by rw [size_setRow]; exact hB0.size, fun k hk => (setRow_other _ _ _ _ (by omega)).trans (hB0.block k hk)⟩
  obtain ⟨W1, hW1⟩ : ∃ W1, (w.alloc (.cells Z136 5)).setRow w.heap.size (cl (l ++ List.replicate (136 - l.length) 0)).toArray = W1 := ⟨_, rfl⟩
  rw [hW1] at hcopy hrow hB1
  obtain ⟨g, hg⟩ : ∃ g, w.heap.size = g := ⟨_, rfl⟩
  rw [hg] at hcopy hrow hB1
  have hgs : ∀ w', (Instr.makeSlice 30 (.int .i64 136) (.int .i64 136)).run Tryd.prog w' = .ok (.slice (some ⟨w'.heap.size, 0, none⟩) 136 136) (w'.alloc (.cells Z136 5)) := hz
  obtain ⟨Z, hZZ⟩ : ∃ Z, Z136 = Z := ⟨_, rfl⟩
  simp only [hZZ] at hgs hcopy
  clear hz hnew hB0 hcells hW1 hZ hZZ
  have hl1 : (l ++ List.replicate (136 - l.length) (0 : UInt8)).length = 136 := by rw [List.length_append, List.length_replicate]; omega
  have c0 := hrow.cell l.length (by omega)
  obtain ⟨cv0, hcv0⟩ : ∃ u, ((l ++ List.replicate (136 - l.length) (0 : UInt8))[l.length]'(by omega)).toNat = u := ⟨_, rfl⟩
  rw [hcv0] at c0
  have f0 := hrow.free l.length
  have h1 := hrow.store l.length 6
  rw [pad_set l hl] at h1
  have hB2 := hB1.setCell (p := ⟨g, l.length, none⟩) (Nat.le_refl _) (.int .u8 ((6 : UInt8).toNat : Nat))
  rw [← hsz] at c0 f0 h1 hB2
  have hzs := zs_short l hl
  have hlen : (padA l (zs l)).length = 136 := by rw [padA_length]; omega
  have c1 := h1.cell 135 (by omega)
  have f1 := h1.free 135
  have hlast := padA_last l (zs l)
  rw [show l.length + zs l = 135 by omega] at hlast
  have hpb : padB l = (padA l (zs l)).set 135 (UInt8.ofNat (lat (nl (padA l (zs l))) 135 + 128)) := by unfold padB; rw [show l.length + zs l = 135 by omega]
  have hxl : lat (nl (padA l (zs l))) 135 = ((padA l (zs l))[135]'(by omega)).toNat := by
    simp [lat, nl, List.getD_eq_getElem?_getD, List.getElem?_eq_getElem (show 135 < (padA l (zs l)).length by omega)]
  rw [hxl] at hlast hpb
  obtain ⟨x, hx⟩ : ∃ x, (padA l (zs l))[135]'(by omega) = x := ⟨_, rfl⟩
  rw [hx] at c1 hlast hpb
  obtain ⟨y, hyy⟩ : ∃ y, UInt8.ofNat (x.toNat + 128) = y := ⟨_, rfl⟩
  have hyv : (y.toNat : Int) = (x.toNat : Int) + 128 := by rw [← hyy, u8_of (by omega)]; omega
  rw [hyy] at hpb
  have h2 := h1.store 135 y
  rw [← hpb] at h2
  have hB3 := hB2.setCell (p := ⟨g, 135, none⟩) (Nat.le_refl _) (.int .u8 (y.toNat : Nat))
  have hcv := h2.conv (c := 136)
  rw [show (padB l).length = 136 by rw [padB_length]; omega] at hcv
  have e6 : ((6 : UInt8).toNat : Int) = 6 := rfl
  simp only [e6] at h1 h2 c1 f1 hB2 hB3 hcv
  rw [hyv] at hcv hB3
  have hlt : s.size < 136 := by omega
  obtain ⟨r, hr⟩ : ∃ r, bs (padB l) = r := ⟨_, rfl⟩
  rw [hr] at hcv
  rw [hr, hS]
  have HB3 := Lib.hid hB3
  have HG := Lib.hid hg
  clear hxl hx hyy hpb h2 h1 hrow hB1 hB2 hB3 hcv0 hzs hlen hl1 hS hsd e6 hyv hr hsz hl
  go_enter Tryd.func24, Tryd.ntmps24
  go_wp2
  go_ret
  exact ⟨rfl, by rw [HG.out]; exact HB3.out⟩
end Go.Proofs.YtcekmedfphmpcaaDoor
