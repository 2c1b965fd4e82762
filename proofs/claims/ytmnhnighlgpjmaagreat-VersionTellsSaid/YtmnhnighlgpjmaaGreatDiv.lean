/-
  The program's divide: its beginning.
-/
import Derived.Test.YtmnhnighlgpjmaaGreatDivZ
import Derived.Deep.RegionWith
namespace Go.Proofs.YtmnhnighlgpjmaaGreat
set_option linter.unusedVariables false
set_option linter.unusedSimpArgs false
open Go.RowKit

theorem mkL_all (n : Nat) (hn : n ≤ 900) : ∃ Z : Array Value, Z = (List.replicate n (Value.slice none 0 0)).toArray ∧ ∀ w : World, (Instr.makeSlice 45 (.int .i64 (n : Int)) (.int .i64 (n : Int))).run Tryz.prog w = .ok (.slice (some ⟨w.heap.size, 0, none⟩) n n) (w.alloc (.cells Z 33)) := by
  obtain ⟨i0, hi, hz0, hz1, hz2⟩ := info_parts infoL
  refine ⟨_, rfl, fun w => ?_⟩
  have hr := run_makeSlice (P := Tryz.prog) w 45 33 i0 (.slice none 0 0) Tryz.underlying45 hi hz0 .i64 .i64 n n (by omega) (by omega) (by rw [hz1]; omega) (by rw [hz2]; omega) (by omega)
  rw [hz1] at hr
  simp only [Int.toNat_natCast] at hr
  have e : madeCells (Value.slice none 0 0).cells (n * 1) = (List.replicate n (Value.slice none 0 0)).toArray := Array.ext' (madeCells_one _ rfl n)
  rw [e] at hr
  exact hr
theorem mkI_all (n : Nat) (hn : n ≤ 900) : ∃ Z : Array Value, Z = (List.replicate n (Value.int .i64 0)).toArray ∧ ∀ w : World, (Instr.makeSlice 33 (.int .i64 (n : Int)) (.int .i64 (n : Int))).run Tryz.prog w = .ok (.slice (some ⟨w.heap.size, 0, none⟩) n n) (w.alloc (.cells Z 3)) := by
  obtain ⟨i0, hi, hz0, hz1, hz2⟩ := info_parts infoI
  refine ⟨_, rfl, fun w => ?_⟩
  have hr := run_makeSlice (P := Tryz.prog) w 33 3 i0 (.int .i64 0) Tryz.underlying33 hi hz0 .i64 .i64 n n (by omega) (by omega) (by rw [hz1]; omega) (by rw [hz2]; omega) (by omega)
  rw [hz1] at hr
  simp only [Int.toNat_natCast] at hr
  have e : madeCells (Value.int .i64 0).cells (n * 1) = (List.replicate n (Value.int .i64 0)).toArray := Array.ext' (madeCells_one _ rfl n)
  rw [e] at hr
  exact hr

theorem bcell {W w1 : World} (hb : Below W.heap.size W w1) : (∀ b o, b < W.heap.size → w1.cell? ⟨b, o, none⟩ = W.cell? ⟨b, o, none⟩) ∧ (∀ b o, b < W.heap.size → w1.frozen? ⟨b, o, none⟩ = W.frozen? ⟨b, o, none⟩) :=
  ⟨fun b o h => hb.cell (p := ⟨b, o, none⟩) h, fun b o h => hb.frozen (p := ⟨b, o, none⟩) h⟩
def DRel1 (w0 : World) (gb gh gn go n k m : Nat) (H : List Nat) (N P : List (List Nat)) (vs : List Value) (i : Value) (wl : World) : Prop := ∃ (j : Nat), i = .int .i64 j ∧ j ≤ m ∧ DivSt w0 gb gh gn go n H vs P (openL H n (pairsTo N k j)) wl
def DRel (w0 : World) (gb gh gn go n : Nat) (H : List Nat) (N : List (List Nat)) (i : Value) (wl : World) : Prop := ∃ (k : Nat) (vs : List Value), i = .int .i64 k ∧ k ≤ n ∧ DivSt w0 gb gh gn go n H vs (addA n (byHead H k)) (openL H n (pairsTo N k 0)) wl
set_option maxRecDepth 100000 in
set_option maxHeartbeats 8000000 in
theorem divideP (nv bv : Value) (N NB : List (List Nat)) (A : Arcs) (n : Nat) (w : World) (hAn : ∀ a ∈ A, a.1 < n ∧ a.2 < n) (hN : Succ n N) (hNB : Succ n NB) (hA : ∀ v, v < n → ∀ x, x ∈ N.getD v [] ↔ (v, x) ∈ A) (hAB : ∀ v, v < n → ∀ x, x ∈ NB.getD v [] ↔ (x, v) ∈ A) (hL : ∀ v, (N.getD v []).length ≤ 1000000) (hLB : ∀ v, (NB.getD v []).length ≤ 1000000) (hn : n ≤ 900) (hr : LRow w w.heap.size nv (N.map zi)) (hrB : LRow w w.heap.size bv (NB.map zi)) :
    Calls Tryz.prog 42 #[nv, bv] w (DivPost (hdL A n) N n w) := by
  obtain ⟨i0, hi, hz0, hz1, hz2⟩ := info_parts infoI
  obtain ⟨AN, capN, hnv, hrd⟩ := hr.rd hN.len
  subst hnv
  obtain ⟨AB, capB, hbv, _⟩ := hrB.rd hNB.len
  subst hbv
  obtain ⟨ZL, hZL, hmL⟩ := mkL_all n hn
  obtain ⟨ZI, hZI, hmI⟩ := mkI_all n hn
  have HRD := Lib.hid hrd
  have HLN := Lib.hid hL
  have HSN := Lib.hid hN
  have HNB : Hid (∀ k j : Nat, k ≤ n → j ≤ 1000000 → (pairsTo N k j).length ≤ 1000000000) := fun k j h1 h2 => by
    have h3 := pairsTo_len N 1000000 (fun l hl => by
      obtain ⟨i, hi, rfl⟩ := List.getElem_of_mem hl
      have := hL i
      rw [List.getD_eq_getElem?_getD, List.getElem?_eq_getElem hi] at this
      exact this) k j (by rw [hN.len]; exact h1) h2
    have h4 : k * 1000000 ≤ 900 * 1000000 := Nat.mul_le_mul_right _ (by omega)
    omega
  clear hrd
  have HZL := Lib.hid hZL
  have HZI := Lib.hid hZI
  have HHD : Hid (∀ w' : World, Below w.heap.size w w' → Calls Tryz.prog 64 #[.slice AN n capN, .slice AB n capB] w' (HeadPost A n w')) := fun w' hb => headsP _ _ N NB A n w' hAn hN hNB hA hAB hL hLB hn (hr.keep hb) (hrB.keep hb)
  clear hZL hZI hr hrB hAn hN hNB hA hAB hL hLB
  go_enter Tryz.func42, Tryz.ntmps42
  go_wp2_with fail
  have hblk := Blk.new w 62 #[.slice none 0 0, .slice none 0 0, .slice none 0 0]
  have hb0 := below_new w (.cells #[.slice none 0 0, .slice none 0 0, .slice none 0 0] 62)
  obtain ⟨W1, hW1⟩ : ∃ W1, w.alloc (.cells #[.slice none 0 0, .slice none 0 0, .slice none 0 0] 62) = W1 := ⟨_, rfl⟩
  rw [hW1] at hblk hb0 ⊢
  have hrs := hblk.lt
  have HBW : Hid (∀ X, Below W1.heap.size W1 X → Below w.heap.size w X) := fun X h => hb0.trans (h.mono hb0.size)
  have HHD1 : Hid (∀ w' : World, Below W1.heap.size W1 w' → Calls Tryz.prog 64 #[.slice AN n capN, .slice AB n capB] w' (HeadPost A n w')) := fun w' h => HHD.out w' (HBW.out w' h)
  have HB0 : Hid (Below W1.heap.size W1 W1) := Lib.hid (Below.refl _ _)
  obtain ⟨r, hr⟩ : ∃ r, w.heap.size = r := ⟨_, rfl⟩
  rw [hr] at hblk hrs
  have HBK := Lib.hid hblk
  have HR := Lib.hid hr
  rw [hr]
  clear hblk hW1 hr hb0 HHD
  have hA1 : ∀ (X : World) (o : Obj) (b i : Nat), b < X.heap.size → (X.alloc o).cell? ⟨b, i, none⟩ = X.cell? ⟨b, i, none⟩ := fun X o b i h => (below_new X o).cell (p := ⟨b, i, none⟩) h
  have hA2 : ∀ (X : World) (o : Obj) (b i : Nat), b < X.heap.size → (X.alloc o).frozen? ⟨b, i, none⟩ = X.frozen? ⟨b, i, none⟩ := fun X o b i h => (below_new X o).frozen (p := ⟨b, i, none⟩) h
  rename_i K hK
  suffices key : ∀ (gb gh gn go : Nat) (W : World), Hid (DivSt W1 gb gh gn go n ((List.range n).map (hd A n)) (List.replicate n (.slice none 0 0)) (List.replicate n []) (List.replicate n 0) W) →
      K { tmps := #[.slice AN n capN, .slice AB n capB, undef, undef, .pointer (some ⟨r, 0, none⟩), .int .i64 n, .pointer (some ⟨gb, 0, none⟩), undef, undef, undef, undef, .slice AN n capN, .int .i64 n, .slice AN n capN, .slice AB n capB, .slice (some ⟨gh, 0, none⟩) n n, .int .i64 n, .slice (some ⟨gn, 0, none⟩) n n, .int .i64 n, .slice (some ⟨go, 0, none⟩) n n, .agg #[.slice (some ⟨gh, 0, none⟩) n n, .slice (some ⟨gn, 0, none⟩) n n, .slice (some ⟨go, 0, none⟩) n n], undef, undef, undef, undef, undef, undef, undef, undef, undef, undef, undef, undef, undef, undef, undef, undef, undef, undef, undef, undef, undef, undef, undef, undef, undef, undef, undef, undef, undef, undef, undef, undef, undef, undef, undef, undef, undef, undef, undef, undef, undef, undef, undef, undef, undef, undef], defers := [] } W by
    go_region_with (go_at_call 64; refine (HHD1.out _ (Below.drew (by repeat' (first | exact HB0.out | refine Below.alloc ?_ ?_ _ | (simp; done) | (simp; omega))))).mono ?_; rintro e wh ⟨gh, rfl, hho, hhb⟩; have hbc := (bcell hhb).1; have hbf := (bcell hhb).2; have hbk := fun (b : Nat) (h : b < _) => Nat.lt_of_lt_of_le h hhb.size; have ha1 := (World.ownsRow.lt hho gh rfl).1; have ha2 := (World.ownsRow.lt hho gh rfl).2; have ha3 := hhb.size; (try simp at ha1 ha3); have hz0 : W1.heap.size < wh.heap.size := (by omega); have hz1 : W1.heap.size < wh.heap.size + 1 := (by omega); have hz2 : W1.heap.size < (wh.alloc (.cells ZL 33)).heap.size := (by simp; omega); have hz3 : W1.heap.size < (wh.alloc (.cells ZI 3)).heap.size := (by simp; omega); have hz4 : W1.heap.size ≤ wh.heap.size := (by omega); replace hho := Lib.hid hho; replace hhb := Lib.hid hhb)
    all_goals
      refine key _ _ _ _ _ (Lib.hid (div_mk ?_ ?_ ?_ ?_ ?_ ?_ ?_))
      · repeat' (first | (with_reducible refine blk_mk _ _ _ _ ?_; first | rfl | (simp; done)) | with_reducible refine blk_alloc ?_ _ | with_reducible refine blk_full ?_ | with_reducible refine blk_drew ?_ | with_reducible refine blk_call hhb.out ?_)
      · repeat' (first | with_reducible refine own_alloc ?_ _ | with_reducible refine own_set ?_ ?_ _ | (with_reducible refine hho.out.base ?_; first | (simp; done) | (simp; omega)) | omega)
      · repeat' (first | (with_reducible refine mk_nest _ _ _ _ HZL.out ?_ ?_ <;> first | (simp; done) | (simp; omega) | omega) | with_reducible refine nest_alloc ?_ _ | with_reducible refine nest_set ?_ ?_ _ | with_reducible refine nest_drew ?_ | with_reducible refine nest_call hhb.out ?_ | omega)
      · repeat' (first | (with_reducible refine mk_own _ _ _ _ HZI.out ?_ ?_ hn <;> first | (simp; done) | (simp; omega) | omega) | with_reducible refine own_alloc ?_ _ | with_reducible refine own_set ?_ ?_ _ | with_reducible refine own_drew ?_ | with_reducible refine own_call hhb.out ?_ | omega)
      · omega
      · repeat' (first | with_reducible exact HB0.out | with_reducible refine Below.alloc ?_ ?_ _ | with_reducible refine below_set ?_ ?_ | with_reducible refine Below.drew ?_ | with_reducible refine below_call ?_ hhb.out ?_ | (simp; done) | (simp; omega) | omega)
      · first | omega | (simp; done) | (simp; omega)
  intro gb gh gn go W HD
  apply hK
  clear hK HHD1 HZL HZI hmL hmI HB0 hA1 hA2
  have c0 : W.cell? ⟨gb, 0, none⟩ = some (.slice (some ⟨gh, 0, none⟩) n n) := HD.out.box.cell 0
  go_wp2_with fail
  go_loopw [24] (fun i wl => DRel W1 gb gh gn go n (hdL A n) N i wl) (fun i _ => n - (intOf i).toNat)
  case atStart => exact ⟨0, _, rfl, by omega, by rw [byHead_zero, pairsTo_zero, openL_nil]; exact HD.out⟩
  case round =>
    obtain ⟨k, vs, rfl, hk, hD⟩ := hrel
    by_cases hlt : k < n
    · have d0 : wr.cell? ⟨gb, 0, none⟩ = some (.slice (some ⟨gh, 0, none⟩) n n) := hD.box.cell 0
      have d1 : wr.cell? ⟨gb, 1, none⟩ = some (.slice (some ⟨gn, 0, none⟩) n n) := hD.box.cell 1
      have hHl : (hdL A n).length = n := by simp [hdL]
      have ch := hD.at_.h.cell k (by rw [zi_length, hHl]; exact hlt)
      have hhd := (hd_mem (A := A) hlt).1
      have e1 : (zi (hdL A n))[k]'(by rw [zi_length, hHl]; exact hlt) = ((hd A n k : Nat) : Int) := by simp [zi, hdL]
      rw [e1] at ch
      obtain ⟨h, hh⟩ : ∃ h, hd A n k = h := ⟨_, rfl⟩
      rw [hh] at ch hhd
      obtain ⟨u, hu1, hu2, hu3⟩ := hD.at_.p.at h (by rw [List.length_map, addA_length]; exact hhd)
      have f1 := hD.at_.p.free h
      have hh0 : (0 : Int) ≤ h := by omega
      have hhi : (h : Int) < n := by omega
      have hki : (k : Int) < n := by omega
      have hk0 : (0 : Int) ≤ k := by omega
      have hBe : byHead (hdL A n) (k + 1) = byHead (hdL A n) k ++ [(h, k)] := by rw [byHead_succ]; rw [show (hdL A n).getD k 0 = h from (getD_hd A n k hlt).trans hh]
      have e2 : ((addA n (byHead (hdL A n) k)).map zi)[h]'(by rw [List.length_map, addA_length]; exact hhd) = zi ((addA n (byHead (hdL A n) k)).getD h []) := by
        rw [List.getElem_map, List.getD_eq_getElem?_getD, List.getElem?_eq_getElem (by rw [addA_length]; exact hhd)]; rfl
      rw [e2] at hu3
      have hown : wr.ownsRow W1.heap.size 3 1 u ((addA n (byHead (hdL A n) k)).getD h []).length (iv (zi ((addA n (byHead (hdL A n) k)).getD h []))) := by
        have := hu3; unfold OwnI at this; rw [zi_length] at this; exact this
      have hle : ((addA n (byHead (hdL A n) k)).getD h []).length ≤ 1000 := by
        have h1 := addA_len n (byHead (hdL A n) k) h
        have h2 : (byHead (hdL A n) k).length = k := by simp [byHead]
        omega
      have HAD := Lib.hid (fun (v' : Value) (w2 : World) h1 h2 h3 => hD.push (h, k) hhd hu1 (.cells #[.int .i64 (k : Int)] 3) (v' := v') (w2 := w2) h1 h2 h3)
      have hbs := hD.below.size
      have HOW := Lib.hid hown
      have HL1 : Hid (((addA n (byHead (hdL A n) k)).getD h []).length + 1 ≤ maxLen) := Lib.hid (by unfold maxLen; omega)
      have HL2 : Hid ((((addA n (byHead (hdL A n) k)).getD h []).length + 1) * 8 ≤ 140737488355328) := Lib.hid (by omega)
      have HL3 : Hid (W1.heap.size ≤ (wr.alloc (.cells #[.int .i64 (k : Int)] 3)).drew.heap.size) := Lib.hid (by simp; omega)
      have z0 : wr.drew.cell? ⟨gb, 1, none⟩ = some (.slice (some ⟨gn, 0, none⟩) n n) := d1
      have z1 : (wr.alloc (.cells #[.int .i64 (k : Int)] 3)).drew.cell? ⟨gb, 1, none⟩ = some (.slice (some ⟨gn, 0, none⟩) n n) := keep_below (below_new wr _) d1
      have z2 : wr.drew.cell? ⟨gn, h, none⟩ = some u := hu2
      have z3 : (wr.alloc (.cells #[.int .i64 (k : Int)] 3)).drew.cell? ⟨gn, h, none⟩ = some u := keep_below (below_new wr _) hu2
      have HDW := Lib.hid hD
      have HHH := Lib.hid hh
      have HBE := Lib.hid hBe
      clear hh e1 hD hBe e2 hu1 hu3 hown hle f1 hbs
      go_wp2_with fail
      rename_i K2 hK2
      suffices key2 : ∀ (y29 y30 y31 y32 y33 y34 y35 y36 y37 y38 y39 y40 : Value) (vs2 : List Value) (W2 : World), Hid (DivSt W1 gb gh gn go n (hdL A n) vs2 (addA n (byHead (hdL A n) k ++ [(h, k)])) (openL (hdL A n) n (pairsTo N k 0)) W2) →
          K2 { tmps := #[.slice AN n capN, .slice AB n capB, undef, undef, .pointer (some ⟨r, 0, none⟩), .int .i64 n, .pointer (some ⟨gb, 0, none⟩), .int .i64 k, .int .i64 h, undef, u10, .slice AN n capN, .int .i64 n, .slice AN n capN, .slice AB n capB, .slice (some ⟨gh, 0, none⟩) n n, .int .i64 n, .slice (some ⟨gn, 0, none⟩) n n, .int .i64 n, .slice (some ⟨go, 0, none⟩) n n, .agg #[.slice (some ⟨gh, 0, none⟩) n n, .slice (some ⟨gn, 0, none⟩) n n, .slice (some ⟨go, 0, none⟩) n n], .pointer (some ⟨gb, 0, none⟩), .slice (some ⟨gh, 0, none⟩) n n, .int .i64 n, .int .i64 k, .bool true, .int .i64 k, .pointer (some ⟨gh, k, none⟩), .int .i64 h, y29, y30, y31, y32, y33, y34, y35, y36, y37, y38, y39, y40, u41, u42, u43, u44, u45, u46, u47, u48, u49, u50, u51, u52, u53, u54, u55, u56, u57, u58, u59, u60, u61, u62, u63, u64, u65, undef], defers := [] } W2 by
        go_region_law ((refine step_append_lies _ (by rfl) _ _ _ (by rfl) W1.heap.size 3 i0 (.int .i64 0) 1 8 Tryz.underlying33 hi hz0 hz1 hz2 rfl (by omega) _ _ _ (by rfl) ((HOW.out.alloc _).drew) ⟨wr.heap.size, 0, none⟩ 1 1 [.int .i64 (k : Int)] (by rfl) (by rfl) (World.news_of_block (cs := #[.int .i64 (k : Int)]) (t := 3) (fr := (0, 0)) (heap_alloc_new wr _)) (by simp [Value.oneCell']) (by omega) HL1.out HL2.out HL3.out (wr.heap.size + 1) (by simp) ?_; intro gg cap3 w3 hown3 hgrow3 hat3 hlt3; obtain ⟨hc3, hf3, hb3, hn3⟩ := HAD.out _ w3 hown3 ⟨hgrow3.os, hgrow3.tape, hgrow3.output, hgrow3.size, hgrow3.block⟩ (hat3.elim (fun h => .inl h.symm) (fun h => .inr (by rw [h]; simp [Value.ownBlock]))); replace hn3 := Lib.hid hn3; clear hown3 hgrow3 hat3 hlt3))
        all_goals
          exact key2 _ _ _ _ _ _ _ _ _ _ _ _ _ _ (Lib.hid hn3.out)
      intro y29 y30 y31 y32 y33 y34 y35 y36 y37 y38 y39 y40 vs2 W2 HD2
      apply hK2
      obtain ⟨b, off, uv, A2, cap2, rfl, hbn, hun, rfl, hin⟩ := HRD.out k hlt
      have hHl := hd_mem (A := A) hlt
      have cn := ((HBW.out _ HD2.out.below).cell (p := ⟨b, off + k, none⟩) hbn).trans hun
      obtain ⟨m, hm⟩ : ∃ m, (N.getD k []).length = m := ⟨_, rfl⟩
      have HIN := Lib.hid hin
      have hmb := HLN.out k
      rw [hm] at cn hmb
      have HM := Lib.hid hm
      clear hK2 HAD HOW HL1 HL2 HL3 z0 z1 z2 z3 hin hun hm ch hHl
      obtain ⟨wo, rfl⟩ : ∃ wo : World, wo = wr := ⟨_, rfl⟩
      go_wp2_with fail
      go_loopw [46] (fun i wl => DRel1 W1 gb gh gn go n k m (hdL A n) N (addA n (byHead (hdL A n) k ++ [(h, k)])) vs2 i wl) (fun i _ => m - (intOf i).toNat)
      case atStart => exact ⟨0, rfl, by omega, HD2.out⟩
      case round =>
        obtain ⟨j, rfl, hj, hD⟩ := hrel
        by_cases hlt2 : j < m
        · have hjl : j < (N.getD k []).length := by rw [HM.out]; exact hlt2
          obtain ⟨b2, off2, rfl, hb2, hcs⟩ := HIN.out (by omega)
          have c2 := ((HBW.out _ hD.below).cell (p := ⟨b2, off2 + j, none⟩) hb2).trans (hcs j hjl)
          have hxn := HSN.out.get (v := k) _ (List.getElem_mem hjl)
          have hst := pairsTo_step N k j hjl
          obtain ⟨x, hx⟩ : ∃ x, (N.getD k [])[j] = x := ⟨_, rfl⟩
          rw [hx] at c2 hxn hst
          have e0 : wr.cell? ⟨gb, 0, none⟩ = some (.slice (some ⟨gh, 0, none⟩) n n) := hD.box.cell 0
          have e2 : wr.cell? ⟨gb, 2, none⟩ = some (.slice (some ⟨go, 0, none⟩) n n) := hD.box.cell 2
          have hHl : (hdL A n).length = n := by simp [hdL]
          have cx := hD.at_.h.cell x (by rw [zi_length, hHl]; exact hxn)
          have ex : (zi (hdL A n))[x]'(by rw [zi_length, hHl]; exact hxn) = ((hd A n x : Nat) : Int) := by simp [zi, hdL]
          rw [ex] at cx
          have gx : (hdL A n).getD x 0 = hd A n x := getD_hd A n x hxn
          have gk : (hdL A n).getD k 0 = h := (getD_hd A n k hlt).trans HHH.out
          obtain ⟨q, hq⟩ : ∃ q, hd A n x = q := ⟨_, rfl⟩
          rw [hq] at cx gx
          have hx0 : (0 : Int) ≤ x := by omega
          have hxi : (x : Int) < n := by omega
          by_cases hqh : q = h
          · have hqb : ((q : Int) == (h : Int)) = true := by simp [hqh]
            have HN2 : Hid (DivSt W1 gb gh gn go n (hdL A n) vs2 (addA n (byHead (hdL A n) k ++ [(h, k)])) (openL (hdL A n) n (pairsTo N k (j + 1))) wr) := Lib.hid (by rw [hst, openL_in (by rw [gx, gk, hqh])]; exact hD)
            clear hjl hcs hst hx hHl ex gx gk hq hD
            go_wp2_with fail
            go_roundw
            case rel => exact ⟨j + 1, by go_num, by omega, HN2.out⟩
            case measure => simp [intOf]; omega
          · have hqb : ((q : Int) == (h : Int)) = false := by simp; omega
            have hout := openL_out (n := n) (L := pairsTo N k j) (v := k) (w := x) (H := hdL A n) (by rw [gx, gk]; exact hqh) (by rw [gk]; exact hhd)
            rw [gk] at hout
            have hOl := openL_length (hdL A n) n (pairsTo N k j)
            have hle := Nat.le_trans (openL_le (hdL A n) n (pairsTo N k j) h) (HNB.out k j (by omega) (by omega))
            obtain ⟨O, hO⟩ : ∃ O, openL (hdL A n) n (pairsTo N k j) = O := ⟨_, rfl⟩
            rw [hO] at hout hOl hD hle
            have co := hD.at_.o.cell h (by rw [zi_length, hOl]; exact hhd)
            have eo : (zi O)[h]'(by rw [zi_length, hOl]; exact hhd) = ((O.getD h 0 : Nat) : Int) := by simp [zi, List.getD_eq_getElem?_getD, hOl, hhd]
            rw [eo] at co
            have hD3 := hD.open h (O.getD h 0 + 1) (by rw [hOl]; exact hhd)
            have fz : wr.frozen? ⟨go, h, none⟩ = false := by
              have h1 := hD.at_.o
              unfold OwnI at h1
              rw [zi_length, hOl] at h1
              exact own_free h1 h
            obtain ⟨z, hz⟩ : ∃ z, O.getD h 0 = z := ⟨_, rfl⟩
            rw [hz] at co hD3 hout hle
            have hzb : z ≤ 1000000000 := hle
            have HN2 : Hid (DivSt W1 gb gh gn go n (hdL A n) vs2 (addA n (byHead (hdL A n) k ++ [(h, k)])) (openL (hdL A n) n (pairsTo N k (j + 1))) (wr.setCell ⟨go, h, none⟩ (.int .i64 ((z : Int) + 1)))) := Lib.hid (by rw [hst, hout]; exact hD3)
            clear hjl hcs hst hx hHl ex gx gk hq hout hOl hle hO eo hD3 hD hz
            go_wp2_with fail
            go_roundw
            case rel => exact ⟨j + 1, by go_num, by omega, HN2.out⟩
            case measure => simp [intOf]; omega
        · have hjm : j = m := by omega
          rw [hjm, pairsTo_next N k m (by rw [HM.out]; omega)] at hD
          have HN2 : Hid (DivSt W1 gb gh gn go n (hdL A n) vs2 (addA n (byHead (hdL A n) (k + 1))) (openL (hdL A n) n (pairsTo N (k + 1) 0)) wr) := Lib.hid (by rw [HBE.out]; exact hD)
          have hge : ¬ ((j : Int) < m) := by omega
          clear hjm hD
          go_wp2_with fail
          go_roundw
          case rel => exact ⟨k + 1, vs2, by go_num, by omega, HN2.out⟩
          case measure => simp [intOf]; omega
    · have hkn : k = n := by omega
      rw [hkn] at hD
      have b0 : wr.cell? ⟨gb, 0, none⟩ = some (.slice (some ⟨gh, 0, none⟩) n n) := hD.box.cell 0
      have b1 : wr.cell? ⟨gb, 1, none⟩ = some (.slice (some ⟨gn, 0, none⟩) n n) := hD.box.cell 1
      have b2 : wr.cell? ⟨gb, 2, none⟩ = some (.slice (some ⟨go, 0, none⟩) n n) := hD.box.cell 2
      have hbr := HBK.out.below hD.below hrs
      have r0 : wr.cell? ⟨r, 0, none⟩ = some (.slice none 0 0) := hbr.cell 0
      have r1 : wr.cell? ⟨r, 1, none⟩ = some (.slice none 0 0) := hbr.cell 1
      have r2 : wr.cell? ⟨r, 2, none⟩ = some (.slice none 0 0) := hbr.cell 2
      have hrb : wr.heap[r]? = some (.cells #[.slice none 0 0, .slice none 0 0, .slice none 0 0] 62 (0, 0)) := hbr
      have s0 : wr.frozen? ⟨r, 0, none⟩ = false := by simp [World.frozen?, hrb]
      have s1 : wr.frozen? ⟨r, 1, none⟩ = false := by simp [World.frozen?, hrb]
      have s2 : wr.frozen? ⟨r, 2, none⟩ = false := by simp [World.frozen?, hrb]
      have HBF := Lib.hid (blk_full (a := .slice (some ⟨gh, 0, none⟩) n n) (b := .slice (some ⟨gn, 0, none⟩) n n) (c := .slice (some ⟨go, 0, none⟩) n n) hbr)
      have HDF : Hid (DivPost (hdL A n) N n w (.returned (.agg #[.slice (some ⟨gh, 0, none⟩) n n, .slice (some ⟨gn, 0, none⟩) n n, .slice (some ⟨go, 0, none⟩) n n])) (((wr.setCell ⟨r, 0, none⟩ (.slice (some ⟨gh, 0, none⟩) n n)).setCell ⟨r, 1, none⟩ (.slice (some ⟨gn, 0, none⟩) n n)).setCell ⟨r, 2, none⟩ (.slice (some ⟨go, 0, none⟩) n n))) := Lib.hid (by
        have hg := ((grown_set wr r 0 (.slice (some ⟨gh, 0, none⟩) n n)).trans (grown_set _ r 1 (.slice (some ⟨gn, 0, none⟩) n n))).trans (grown_set _ r 2 (.slice (some ⟨go, 0, none⟩) n n))
        have h9 := HR.out
        have h8 : pairsTo N n 0 = pairs N := by rw [← HSN.out.len]; exact pairsTo_all N
        have h7 := hD.at_.other hg hrs (base' := w.heap.size) (by omega)
        rw [h8] at h7
        exact ⟨gh, gn, go, vs, rfl, h7, (HBW.out _ hD.below).grown hg (HBW.out _ hD.below).size (fun k hk => by injection hk with hk; omega)⟩)
      have hge : ¬ ((k : Int) < n) := by omega
      clear hkn hD hbr hrb
      go_wp2_with fail
      refine bodyPost_ret (v := .agg #[.slice (some ⟨gh, 0, none⟩) n n, .slice (some ⟨gn, 0, none⟩) n n, .slice (some ⟨go, 0, none⟩) n n]) (results_cell_row Tryz.results42 _ _ r 62 #[.slice (some ⟨gh, 0, none⟩) n n, .slice (some ⟨gn, 0, none⟩) n n, .slice (some ⟨go, 0, none⟩) n n] (0, 0) _ rfl HBF.out Tryz.underlying62 rfl (by kernel_rfl)) rfl HDF.out
end Go.Proofs.YtmnhnighlgpjmaaGreat
