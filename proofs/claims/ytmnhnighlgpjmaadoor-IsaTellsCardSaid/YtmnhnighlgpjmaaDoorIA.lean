/-
  Package isa: Parse.
-/
import Derived.Test.YtmnhnighlgpjmaaDoorI9
namespace Go.Proofs.YtmnhnighlgpjmaaDoor
set_option linter.unusedVariables false
set_option linter.unusedSimpArgs false
open Go.RowKit

theorem set5_alloc {w : World} {b : Nat} {y0 y1 y2 y3 y4 : Value} {t : TypeId} (h : w.heap[b]? = some (.cells #[y0, y1, y2, y3, y4] t)) (x0 x1 x2 x3 x4 : Value) (o : Obj) :
    ((((((w.setCell ⟨b, 0, none⟩ x0).setCell ⟨b, 1, none⟩ x1).setCell ⟨b, 2, none⟩ x2).setCell ⟨b, 3, none⟩ x3).setCell ⟨b, 4, none⟩ x4).alloc o).heap[b]? = some (.cells #[x0, x1, x2, x3, x4] t) := by
  have h5 := set5 h x0 x1 x2 x3 x4
  rw [Below.heap_alloc _ _ _ (Array.getElem?_eq_some_iff.1 h5).1]; exact h5
theorem two_old (w : World) (a b : Obj) (k : Nat) (h : k < w.heap.size) : ((w.alloc a).alloc b).heap[k]? = w.heap[k]? := by
  rw [Below.heap_alloc _ _ _ (by simp; omega), Below.heap_alloc _ _ _ h]
theorem two_snd (w : World) (a b : Obj) : ((w.alloc a).alloc b).heap[w.heap.size + 1]? = some b := by
  show ((w.heap.push a).push b)[w.heap.size + 1]? = some b
  rw [show w.heap.size + 1 = (w.heap.push a).size by simp, Array.getElem?_push_size]
/-- What Parse answers for a name's Op and what is behind it. -/
def parsOp (o : Nat) (r : List UInt8) : Ins × Int :=
  if o = 0 then (Ins.zero, 2) else if (pOps (opsN o) r).2 then (if rightB { (pOps (opsN o) r).1 with op := (o : Nat) } then ({ (pOps (opsN o) r).1 with op := (o : Nat) }, 0) else (Ins.zero, 6)) else (Ins.zero, 2)
/-- What Parse answers. -/
def parsN (l : List UInt8) : Ins × Int := parsOp (opOf (wordOf l)) (restOf l)

theorem rest_le (l : List UInt8) : (restOf l).length ≤ l.length := by
  unfold restOf
  exact Nat.le_trans (List.IsSuffix.length_le (List.dropWhile_suffix _)) (trimS_le l)

set_option maxRecDepth 100000 in
set_option maxHeartbeats 4000000 in
theorem parseP (s : ByteArray) (w : World) (hs : s.size < 4294967281) (hL : LaidI w) (hI : IdxAny (arr (Lib.trimS s.data.toList blk))) :
    Calls Tryd.prog 9 #[.string s] w fun e w' => e = .returned (.tuple #[insV (parsN s.data.toList).1, .int .i64 (parsN s.data.toList).2]) ∧ Below w.heap.size w w' := by
  have hlen : s.data.toList.length = s.size := by simp
  have hrl := rest_le s.data.toList
  have HC := Lib.hid (fun W => cutNameP s W (by omega) hI)
  obtain ⟨v, hv⟩ : ∃ v, parsN s.data.toList = v := ⟨_, rfl⟩
  rw [hv]
  unfold parsN at hv
  obtain ⟨nm, hnm⟩ : ∃ x, wordOf s.data.toList = x := ⟨_, rfl⟩
  obtain ⟨rs, hrs⟩ : ∃ x, restOf s.data.toList = x := ⟨_, rfl⟩
  rw [hnm, hrs] at HC hv
  rw [hrs] at hrl
  have hrs2 : rs.length < 4294967281 := by omega
  have HN := Lib.hid (fun (W : World) (h : FormsAt W) => opNamedP (arr nm) W h)
  rw [arr_list] at HN
  obtain ⟨sn, hsn⟩ : ∃ x, arr nm = x := ⟨_, rfl⟩
  rw [hsn] at HC HN
  have hoc := opOf_cases nm
  obtain ⟨o, ho⟩ : ∃ o, opOf nm = o := ⟨_, rfl⟩
  rw [ho] at hoc hv HN
  have ho31 : o < 31 := by omega
  have HB0 := Lib.hid ((Below.refl w.heap.size w).alloc (Nat.le_refl _) (.cells #[.int .i64 0, .int .i64 0, .int .i64 0, .int .i64 0, .int .i64 0] 23))
  have HL0 := Lib.hid (hL.keep HB0.out)
  have HK0 := Lib.hid (block_new w (.cells #[.int .i64 0, .int .i64 0, .int .i64 0, .int .i64 0, .int .i64 0] 23))
  clear hoc hnm hrs hsn ho hrl hlen hs hL hI
  have HS2 := Lib.hid hrs2; clear hrs2
  by_cases hz : o = 0
  · have HV : Hid (v = (Ins.zero, 2)) := Lib.hid (by rw [← hv]; unfold parsOp; rw [if_pos hz])
    have hd : decide (1 ≤ o) = false := decide_eq_false (by omega)
    rw [hd] at HN
    clear hv hd
    go_enter Tryd.func9, Tryd.ntmps9
    go_wp2_with fail
    refine (HC.out _).mono ?_; rintro e w2 ⟨rfl, hb⟩
    have HL2 := Lib.hid (HL0.out.keep hb)
    have hk := (hb.block w.heap.size (by simp)).trans HK0.out
    have hB := HB0.out.trans (hb.mono (by simp))
    have HB := Lib.hid hB
    have o0 := blk_cell hk 0
    have o1 := blk_cell hk 1
    have o2 := blk_cell hk 2
    have o3 := blk_cell hk 3
    have o4 := blk_cell hk 4
    have f0 := blk_free hk
    have HK := Lib.hid hk
    clear hb hB hk
    go_wp2_with fail
    refine (HN.out _ HL2.out.forms).mono ?_; rintro e w' ⟨rfl, rfl⟩
    go_wp2_with fail
    have hr := set5 HK.out (.int .i64 0) (.int .i64 0) (.int .i64 0) (.int .i64 0) (.int .i64 0)
    have r0 := blk_cell hr 0
    have r1 := blk_cell hr 1
    have r2 := blk_cell hr 2
    have r3 := blk_cell hr 3
    have r4 := blk_cell hr 4
    clear hr
    refine bodyPost_ret (v := .tuple #[.agg #[.int .i64 0, .int .i64 0, .int .i64 0, .int .i64 0, .int .i64 0], .int .i64 2]) (by simp [results, Tryd.results9, go_sem, r0, r1, r2, r3, r4]) rfl ⟨by rw [HV.out]; rfl, ?_⟩
    exact ((((HB.out.setCell (Nat.le_refl _) _).setCell (Nat.le_refl _) _).setCell (Nat.le_refl _) _).setCell (Nat.le_refl _) _).setCell (Nat.le_refl _) _
  · have hd : decide (1 ≤ o) = true := decide_eq_true (by omega)
    rw [hd] at HN
    have hq := opsN_lt o
    obtain ⟨r, hr⟩ : ∃ r, pOps (opsN o) rs = r := ⟨_, rfl⟩
    have HP := Lib.hid (fun (W : World) (h : LaidI W) => parseOpsP rs (opsN o) W HS2.out h hq)
    have HV : Hid (v = if r.2 then (if rightB { r.1 with op := (o : Nat) } then ({ r.1 with op := (o : Nat) }, 0) else (Ins.zero, 6)) else (Ins.zero, 2)) := Lib.hid (by rw [← hv]; unfold parsOp; rw [if_neg hz, hr])
    rw [hr] at HP
    clear hv hd hr
    obtain ⟨⟨vo, va, vb, vc, vm⟩, ok⟩ := r
    simp only [vals4] at HP HV
    obtain ⟨q, hqq⟩ : ∃ q, opsN o = q := ⟨_, rfl⟩
    rw [hqq] at HP hq
    have HQ := Lib.hid hqq; clear hqq
    obtain ⟨sr, hsr⟩ : ∃ x, arr rs = x := ⟨_, rfl⟩
    rw [hsr] at HC HP
    clear hsr
    go_enter Tryd.func9, Tryd.ntmps9
    go_wp2_with fail
    refine (HC.out _).mono ?_; rintro e w2 ⟨rfl, hb⟩
    have HL2 := Lib.hid (HL0.out.keep hb)
    have HK2 := Lib.hid ((hb.block w.heap.size (by simp)).trans HK0.out)
    have HB2 := Lib.hid (HB0.out.trans (hb.mono (by simp)))
    clear hb
    go_wp2_with fail
    refine (HN.out _ HL2.out.forms).mono ?_; rintro e w' ⟨rfl, rfl⟩
    have hcq : w2.cell? ⟨0, o * 4 + 1, none⟩ = some (.int .u8 q) := by rw [← HQ.out]; exact (HL2.out.forms.2 o ho31).2.1
    go_wp2_with fail
    refine (HP.out _ HL2.out).mono ?_; rintro e w3 ⟨rfl, hb⟩
    have hs2 : w.heap.size < w2.heap.size := (Array.getElem?_eq_some_iff.1 HK2.out).1
    have HL3 := Lib.hid (HL2.out.keep hb)
    have HK3 := Lib.hid ((hb.block w.heap.size hs2).trans HK2.out)
    have HB3 := Lib.hid (HB2.out.trans (hb.mono (by omega)))
    have hs3 : w.heap.size < w3.heap.size := (Array.getElem?_eq_some_iff.1 HK3.out).1
    clear hb hcq hs2
    cases ok
    · have hk := HK3.out
      have o0 := blk_cell hk 0
      have o1 := blk_cell hk 1
      have o2 := blk_cell hk 2
      have o3 := blk_cell hk 3
      have o4 := blk_cell hk 4
      have f0 := blk_free hk
      clear hk
      go_wp2_with fail
      have hr := set5_alloc HK3.out (.int .i64 0) (.int .i64 0) (.int .i64 0) (.int .i64 0) (.int .i64 0) (.cells #[.int .i64 va, .int .i64 vb, .int .i64 vc, .int .i64 vm] 46)
      have r0 := blk_cell hr 0
      have r1 := blk_cell hr 1
      have r2 := blk_cell hr 2
      have r3 := blk_cell hr 3
      have r4 := blk_cell hr 4
      clear hr
      refine bodyPost_ret (v := .tuple #[.agg #[.int .i64 0, .int .i64 0, .int .i64 0, .int .i64 0, .int .i64 0], .int .i64 2]) (by simp [results, Tryd.results9, go_sem, r0, r1, r2, r3, r4]) rfl ⟨by rw [HV.out]; rfl, ?_⟩
      exact (((((HB3.out.setCell (Nat.le_refl _) _).setCell (Nat.le_refl _) _).setCell (Nat.le_refl _) _).setCell (Nat.le_refl _) _).setCell (Nat.le_refl _) _).alloc (by simp [World.size_setCell]; omega) _
    · go_wp2_with fail
      refine (rightP _ _ _ _ _ _ ?hFF).mono ?_
      case hFF => exact (HL3.out.keep (((Below.refl _ _).alloc (Nat.le_refl _) _).alloc (by simp) _)).forms
      obtain ⟨yes, hyes⟩ : ∃ y, rightB ⟨(o : Nat), va, vb, vc, vm⟩ = y := ⟨_, rfl⟩
      rw [hyes]
      have HV2 : Hid (v = if yes then (⟨(o : Nat), va, vb, vc, vm⟩, 0) else (Ins.zero, 6)) := Lib.hid (by rw [HV.out, ← hyes]; rfl)
      clear hyes
      rintro e w4 ⟨rfl, hb⟩
      have hk0 := (hb.block w.heap.size (by simp; omega)).trans ((two_old w3 _ _ _ hs3).trans HK3.out)
      have hk1 := (hb.block (w3.heap.size + 1) (by simp)).trans (two_snd w3 _ _)
      have hB : Below w.heap.size w w4 := HB3.out.trans ((((Below.refl w.heap.size _).alloc (by omega) _).alloc (by simp; omega) _).trans (hb.mono (by simp; omega)))
      have HB := Lib.hid hB
      have c0 := blk_cell hk1 0
      have c1 := blk_cell hk1 1
      have c2 := blk_cell hk1 2
      have c3 := blk_cell hk1 3
      have c4 := blk_cell hk1 4
      have f0 := blk_free hk0
      have o0 := blk_cell hk0 0
      have o1 := blk_cell hk0 1
      have o2 := blk_cell hk0 2
      have o3 := blk_cell hk0 3
      have o4 := blk_cell hk0 4
      have HK := Lib.hid hk0
      clear hb hB hk0 hk1
      cases yes
      · go_wp2_with fail
        have hr := set5 HK.out (.int .i64 0) (.int .i64 0) (.int .i64 0) (.int .i64 0) (.int .i64 0)
        have r0 := blk_cell hr 0
        have r1 := blk_cell hr 1
        have r2 := blk_cell hr 2
        have r3 := blk_cell hr 3
        have r4 := blk_cell hr 4
        clear hr
        refine bodyPost_ret (v := .tuple #[.agg #[.int .i64 0, .int .i64 0, .int .i64 0, .int .i64 0, .int .i64 0], .int .i64 6]) (by simp [results, Tryd.results9, go_sem, r0, r1, r2, r3, r4]) rfl ⟨by rw [HV2.out]; rfl, ?_⟩
        exact ((((HB.out.setCell (Nat.le_refl _) _).setCell (Nat.le_refl _) _).setCell (Nat.le_refl _) _).setCell (Nat.le_refl _) _).setCell (Nat.le_refl _) _
      · go_wp2_with fail
        have hr := set5 HK.out (.int .i64 o) (.int .i64 va) (.int .i64 vb) (.int .i64 vc) (.int .i64 vm)
        have r0 := blk_cell hr 0
        have r1 := blk_cell hr 1
        have r2 := blk_cell hr 2
        have r3 := blk_cell hr 3
        have r4 := blk_cell hr 4
        clear hr
        refine bodyPost_ret (v := .tuple #[.agg #[.int .i64 o, .int .i64 va, .int .i64 vb, .int .i64 vc, .int .i64 vm], .int .i64 0]) (by simp [results, Tryd.results9, go_sem, r0, r1, r2, r3, r4]) rfl ⟨by rw [HV2.out]; rfl, ?_⟩
        exact ((((HB.out.setCell (Nat.le_refl _) _).setCell (Nat.le_refl _) _).setCell (Nat.le_refl _) _).setCell (Nat.le_refl _) _).setCell (Nat.le_refl _) _
end Go.Proofs.YtmnhnighlgpjmaaDoor
