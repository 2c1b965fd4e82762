/-
  Package isa: the operands behind the name.
-/
import Derived.Test.YtmnhnighlgpjmaaDoorI8
namespace Go.Proofs.YtmnhnighlgpjmaaDoor
set_option linter.unusedVariables false
set_option linter.unusedSimpArgs false
open Go.RowKit

def setF (v : Ins) (k : Nat) (n : Int) : Ins := if k = 0 then { v with a := n } else if k = 1 then { v with b := n } else if k = 2 then { v with c := n } else { v with m := n }
abbrev PSt := Ins × List UInt8 × Bool
/-- One field of the operands. -/
def pStep (m k : Nat) (st : PSt) : Option PSt :=
  if hasB m k then (if (pOpd k (Lib.trimS (Lib.cut st.2.1 [44]).1 blk)).2 then some (setF st.1 k (pOpd k (Lib.trimS (Lib.cut st.2.1 [44]).1 blk)).1, (Lib.cut st.2.1 [44]).2.1, (Lib.cut st.2.1 [44]).2.2) else none) else some st
def pRun (m : Nat) (l : List UInt8) : Nat → Option PSt
  | 0 => some (Ins.zero, l, !l.isEmpty)
  | k + 1 => (pRun m l k).bind (pStep m k)
/-- What parseOperands answers: the fields, and whether they are as written. -/
def pOps (m : Nat) (l : List UInt8) : Ins × Bool := match pRun m l 4 with
  | none => (Ins.zero, false)
  | some (v, _, more) => (v, !more)

def BadAt (m : Nat) (l : List UInt8) (k : Nat) : Prop := pRun m l k = none
theorem pRun_none {m : Nat} {l : List UInt8} {k : Nat} (h : pRun m l k = none) : ∀ j, pRun m l (k + j) = none
  | 0 => h
  | j + 1 => by show (pRun m l (k + j)).bind _ = none; rw [pRun_none h j]; rfl
theorem pOps_none {m : Nat} {l : List UInt8} {k : Nat} (hk : k ≤ 4) (h : pRun m l k = none) : pOps m l = (Ins.zero, false) := by
  unfold pOps
  have := pRun_none h (4 - k)
  rw [show k + (4 - k) = 4 by omega] at this
  rw [this]
theorem pOps_some {m : Nat} {l : List UInt8} {v : Ins} {r : List UInt8} {more : Bool} (h : pRun m l 4 = some (v, r, more)) : pOps m l = (v, !more) := by
  unfold pOps; rw [h]

def vals4 (v : Ins) : Array Value := #[.int .i64 v.a, .int .i64 v.b, .int .i64 v.c, .int .i64 v.m]
theorem vals4_at (v : Ins) (k : Nat) (hk : k < 4) : (vals4 v)[k]? = some (.int .i64 (fldN v k)) := by
  have : k = 0 ∨ k = 1 ∨ k = 2 ∨ k = 3 := by omega
  rcases this with rfl | rfl | rfl | rfl <;> rfl
theorem vals4_set (v : Ins) (k : Nat) (hk : k < 4) (n : Int) : (vals4 v).setIfInBounds k (.int .i64 n) = vals4 (setF v k n) := by
  have : k = 0 ∨ k = 1 ∨ k = 2 ∨ k = 3 := by omega
  rcases this with rfl | rfl | rfl | rfl <;> rfl
theorem set4 {w : World} {b : Nat} {y0 y1 y2 y3 : Value} {t : TypeId} (h : w.heap[b]? = some (.cells #[y0, y1, y2, y3] t)) (x0 x1 x2 x3 : Value) :
    ((((w.setCell ⟨b, 0, none⟩ x0).setCell ⟨b, 1, none⟩ x1).setCell ⟨b, 2, none⟩ x2).setCell ⟨b, 3, none⟩ x3).heap[b]? = some (.cells #[x0, x1, x2, x3] t) := by
  rw [setCell_block (setCell_block (setCell_block (setCell_block h)))]; rfl
theorem cut_le (l : List UInt8) : (Lib.cut l [44]).1.length ≤ l.length ∧ (Lib.cut l [44]).2.1.length ≤ l.length := by
  unfold Lib.cut
  split
  · exact ⟨by rw [List.length_take]; omega, by rw [List.length_drop]; omega⟩
  · exact ⟨Nat.le_refl _, Nat.zero_le _⟩
theorem cutP (l : List UInt8) (w : World) (hl : l.length < 4294967281) (hL : LaidI w) :
    Calls Tryd.prog 48 #[.string (arr l), .string ⟨#[44]⟩] w fun e w' => e = .returned (.tuple #[.string (arr (Lib.cut l [44]).1), .string (arr (Lib.cut l [44]).2.1), .bool (Lib.cut l [44]).2.2]) ∧ Below w.heap.size w w' := by
  obtain ⟨_, m, hm⟩ := hL.max
  refine (Tryd.strings_Cut (arr l) ⟨#[44]⟩ m w hl hm).mono ?_
  rintro e w' ⟨rfl, n, rfl⟩
  exact ⟨rfl, below_drewN (Below.refl _ _) _⟩

/-- The state of the loop over the fields: block R holds zeros, block V the fields so far. -/
structure POk (w : World) (m : Nat) (l0 : List UInt8) (k : Nat) (v : Ins) (l : List UInt8) (more : Bool) (wr : World) : Prop where
  run : pRun m l0 k = some (v, l, more)
  short : l.length ≤ l0.length
  below : Below w.heap.size w wr
  res : wr.heap[w.heap.size]? = some (.cells (vals4 Ins.zero) 46)
  val : wr.heap[w.heap.size + 1]? = some (.cells (vals4 v) 46)
theorem POk.size {w : World} {m : Nat} {l0 : List UInt8} {k : Nat} {v : Ins} {l : List UInt8} {more : Bool} {wr : World} (h : POk w m l0 k v l more wr) : w.heap.size + 1 < wr.heap.size := (Array.getElem?_eq_some_iff.1 h.val).1
theorem POk.keep {w : World} {m : Nat} {l0 : List UInt8} {k : Nat} {v : Ins} {l : List UInt8} {more : Bool} {wr w' : World} (h : POk w m l0 k v l more wr) (hb : Below wr.heap.size wr w') : POk w m l0 k v l more w' := by
  have := h.size
  exact ⟨h.run, h.short, h.below.trans (hb.mono (by omega)), (hb.block _ (by omega)).trans h.res, (hb.block _ (by omega)).trans h.val⟩
theorem POk.skip {w : World} {m : Nat} {l0 : List UInt8} {k : Nat} {v : Ins} {l : List UInt8} {more : Bool} {wr : World} (h : POk w m l0 k v l more wr) (hn : hasB m k = false) : POk w m l0 (k + 1) v l more wr := by
  refine ⟨?_, h.short, h.below, h.res, h.val⟩
  show (pRun m l0 k).bind _ = _
  rw [h.run]
  show pStep m k (v, l, more) = _
  unfold pStep; rw [hn]; rfl
theorem POk.bad {w : World} {m : Nat} {l0 : List UInt8} {k : Nat} {v : Ins} {l : List UInt8} {more : Bool} {wr : World} (h : POk w m l0 k v l more wr) (hk : k < 4) (hn : hasB m k = true) (ho : (pOpd k (Lib.trimS (Lib.cut l [44]).1 blk)).2 = false) : pOps m l0 = (Ins.zero, false) := by
  refine pOps_none (k := k + 1) (by omega) ?_
  show (pRun m l0 k).bind _ = _
  rw [h.run]
  show pStep m k (v, l, more) = _
  unfold pStep; rw [hn]; simp only [ho]; rfl
theorem POk.step {w : World} {m : Nat} {l0 : List UInt8} {k : Nat} {v : Ins} {l : List UInt8} {more : Bool} {wr : World} (h : POk w m l0 k v l more wr) (hk : k < 4) (hn : hasB m k = true) {n : Int} (ho : pOpd k (Lib.trimS (Lib.cut l [44]).1 blk) = (n, true)) :
    POk w m l0 (k + 1) (setF v k n) (Lib.cut l [44]).2.1 (Lib.cut l [44]).2.2 (wr.setCell ⟨w.heap.size + 1, k, none⟩ (.int .i64 n)) := by
  refine ⟨?_, Nat.le_trans (cut_le l).2 h.short, h.below.setCell (by simp) _, ?_, ?_⟩
  · show (pRun m l0 k).bind _ = _
    rw [h.run]
    show pStep m k (v, l, more) = _
    unfold pStep; rw [hn]; simp only [ho]; rfl
  · rw [setCell_else (by omega)]; exact h.res
  · rw [setCell_block h.val, vals4_set v k hk]

set_option maxRecDepth 100000 in
set_option maxHeartbeats 4000000 in
theorem parseOpsP (l0 : List UInt8) (m : Nat) (w : World) (hl : l0.length < 4294967281) (hL : LaidI w) (hm : m < 32) :
    Calls Tryd.prog 22 #[.string (arr l0), .int .u8 m] w fun e w' => e = .returned (.tuple #[.agg (vals4 (pOps m l0).1), .bool (pOps m l0).2]) ∧ Below w.heap.size w w' := by
  obtain ⟨v0, hv0⟩ : ∃ v, pOps m l0 = v := ⟨_, rfl⟩
  rw [hv0]
  have HV := Lib.hid hv0; clear hv0
  have HL := Lib.hid hL; clear hL
  obtain ⟨s0, hs0⟩ : ∃ s, arr l0 = s := ⟨_, rfl⟩
  have hne : (!s0.toList.isEmpty) = !l0.isEmpty := by rw [← hs0, Lib.toList_data]; rfl
  have hstart := fun (W : World) (h1 : Below w.heap.size w W) (h2 : W.heap[w.heap.size]? = some (.cells (vals4 Ins.zero) 46)) (h3 : W.heap[w.heap.size + 1]? = some (.cells (vals4 Ins.zero) 46)) =>
    (POk.mk (m := m) (l0 := l0) (k := 0) (v := Ins.zero) (l := l0) (more := !l0.isEmpty) rfl (Nat.le_refl _) h1 h2 h3 : POk w m l0 0 Ins.zero l0 (!l0.isEmpty) W)
  have HS := Lib.hid hstart; clear hstart
  have HA := Lib.hid hs0
  obtain ⟨ne, hneq⟩ : ∃ b, (!l0.isEmpty) = b := ⟨_, rfl⟩
  rw [hneq] at HS hne
  rw [hs0]
  have hne2 : s0.toList.isEmpty = !ne := by rw [← hne, Bool.not_not]
  clear hneq hs0
  go_enter Tryd.func22, Tryd.ntmps22
  go_wp2_with fail
  go_loopw [0, 7, 14] (fun s mo i wr => ∃ (k : Nat) (v : Ins) (l : List UInt8) (more : Bool), k ≤ 4 ∧ i = .int .i64 k ∧ s = .string (arr l) ∧ mo = .bool more ∧ POk w m l0 k v l more wr) (fun _ _ i _ => 4 - (intOf i).toNat)
  case atStart => exact ⟨0, Ins.zero, l0, ne, by omega, rfl, by rw [HA.out], rfl, HS.out _ (((Below.refl _ _).alloc (Nat.le_refl _) _).alloc (by simp) _) (two_first w _ _) (two_second w _ _)⟩
  case round =>
    clear hne hne2
    obtain ⟨k, v, l, more, hk, rfl, rfl, rfl, hP⟩ := hrel
    have HP := Lib.hid hP
    have hsz := hP.size
    obtain ⟨sl, hsl⟩ : ∃ x, arr l = x := ⟨_, rfl⟩
    have HSL := Lib.hid hsl
    rw [hsl]
    clear hP hsl
    by_cases hlt : k < 4
    · have HH := Lib.hid (hasP m k wr hm (by omega))
      cases hh : hasB m k
      · rw [hh] at HH
        have HN := Lib.hid hh; clear hh
        go_wp2_with fail
        refine HH.out.mono ?_; rintro e w' ⟨rfl, rfl⟩
        go_wp2_with fail
        go_roundw
        case rel => exact ⟨k + 1, v, l, more, by omega, by go_num, by rw [HSL.out], rfl, HP.out.skip HN.out⟩
        case measure => simp [intOf]; omega
      · rw [hh] at HH
        have HN := Lib.hid hh; clear hh
        have HC := Lib.hid (cutP l wr (Nat.lt_of_le_of_lt HP.out.short hl) (HL.out.keep HP.out.below))
        rw [HSL.out] at HC
        have hcl := cut_le l
        have hsh := HP.out.short
        obtain ⟨⟨pa, pb, pc⟩, hcu⟩ : ∃ c, Lib.cut l [44] = c := ⟨_, rfl⟩
        rw [hcu] at HC hcl
        have HCU := Lib.hid hcu; clear hcu
        simp only at HC hcl
        have HT := Lib.hid (fun W : World => trimP (arr pa) W (by rw [arr_size]; omega))
        rw [arr_list] at HT
        have HO := Lib.hid (fun W : World => opdP k (arr (Lib.trimS pa blk)) W hlt)
        rw [arr_list] at HO
        obtain ⟨sa, hsa⟩ : ∃ x, arr pa = x := ⟨_, rfl⟩
        obtain ⟨sb, hsb⟩ : ∃ x, arr pb = x := ⟨_, rfl⟩
        obtain ⟨st, hst⟩ : ∃ x, arr (Lib.trimS pa blk) = x := ⟨_, rfl⟩
        rw [hsa, hsb] at HC
        rw [hsa, hst] at HT
        rw [hst] at HO
        have HSB := Lib.hid hsb
        clear hsa hsb hst hcl hsh
        obtain ⟨⟨n, ok⟩, hok⟩ : ∃ o, pOpd k (Lib.trimS pa blk) = o := ⟨_, rfl⟩
        rw [hok] at HO
        have HOK := Lib.hid hok; clear hok
        simp only at HO
        go_wp2_with fail
        refine HH.out.mono ?_; rintro e w' ⟨rfl, rfl⟩
        go_wp2_with fail
        refine HC.out.mono ?_; rintro e w1 ⟨rfl, hb1⟩
        have HP1 := Lib.hid (HP.out.keep hb1)
        clear hb1
        go_wp2_with fail
        refine (HT.out _).mono ?_; rintro e w2 ⟨rfl, hb2⟩
        have HP2 := Lib.hid (HP1.out.keep hb2)
        clear hb2
        go_wp2_with fail
        refine (HO.out _).mono ?_; rintro e w' ⟨rfl, rfl⟩
        cases ok
        · have hk0 := HP2.out.res
          have o0 : w2.cell? ⟨w.heap.size, 0, none⟩ = some (.int .i64 0) := blk_cell hk0 0
          have o1 : w2.cell? ⟨w.heap.size, 1, none⟩ = some (.int .i64 0) := blk_cell hk0 1
          have o2 : w2.cell? ⟨w.heap.size, 2, none⟩ = some (.int .i64 0) := blk_cell hk0 2
          have o3 : w2.cell? ⟨w.heap.size, 3, none⟩ = some (.int .i64 0) := blk_cell hk0 3
          have f0 := blk_free hk0
          have HK := Lib.hid hk0
          clear hk0
          go_wp2_with fail
          have hr := set4 HK.out (.int .i64 0) (.int .i64 0) (.int .i64 0) (.int .i64 0)
          have r0 := blk_cell hr 0
          have r1 := blk_cell hr 1
          have r2 := blk_cell hr 2
          have r3 := blk_cell hr 3
          clear hr
          refine bodyPost_ret (v := .tuple #[.agg #[.int .i64 0, .int .i64 0, .int .i64 0, .int .i64 0], .bool false]) (by simp [results, Tryd.results22, go_sem, r0, r1, r2, r3]) rfl ⟨?_, ?_⟩
          · rw [← HV.out, HP.out.bad hlt HN.out (by rw [HCU.out, HOK.out])]; rfl
          · exact (((HP2.out.below.setCell (Nat.le_refl _) _).setCell (Nat.le_refl _) _).setCell (Nat.le_refl _) _).setCell (Nat.le_refl _) _
        · have hk1 := HP2.out.val
          have o0 := (blk_cell hk1 k).trans (vals4_at v k hlt)
          have f0 := blk_free hk1
          clear hk1
          go_wp2_with fail
          go_roundw
          case rel => exact ⟨k + 1, setF v k n, pb, pc, by omega, by go_num, by rw [HSB.out], rfl, by
            have := HP2.out.step hlt HN.out (n := n) (by rw [HCU.out, HOK.out])
            rw [HCU.out] at this
            exact this⟩
          case measure => simp [intOf]; omega
    · obtain rfl : k = 4 := by omega
      have hk1 := HP.out.val
      have hk0 := HP.out.res
      have c0 : wr.cell? ⟨w.heap.size + 1, 0, none⟩ = some (.int .i64 v.a) := blk_cell hk1 0
      have c1 : wr.cell? ⟨w.heap.size + 1, 1, none⟩ = some (.int .i64 v.b) := blk_cell hk1 1
      have c2 : wr.cell? ⟨w.heap.size + 1, 2, none⟩ = some (.int .i64 v.c) := blk_cell hk1 2
      have c3 : wr.cell? ⟨w.heap.size + 1, 3, none⟩ = some (.int .i64 v.m) := blk_cell hk1 3
      have o0 : wr.cell? ⟨w.heap.size, 0, none⟩ = some (.int .i64 0) := blk_cell hk0 0
      have o1 : wr.cell? ⟨w.heap.size, 1, none⟩ = some (.int .i64 0) := blk_cell hk0 1
      have o2 : wr.cell? ⟨w.heap.size, 2, none⟩ = some (.int .i64 0) := blk_cell hk0 2
      have o3 : wr.cell? ⟨w.heap.size, 3, none⟩ = some (.int .i64 0) := blk_cell hk0 3
      have f0 := blk_free hk0
      have HK := Lib.hid hk0
      clear hk0 hk1
      go_wp2_with fail
      have hr := set4 HK.out (.int .i64 v.a) (.int .i64 v.b) (.int .i64 v.c) (.int .i64 v.m)
      have r0 := blk_cell hr 0
      have r1 := blk_cell hr 1
      have r2 := blk_cell hr 2
      have r3 := blk_cell hr 3
      clear hr
      refine bodyPost_ret (v := .tuple #[.agg #[.int .i64 v.a, .int .i64 v.b, .int .i64 v.c, .int .i64 v.m], .bool (!more)]) (by simp [results, Tryd.results22, go_sem, r0, r1, r2, r3]) rfl ⟨?_, ?_⟩
      · rw [← HV.out, pOps_some HP.out.run]; rfl
      · exact (((HP.out.below.setCell (Nat.le_refl _) _).setCell (Nat.le_refl _) _).setCell (Nat.le_refl _) _).setCell (Nat.le_refl _) _
end Go.Proofs.YtmnhnighlgpjmaaDoor
