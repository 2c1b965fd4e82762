/-
  Contracts of the law's write and equal.
-/
import Derived.Test.YtebepofbngdccaaFew
import Derived.Test.YtebepofbngdccaaPureR
import Derived.Deep.RegionHeld3
import Derived.Deep.DeepCutAuto
namespace Go.Proofs.Ytebepofbngdccaa
set_option linter.unusedVariables false
set_option linter.unusedSimpArgs false
open Go.RowKit

def encV (x : Val) : List UInt8 :=
  if x.k % 5 = 0 then enc (num0 x.n) else if x.k % 5 = 1 then encI x.n else if x.k % 5 = 2 then encT x.s else if x.k % 5 = 3 then encNums x.zs else encTexts x.ss

structure okV (x : Val) : Prop where
  n : inI x.n
  zs : ∀ z ∈ x.zs, inI z

/-- A block whose cells are known. -/
def Blk (w : World) (g : Nat) (t : TypeId) (cs : Array Value) : Prop := w.heap[g]? = some (.cells cs t (0, 0))
theorem Blk.cell {w : World} {g : Nat} {t : TypeId} {cs : Array Value} (h : Blk w g t cs) (i : Nat) : w.cell? ⟨g, i, none⟩ = cs[i]? := by unfold Blk at h; simp [World.cell?, h]
theorem Blk.lt {w : World} {g : Nat} {t : TypeId} {cs : Array Value} (h : Blk w g t cs) : g < w.heap.size := (Array.getElem?_eq_some_iff.1 h).1
theorem Blk.below {w w' : World} {g B : Nat} {t : TypeId} {cs : Array Value} (h : Blk w g t cs) (hb : Below B w w') (hg : g < B) : Blk w' g t cs := (hb.block g hg).trans h
theorem Blk.grown {w w' : World} {g : Nat} {row : Option Nat} {t : TypeId} {cs : Array Value} (h : Blk w g t cs) (hb : w.grownBy w' row) (hg : some g ≠ row) : Blk w' g t cs := (hb.block g h.lt hg).trans h
theorem Blk.new (w : World) (t : TypeId) (cs : Array Value) : Blk (w.alloc (.cells cs t)) w.heap.size t cs := heap_alloc_new w _

theorem below_new (w : World) (o : Obj) : Below w.heap.size w (w.alloc o) := (Below.refl _ _).alloc (Nat.le_refl _) _
theorem size_new (w : World) (o : Obj) : (w.alloc o).heap.size = w.heap.size + 1 := by simp
theorem VOk.below {w w' : World} {B : Nat} {vL vT : Value} {x : Val} (h : VOk w B vL vT x) (hb : Below B w w') : VOk w' B vL vT x := ⟨h.nums.below hb, h.texts.below hb⟩
theorem grown_drew {w w' : World} {row : Option Nat} (h : w.drew.grownBy w' row) : w.grownBy w' row := ⟨h.os, h.tape, h.output, h.size, h.block⟩
theorem VOk.mono {w : World} {B B' : Nat} {vL vT : Value} {x : Val} (h : VOk w B vL vT x) (hb : B ≤ B') : VOk w B' vL vT x := ⟨h.nums.mono hb, h.texts.mono hb⟩

set_option maxRecDepth 100000 in
set_option maxHeartbeats 1000000 in
theorem write_0 (x : Val) (vL vT : Value) (w : World) (hv : VOk w w.heap.size vL vT x) (hs : smallV x) (ho : okV x) (hk : x.k % 5 = 0) :
    Calls Try.prog 40 #[.agg #[.int .i64 x.k, .int .i64 x.n, .string (bs x.s), vL, vT]] w fun e w' => e = .returned (.string (bs (encV x))) ∧ Below w.heap.size w w' := by
  have HE : Hid (encV x = enc (num0 x.n)) := by
    show _ = _
    unfold encV
    simp [hk, encI, encT]
  rw [HE.out]
  obtain ⟨hs1, hs2, hs3, hs4⟩ := hs
  have HS4 := Lib.hid hs4; clear hs4
  have HZ := Lib.hid ho.zs
  have hn := Lib.hid ho.n
  have HK := Lib.hid hk; clear hk
  obtain ⟨s, hS⟩ : ∃ s, bs x.s = s := ⟨_, rfl⟩
  rw [hS]
  have HS := Lib.hid hS; clear hS
  obtain ⟨n, hN⟩ : ∃ n, x.n = n := ⟨_, rfl⟩
  rw [hN] at hn
  rw [hN]
  have HN := Lib.hid hN; clear hN
  have hb := Blk.new w 25 #[.int .i64 x.k, .int .i64 n, .string s, vL, vT]
  have hB := below_new w (.cells #[.int .i64 x.k, .int .i64 n, .string s, vL, vT] 25)
  have hz := size_new w (.cells #[.int .i64 x.k, .int .i64 n, .string s, vL, vT] 25)
  have hv' := hv.below hB
  go_enter Try.func40, Try.ntmps40
  go_wp2_with fail
  refine (kind_any x.k _ _ _ _ _).mono ?_; rintro e w2 ⟨rfl, hB2⟩
  rw [HK.out]
  have hB3 := hB.trans (hB2.mono (by rw [hz]; omega))
  have hv2 := (hv.below hB3).mono hB3.size
  have c1 := (hb.below hB2 (by rw [hz]; omega)).cell 1
  clear hb hz hv hv' hB hB2
  go_wp2_with fail
  refine (number_any n _ hn.out.1 hn.out.2).mono ?_; rintro e w' ⟨rfl, rfl⟩
  go_wp2_with fail
  refine (wnum (num0 n) _ (num0_le hn.out.1 hn.out.2)).mono ?_; rintro e w4 ⟨rfl, hB4⟩
  go_wp2_with fail
  go_ret
  exact ⟨rfl, hB3.trans (hB4.mono hB3.size)⟩

set_option maxRecDepth 100000 in
set_option maxHeartbeats 1000000 in
theorem write_1 (x : Val) (vL vT : Value) (w : World) (hv : VOk w w.heap.size vL vT x) (hs : smallV x) (ho : okV x) (hk : x.k % 5 = 1) :
    Calls Try.prog 40 #[.agg #[.int .i64 x.k, .int .i64 x.n, .string (bs x.s), vL, vT]] w fun e w' => e = .returned (.string (bs (encV x))) ∧ Below w.heap.size w w' := by
  have HE : Hid (encV x = enc (zig x.n)) := by
    show _ = _
    unfold encV
    simp [hk, encI, encT]
  rw [HE.out]
  obtain ⟨hs1, hs2, hs3, hs4⟩ := hs
  have HS4 := Lib.hid hs4; clear hs4
  have HZ := Lib.hid ho.zs
  have hn := Lib.hid ho.n
  have HK := Lib.hid hk; clear hk
  obtain ⟨s, hS⟩ : ∃ s, bs x.s = s := ⟨_, rfl⟩
  rw [hS]
  have HS := Lib.hid hS; clear hS
  obtain ⟨n, hN⟩ : ∃ n, x.n = n := ⟨_, rfl⟩
  rw [hN] at hn
  rw [hN]
  have HN := Lib.hid hN; clear hN
  have hb := Blk.new w 25 #[.int .i64 x.k, .int .i64 n, .string s, vL, vT]
  have hB := below_new w (.cells #[.int .i64 x.k, .int .i64 n, .string s, vL, vT] 25)
  have hz := size_new w (.cells #[.int .i64 x.k, .int .i64 n, .string s, vL, vT] 25)
  have hv' := hv.below hB
  go_enter Try.func40, Try.ntmps40
  go_wp2_with fail
  refine (kind_any x.k _ _ _ _ _).mono ?_; rintro e w2 ⟨rfl, hB2⟩
  rw [HK.out]
  have hB3 := hB.trans (hB2.mono (by rw [hz]; omega))
  have hv2 := (hv.below hB3).mono hB3.size
  have c1 := (hb.below hB2 (by rw [hz]; omega)).cell 1
  clear hb hz hv hv' hB hB2
  go_wp2_with fail
  refine (wint n _ hn.out.1 hn.out.2).mono ?_; rintro e w4 ⟨rfl, hB4⟩
  go_wp2_with fail
  go_ret
  exact ⟨rfl, hB3.trans (hB4.mono hB3.size)⟩

set_option maxRecDepth 100000 in
set_option maxHeartbeats 1000000 in
theorem write_2 (x : Val) (vL vT : Value) (w : World) (hv : VOk w w.heap.size vL vT x) (hs : smallV x) (ho : okV x) (hk : x.k % 5 = 2) :
    Calls Try.prog 40 #[.agg #[.int .i64 x.k, .int .i64 x.n, .string (bs x.s), vL, vT]] w fun e w' => e = .returned (.string (bs (encV x))) ∧ Below w.heap.size w w' := by
  have HE : Hid (encV x = enc x.s.length ++ x.s) := by
    show _ = _
    unfold encV
    simp [hk, encI, encT]
  rw [HE.out]
  obtain ⟨hs1, hs2, hs3, hs4⟩ := hs
  have HS4 := Lib.hid hs4; clear hs4
  have HZ := Lib.hid ho.zs
  have hn := Lib.hid ho.n
  have HK := Lib.hid hk; clear hk
  obtain ⟨s, hS⟩ : ∃ s, bs x.s = s := ⟨_, rfl⟩
  rw [hS]
  have HS := Lib.hid hS; clear hS
  obtain ⟨n, hN⟩ : ∃ n, x.n = n := ⟨_, rfl⟩
  rw [hN] at hn
  rw [hN]
  have HN := Lib.hid hN; clear hN
  have hb := Blk.new w 25 #[.int .i64 x.k, .int .i64 n, .string s, vL, vT]
  have hB := below_new w (.cells #[.int .i64 x.k, .int .i64 n, .string s, vL, vT] 25)
  have hz := size_new w (.cells #[.int .i64 x.k, .int .i64 n, .string s, vL, vT] 25)
  have hv' := hv.below hB
  go_enter Try.func40, Try.ntmps40
  go_wp2_with fail
  refine (kind_any x.k _ _ _ _ _).mono ?_; rintro e w2 ⟨rfl, hB2⟩
  rw [HK.out]
  have hB3 := hB.trans (hB2.mono (by rw [hz]; omega))
  have hv2 := (hv.below hB3).mono hB3.size
  have c2 := (hb.below hB2 (by rw [hz]; omega)).cell 2
  clear hb hz hv hv' hB hB2
  go_wp2_with fail
  rw [← HS.out]
  refine (wtext x.s _ (by omega)).mono ?_; rintro e w4 ⟨rfl, hB4⟩
  go_wp2_with fail
  go_ret
  exact ⟨rfl, hB3.trans (hB4.mono hB3.size)⟩

set_option maxRecDepth 100000 in
set_option maxHeartbeats 1000000 in
theorem write_3 (x : Val) (vL vT : Value) (w : World) (hv : VOk w w.heap.size vL vT x) (hs : smallV x) (ho : okV x) (hk : x.k % 5 = 3) :
    Calls Try.prog 40 #[.agg #[.int .i64 x.k, .int .i64 x.n, .string (bs x.s), vL, vT]] w fun e w' => e = .returned (.string (bs (encV x))) ∧ Below w.heap.size w w' := by
  have HE : Hid (encV x = encNums x.zs) := by
    show _ = _
    unfold encV
    simp [hk, encI, encT]
  rw [HE.out]
  obtain ⟨hs1, hs2, hs3, hs4⟩ := hs
  have HS4 := Lib.hid hs4; clear hs4
  have HZ := Lib.hid ho.zs
  have hn := Lib.hid ho.n
  have HK := Lib.hid hk; clear hk
  obtain ⟨s, hS⟩ : ∃ s, bs x.s = s := ⟨_, rfl⟩
  rw [hS]
  have HS := Lib.hid hS; clear hS
  obtain ⟨n, hN⟩ : ∃ n, x.n = n := ⟨_, rfl⟩
  rw [hN] at hn
  rw [hN]
  have HN := Lib.hid hN; clear hN
  have hb := Blk.new w 25 #[.int .i64 x.k, .int .i64 n, .string s, vL, vT]
  have hB := below_new w (.cells #[.int .i64 x.k, .int .i64 n, .string s, vL, vT] 25)
  have hz := size_new w (.cells #[.int .i64 x.k, .int .i64 n, .string s, vL, vT] 25)
  have hv' := hv.below hB
  go_enter Try.func40, Try.ntmps40
  go_wp2_with fail
  refine (kind_any x.k _ _ _ _ _).mono ?_; rintro e w2 ⟨rfl, hB2⟩
  rw [HK.out]
  have hB3 := hB.trans (hB2.mono (by rw [hz]; omega))
  have hv2 := (hv.below hB3).mono hB3.size
  have c3 := (hb.below hB2 (by rw [hz]; omega)).cell 3
  clear hb hz hv hv' hB hB2
  go_wp2_with fail
  refine (wnums vL x.zs _ hv2.nums HZ.out (by omega)).mono ?_; rintro e w4 ⟨rfl, hB4⟩
  go_wp2_with fail
  go_ret
  exact ⟨rfl, hB3.trans (hB4.mono hB3.size)⟩

set_option maxRecDepth 100000 in
set_option maxHeartbeats 1000000 in
theorem write_4 (x : Val) (vL vT : Value) (w : World) (hv : VOk w w.heap.size vL vT x) (hs : smallV x) (ho : okV x) (hk : x.k % 5 = 4) :
    Calls Try.prog 40 #[.agg #[.int .i64 x.k, .int .i64 x.n, .string (bs x.s), vL, vT]] w fun e w' => e = .returned (.string (bs (encV x))) ∧ Below w.heap.size w w' := by
  have HE : Hid (encV x = encTexts x.ss) := by
    show _ = _
    unfold encV
    simp [hk, encI, encT]
  rw [HE.out]
  obtain ⟨hs1, hs2, hs3, hs4⟩ := hs
  have HS4 := Lib.hid hs4; clear hs4
  have HZ := Lib.hid ho.zs
  have hn := Lib.hid ho.n
  have HK := Lib.hid hk; clear hk
  obtain ⟨s, hS⟩ : ∃ s, bs x.s = s := ⟨_, rfl⟩
  rw [hS]
  have HS := Lib.hid hS; clear hS
  obtain ⟨n, hN⟩ : ∃ n, x.n = n := ⟨_, rfl⟩
  rw [hN] at hn
  rw [hN]
  have HN := Lib.hid hN; clear hN
  have hb := Blk.new w 25 #[.int .i64 x.k, .int .i64 n, .string s, vL, vT]
  have hB := below_new w (.cells #[.int .i64 x.k, .int .i64 n, .string s, vL, vT] 25)
  have hz := size_new w (.cells #[.int .i64 x.k, .int .i64 n, .string s, vL, vT] 25)
  have hv' := hv.below hB
  go_enter Try.func40, Try.ntmps40
  go_wp2_with fail
  refine (kind_any x.k _ _ _ _ _).mono ?_; rintro e w2 ⟨rfl, hB2⟩
  rw [HK.out]
  have hB3 := hB.trans (hB2.mono (by rw [hz]; omega))
  have hv2 := (hv.below hB3).mono hB3.size
  have c4 := (hb.below hB2 (by rw [hz]; omega)).cell 4
  clear hb hz hv hv' hB hB2
  go_wp2_with fail
  refine (wtexts vT x.ss _ hv2.texts HS4.out (by omega)).mono ?_; rintro e w4 ⟨rfl, hB4⟩
  go_wp2_with fail
  go_ret
  exact ⟨rfl, hB3.trans (hB4.mono hB3.size)⟩

set_option maxRecDepth 100000 in
set_option maxHeartbeats 1000000 in
theorem equal_0 (g : Nat) (x : Val) (r : List UInt8) (vL vT : Value) (w : World) (hR : Rd w g 59 ⟨encV x ++ r, false⟩) (hlen : (encV x ++ r).length ≤ 100000000) (B0 : Nat) (hgB : B0 ≤ g) (hv : VOk w B0 vL vT x) (hs : smallV x) (ho : okV x) (hk : x.k % 5 = 0) :
    Calls Try.prog 41 #[.pointer (some ⟨g, 0, none⟩), .agg #[.int .i64 x.k, .int .i64 x.n, .string (bs x.s), vL, vT]] w (RdPost g 59 ⟨r, false⟩ (.bool true) w) := by
  have HE : Hid (encV x = enc (num0 x.n)) := by
    show _ = _
    unfold encV
    simp [hk, encI, encT]
  rw [HE.out] at hR hlen
  obtain ⟨hs1, hs2, hs3, hs4⟩ := hs
  have HI : Hid (fNum ⟨enc (num0 x.n) ++ r, false⟩ = (num0 x.n, ⟨r, false⟩)) := fNum_inv (by have := num0_le ho.n.1 ho.n.2; omega) r
  have hlen' : (St.mk (enc (num0 x.n) ++ r) false).l.length ≤ 100000000 := hlen
  have hcr := fun (w : World) (h : Rd w g 59 ⟨enc (num0 x.n) ++ r, false⟩) => wNum g ⟨enc (num0 x.n) ++ r, false⟩ w h hlen'
  rw [HI.out] at hcr
  simp only at hcr
  have HCR := Lib.hid hcr; clear hcr hlen hlen'
  have HR := Lib.hid hR
  have hgs := hR.lt
  clear hR
  have hsep : ∀ w2, w.grownBy w2 (some g) → VOk w2 B0 vL vT x := fun w2 h => hv.below (Below.of_grown h (by omega) hgB)
  have HS4 := Lib.hid hs4; clear hs4
  have hn := Lib.hid ho.n
  have HK := Lib.hid hk; clear hk
  have HSEP := Lib.hid hsep; clear hsep
  have hb := Blk.new w 25 #[.int .i64 x.k, .int .i64 x.n, .string (bs x.s), vL, vT]
  have hB := below_new w (.cells #[.int .i64 x.k, .int .i64 x.n, .string (bs x.s), vL, vT] 25)
  have hz := size_new w (.cells #[.int .i64 x.k, .int .i64 x.n, .string (bs x.s), vL, vT] 25)
  go_enter Try.func41, Try.ntmps41
  go_wp2_with fail
  refine (kind_any x.k _ _ _ _ _).mono ?_; rintro e w2 ⟨rfl, hB2⟩
  rw [HK.out]
  have hB3 := hB.trans (hB2.mono (by rw [hz]; omega))
  have c1 := (hb.below hB2 (by rw [hz]; omega)).cell 1
  have hlt2 : w.heap.size < w2.heap.size := by have := hB2.size; omega
  have hR2 := HR.out.below hB3 hgs
  clear hb hz hB hB2
  go_wp2_with fail
  go_region_held3 (fun w' => w'.cell? ⟨w.heap.size, 1, none⟩ = some (.int .i64 x.n)) (first | go_keep | (rw [hg4.cell_far ⟨w.heap.size, 1, none⟩ (by simpa using hlt2) (by simp; omega)]; assumption))
    (first | (go_at_call 24; refine (HCR.out _ ?_).mono ?_; (exact hR2); rintro e w4 ⟨rfl, hr4, hg4⟩) | (go_at_call 42; refine (number_any x.n _ hn.out.1 hn.out.2).mono ?_; rintro e w' ⟨rfl, rfl⟩))
  have hg5 := (grown_below hB3 (some g)).trans (grown_drew hg4)
  go_wp2_with fail
  go_ret
  exact ⟨rfl, hr4, hg5⟩

set_option maxRecDepth 100000 in
set_option maxHeartbeats 1000000 in
theorem equal_1 (g : Nat) (x : Val) (r : List UInt8) (vL vT : Value) (w : World) (hR : Rd w g 59 ⟨encV x ++ r, false⟩) (hlen : (encV x ++ r).length ≤ 100000000) (B0 : Nat) (hgB : B0 ≤ g) (hv : VOk w B0 vL vT x) (hs : smallV x) (ho : okV x) (hk : x.k % 5 = 1) :
    Calls Try.prog 41 #[.pointer (some ⟨g, 0, none⟩), .agg #[.int .i64 x.k, .int .i64 x.n, .string (bs x.s), vL, vT]] w (RdPost g 59 ⟨r, false⟩ (.bool true) w) := by
  have HE : Hid (encV x = enc (zig x.n)) := by
    show _ = _
    unfold encV
    simp [hk, encI, encT]
  rw [HE.out] at hR hlen
  obtain ⟨hs1, hs2, hs3, hs4⟩ := hs
  have HI : Hid (fInt ⟨enc (zig x.n) ++ r, false⟩ = (x.n, ⟨r, false⟩)) := fInt_inv ho.n r
  have hlen' : (St.mk (enc (zig x.n) ++ r) false).l.length ≤ 100000000 := hlen
  have hcr := fun (w : World) (h : Rd w g 59 ⟨enc (zig x.n) ++ r, false⟩) => wInt g ⟨enc (zig x.n) ++ r, false⟩ w h hlen'
  rw [HI.out] at hcr
  simp only at hcr
  have HCR := Lib.hid hcr; clear hcr hlen hlen'
  have HR := Lib.hid hR
  have hgs := hR.lt
  clear hR
  have hsep : ∀ w2, w.grownBy w2 (some g) → VOk w2 B0 vL vT x := fun w2 h => hv.below (Below.of_grown h (by omega) hgB)
  have HS4 := Lib.hid hs4; clear hs4
  have hn := Lib.hid ho.n
  have HK := Lib.hid hk; clear hk
  have HSEP := Lib.hid hsep; clear hsep
  have hb := Blk.new w 25 #[.int .i64 x.k, .int .i64 x.n, .string (bs x.s), vL, vT]
  have hB := below_new w (.cells #[.int .i64 x.k, .int .i64 x.n, .string (bs x.s), vL, vT] 25)
  have hz := size_new w (.cells #[.int .i64 x.k, .int .i64 x.n, .string (bs x.s), vL, vT] 25)
  go_enter Try.func41, Try.ntmps41
  go_wp2_with fail
  refine (kind_any x.k _ _ _ _ _).mono ?_; rintro e w2 ⟨rfl, hB2⟩
  rw [HK.out]
  have hB3 := hB.trans (hB2.mono (by rw [hz]; omega))
  have c1 := (hb.below hB2 (by rw [hz]; omega)).cell 1
  have hlt2 : w.heap.size < w2.heap.size := by have := hB2.size; omega
  have hR2 := HR.out.below hB3 hgs
  clear hb hz hB hB2
  go_wp2_with fail
  go_region_held3 (fun w' => w'.cell? ⟨w.heap.size, 1, none⟩ = some (.int .i64 x.n)) (first | go_keep | (rw [hg4.cell_far ⟨w.heap.size, 1, none⟩ (by simpa using hlt2) (by simp; omega)]; assumption))
    (first | (go_at_call 26; refine (HCR.out _ ?_).mono ?_; (exact hR2); rintro e w4 ⟨rfl, hr4, hg4⟩))
  have hg5 := (grown_below hB3 (some g)).trans (grown_drew hg4)
  go_wp2_with fail
  go_ret
  exact ⟨rfl, hr4, hg5⟩

set_option maxRecDepth 100000 in
set_option maxHeartbeats 1000000 in
theorem equal_2 (g : Nat) (x : Val) (r : List UInt8) (vL vT : Value) (w : World) (hR : Rd w g 59 ⟨encV x ++ r, false⟩) (hlen : (encV x ++ r).length ≤ 100000000) (B0 : Nat) (hgB : B0 ≤ g) (hv : VOk w B0 vL vT x) (hs : smallV x) (ho : okV x) (hk : x.k % 5 = 2) :
    Calls Try.prog 41 #[.pointer (some ⟨g, 0, none⟩), .agg #[.int .i64 x.k, .int .i64 x.n, .string (bs x.s), vL, vT]] w (RdPost g 59 ⟨r, false⟩ (.bool true) w) := by
  have HE : Hid (encV x = enc x.s.length ++ x.s) := by
    show _ = _
    unfold encV
    simp [hk, encI, encT]
  rw [HE.out] at hR hlen
  obtain ⟨hs1, hs2, hs3, hs4⟩ := hs
  have HI : Hid (fText ⟨enc x.s.length ++ x.s ++ r, false⟩ = (x.s, ⟨r, false⟩)) := fText_inv (by omega) r
  have hlen' : (St.mk (enc x.s.length ++ x.s ++ r) false).l.length ≤ 100000000 := hlen
  have hcr := fun (w : World) (h : Rd w g 59 ⟨enc x.s.length ++ x.s ++ r, false⟩) => wText g ⟨enc x.s.length ++ x.s ++ r, false⟩ w h hlen'
  rw [HI.out] at hcr
  simp only at hcr
  have HCR := Lib.hid hcr; clear hcr hlen hlen'
  have HR := Lib.hid hR
  have hgs := hR.lt
  clear hR
  have hsep : ∀ w2, w.grownBy w2 (some g) → VOk w2 B0 vL vT x := fun w2 h => hv.below (Below.of_grown h (by omega) hgB)
  have HS4 := Lib.hid hs4; clear hs4
  have hn := Lib.hid ho.n
  have HK := Lib.hid hk; clear hk
  have HSEP := Lib.hid hsep; clear hsep
  have hb := Blk.new w 25 #[.int .i64 x.k, .int .i64 x.n, .string (bs x.s), vL, vT]
  have hB := below_new w (.cells #[.int .i64 x.k, .int .i64 x.n, .string (bs x.s), vL, vT] 25)
  have hz := size_new w (.cells #[.int .i64 x.k, .int .i64 x.n, .string (bs x.s), vL, vT] 25)
  go_enter Try.func41, Try.ntmps41
  go_wp2_with fail
  refine (kind_any x.k _ _ _ _ _).mono ?_; rintro e w2 ⟨rfl, hB2⟩
  rw [HK.out]
  have hB3 := hB.trans (hB2.mono (by rw [hz]; omega))
  have c2 := (hb.below hB2 (by rw [hz]; omega)).cell 2
  have hlt2 : w.heap.size < w2.heap.size := by have := hB2.size; omega
  have hR2 := HR.out.below hB3 hgs
  clear hb hz hB hB2
  go_wp2_with fail
  go_region_held3 (fun w' => w'.cell? ⟨w.heap.size, 2, none⟩ = some (.string (bs x.s))) (first | go_keep | (rw [hg4.cell_far ⟨w.heap.size, 2, none⟩ (by simpa using hlt2) (by simp; omega)]; assumption))
    (first | (go_at_call 28; refine (HCR.out _ ?_).mono ?_; (exact hR2); rintro e w4 ⟨rfl, hr4, hg4⟩))
  have hg5 := (grown_below hB3 (some g)).trans (grown_drew hg4)
  go_wp2_with fail
  go_ret
  exact ⟨rfl, hr4, hg5⟩

set_option maxRecDepth 100000 in
set_option maxHeartbeats 1000000 in
theorem equal_3 (g : Nat) (x : Val) (r : List UInt8) (vL vT : Value) (w : World) (hR : Rd w g 59 ⟨encV x ++ r, false⟩) (hlen : (encV x ++ r).length ≤ 100000000) (B0 : Nat) (hgB : B0 ≤ g) (hv : VOk w B0 vL vT x) (hs : smallV x) (ho : okV x) (hk : x.k % 5 = 3) :
    Calls Try.prog 41 #[.pointer (some ⟨g, 0, none⟩), .agg #[.int .i64 x.k, .int .i64 x.n, .string (bs x.s), vL, vT]] w (RdPost g 59 ⟨r, false⟩ (.bool true) w) := by
  have HE : Hid (encV x = encNums x.zs) := by
    show _ = _
    unfold encV
    simp [hk, encI, encT]
  rw [HE.out] at hR hlen
  obtain ⟨hs1, hs2, hs3, hs4⟩ := hs
  have HI : Hid (fList fInt ⟨encNums x.zs ++ r, false⟩ = (x.zs, ⟨r, false⟩)) := fList_inv encI_pos (by omega) (fun z hz => fInt_inv (ho.zs z hz)) r
  have hlen' : (St.mk (encNums x.zs ++ r) false).l.length ≤ 100000000 := hlen
  have hcr := fun (w : World) (h : Rd w g 59 ⟨encNums x.zs ++ r, false⟩) => wNums g ⟨encNums x.zs ++ r, false⟩ w h hlen'
  rw [HI.out] at hcr
  simp only at hcr
  have HCR := Lib.hid hcr; clear hcr hlen hlen'
  have HR := Lib.hid hR
  have hgs := hR.lt
  clear hR
  have hsep : ∀ w2, w.grownBy w2 (some g) → VOk w2 B0 vL vT x := fun w2 h => hv.below (Below.of_grown h (by omega) hgB)
  have HS4 := Lib.hid hs4; clear hs4
  have hn := Lib.hid ho.n
  have HK := Lib.hid hk; clear hk
  have HSEP := Lib.hid hsep; clear hsep
  have hb := Blk.new w 25 #[.int .i64 x.k, .int .i64 x.n, .string (bs x.s), vL, vT]
  have hB := below_new w (.cells #[.int .i64 x.k, .int .i64 x.n, .string (bs x.s), vL, vT] 25)
  have hz := size_new w (.cells #[.int .i64 x.k, .int .i64 x.n, .string (bs x.s), vL, vT] 25)
  go_enter Try.func41, Try.ntmps41
  go_wp2_with fail
  refine (kind_any x.k _ _ _ _ _).mono ?_; rintro e w2 ⟨rfl, hB2⟩
  rw [HK.out]
  have hB3 := hB.trans (hB2.mono (by rw [hz]; omega))
  have c3 := (hb.below hB2 (by rw [hz]; omega)).cell 3
  have hlt2 : w.heap.size < w2.heap.size := by have := hB2.size; omega
  have hR2 := HR.out.below hB3 hgs
  clear hb hz hB hB2
  go_wp2_with fail
  go_region_held3 (fun w' => w'.cell? ⟨w.heap.size, 3, none⟩ = some (vL)) (first | go_keep | (rw [hg4.cell_far ⟨w.heap.size, 3, none⟩ (by simpa using hlt2) (by simp; omega)]; assumption) | ((refine (hB7.cell (p := ⟨w.heap.size, 3, none⟩) ?_).trans ?_); (have := hg4.size; simp at this ⊢; omega); assumption))
    (first | (go_at_call 31; refine (HCR.out _ ?_).mono ?_; (exact hR2); rintro e w4 ⟨v4, rfl, ho4, hr4, hg4⟩) | (go_at_call 30; refine (same_nums _ _ x.zs w4.heap.size _ ?_ ?_ ?_ ?_).mono ?_; (exact Nat.le_refl _); (exact Row.of_own ho4); (exact ((HSEP.out w4 ((grown_below hB3 (some g)).trans (grown_drew hg4))).nums.mono (Nat.le_trans (by omega) (Nat.le_trans hB3.size hg4.size)))); (omega); rintro e w7 ⟨rfl, hB7⟩))
  have hg5 := (grown_below hB3 (some g)).trans (grown_drew hg4)
  have hg6 := hg5.trans (grown_below hB7 (some g))
  have hr7 := hr4.below hB7 hr4.lt
  go_wp2_with fail
  go_ret
  exact ⟨rfl, hr7, hg6⟩

set_option maxRecDepth 100000 in
set_option maxHeartbeats 1000000 in
theorem equal_4 (g : Nat) (x : Val) (r : List UInt8) (vL vT : Value) (w : World) (hR : Rd w g 59 ⟨encV x ++ r, false⟩) (hlen : (encV x ++ r).length ≤ 100000000) (B0 : Nat) (hgB : B0 ≤ g) (hv : VOk w B0 vL vT x) (hs : smallV x) (ho : okV x) (hk : x.k % 5 = 4) :
    Calls Try.prog 41 #[.pointer (some ⟨g, 0, none⟩), .agg #[.int .i64 x.k, .int .i64 x.n, .string (bs x.s), vL, vT]] w (RdPost g 59 ⟨r, false⟩ (.bool true) w) := by
  have HE : Hid (encV x = encTexts x.ss) := by
    show _ = _
    unfold encV
    simp [hk, encI, encT]
  rw [HE.out] at hR hlen
  obtain ⟨hs1, hs2, hs3, hs4⟩ := hs
  have HI : Hid (fList fText ⟨encTexts x.ss ++ r, false⟩ = (x.ss, ⟨r, false⟩)) := fList_inv encT_pos (by omega) (fun z hz => fText_inv (by have := hs4 z hz; omega)) r
  have hlen' : (St.mk (encTexts x.ss ++ r) false).l.length ≤ 100000000 := hlen
  have hcr := fun (w : World) (h : Rd w g 59 ⟨encTexts x.ss ++ r, false⟩) => wTexts g ⟨encTexts x.ss ++ r, false⟩ w h hlen'
  rw [HI.out] at hcr
  simp only at hcr
  have HCR := Lib.hid hcr; clear hcr hlen hlen'
  have HR := Lib.hid hR
  have hgs := hR.lt
  clear hR
  have hsep : ∀ w2, w.grownBy w2 (some g) → VOk w2 B0 vL vT x := fun w2 h => hv.below (Below.of_grown h (by omega) hgB)
  have HS4 := Lib.hid hs4; clear hs4
  have hn := Lib.hid ho.n
  have HK := Lib.hid hk; clear hk
  have HSEP := Lib.hid hsep; clear hsep
  have hb := Blk.new w 25 #[.int .i64 x.k, .int .i64 x.n, .string (bs x.s), vL, vT]
  have hB := below_new w (.cells #[.int .i64 x.k, .int .i64 x.n, .string (bs x.s), vL, vT] 25)
  have hz := size_new w (.cells #[.int .i64 x.k, .int .i64 x.n, .string (bs x.s), vL, vT] 25)
  go_enter Try.func41, Try.ntmps41
  go_wp2_with fail
  refine (kind_any x.k _ _ _ _ _).mono ?_; rintro e w2 ⟨rfl, hB2⟩
  rw [HK.out]
  have hB3 := hB.trans (hB2.mono (by rw [hz]; omega))
  have c4 := (hb.below hB2 (by rw [hz]; omega)).cell 4
  have hlt2 : w.heap.size < w2.heap.size := by have := hB2.size; omega
  have hR2 := HR.out.below hB3 hgs
  clear hb hz hB hB2
  go_wp2_with fail
  go_region_held3 (fun w' => w'.cell? ⟨w.heap.size, 4, none⟩ = some (vT)) (first | go_keep | (rw [hg4.cell_far ⟨w.heap.size, 4, none⟩ (by simpa using hlt2) (by simp; omega)]; assumption) | ((refine (hB7.cell (p := ⟨w.heap.size, 4, none⟩) ?_).trans ?_); (have := hg4.size; simp at this ⊢; omega); assumption))
    (first | (go_at_call 34; refine (HCR.out _ ?_).mono ?_; (exact hR2); rintro e w4 ⟨v4, rfl, ho4, hr4, hg4⟩) | (go_at_call 33; refine (same_texts _ _ x.ss w4.heap.size _ ?_ ?_ ?_ ?_).mono ?_; (exact Nat.le_refl _); (exact Row.of_own ho4); (exact ((HSEP.out w4 ((grown_below hB3 (some g)).trans (grown_drew hg4))).texts.mono (Nat.le_trans (by omega) (Nat.le_trans hB3.size hg4.size)))); (omega); rintro e w7 ⟨rfl, hB7⟩))
  have hg5 := (grown_below hB3 (some g)).trans (grown_drew hg4)
  have hg6 := hg5.trans (grown_below hB7 (some g))
  have hr7 := hr4.below hB7 hr4.lt
  go_wp2_with fail
  go_ret
  exact ⟨rfl, hr7, hg6⟩

theorem vrow_below {w w' : World} {v : Value} {xs : List Val} (h : VRow w w.heap.size v xs) (hb : Below w.heap.size w w') : VRow w' w'.heap.size v xs := by
  obtain ⟨A, cap, hv, hA⟩ := h
  refine ⟨A, cap, hv, fun h0 => ?_⟩
  obtain ⟨b, off, ha, hB, hc⟩ := hA h0
  refine ⟨b, off, ha, Nat.lt_of_lt_of_le hB hb.size, fun k hk => ?_⟩
  obtain ⟨vL, vT, hv, c0, c1, c2, c3, c4⟩ := hc k hk
  exact ⟨vL, vT, (hv.below hb).mono hb.size, (hb.cell (p := ⟨b, _, none⟩) hB).trans c0, (hb.cell (p := ⟨b, _, none⟩) hB).trans c1, (hb.cell (p := ⟨b, _, none⟩) hB).trans c2, (hb.cell (p := ⟨b, _, none⟩) hB).trans c3, (hb.cell (p := ⟨b, _, none⟩) hB).trans c4⟩
theorem mod5 (k : Int) : k % 5 = 0 ∨ k % 5 = 1 ∨ k % 5 = 2 ∨ k % 5 = 3 ∨ k % 5 = 4 := by omega
theorem write_any (x : Val) (vL vT : Value) (w : World) (hv : VOk w w.heap.size vL vT x) (hs : smallV x) (ho : okV x) :
    Calls Try.prog 40 #[.agg #[.int .i64 x.k, .int .i64 x.n, .string (bs x.s), vL, vT]] w fun e w' => e = .returned (.string (bs (encV x))) ∧ Below w.heap.size w w' := by
  rcases mod5 x.k with h | h | h | h | h
  · exact write_0 x vL vT w hv hs ho h
  · exact write_1 x vL vT w hv hs ho h
  · exact write_2 x vL vT w hv hs ho h
  · exact write_3 x vL vT w hv hs ho h
  · exact write_4 x vL vT w hv hs ho h
theorem equal_any (g : Nat) (x : Val) (r : List UInt8) (vL vT : Value) (w : World) (hR : Rd w g 59 ⟨encV x ++ r, false⟩) (hlen : (encV x ++ r).length ≤ 100000000) (B0 : Nat) (hgB : B0 ≤ g) (hv : VOk w B0 vL vT x) (hs : smallV x) (ho : okV x) :
    Calls Try.prog 41 #[.pointer (some ⟨g, 0, none⟩), .agg #[.int .i64 x.k, .int .i64 x.n, .string (bs x.s), vL, vT]] w (RdPost g 59 ⟨r, false⟩ (.bool true) w) := by
  rcases mod5 x.k with h | h | h | h | h
  · exact equal_0 g x r vL vT w hR hlen B0 hgB hv hs ho h
  · exact equal_1 g x r vL vT w hR hlen B0 hgB hv hs ho h
  · exact equal_2 g x r vL vT w hR hlen B0 hgB hv hs ho h
  · exact equal_3 g x r vL vT w hR hlen B0 hgB hv hs ho h
  · exact equal_4 g x r vL vT w hR hlen B0 hgB hv hs ho h
theorem encV_len (x : Val) (hs : smallV x) (ho : okV x) : (encV x).length ≤ 170000 := by
  obtain ⟨h1, h2, h3, h4⟩ := hs
  unfold encV
  split
  · have := enc_le10 (m := num0 x.n) (by have := num0_le ho.n.1 ho.n.2; omega); omega
  · split
    · have := encI_len x.n ho.n; omega
    · split
      · have := encT_len x.s h1; omega
      · split
        · have a := enc_le10 (m := x.zs.length) (by omega)
          have b := flat_len encI 10 x.zs (fun z hz => encI_len z (ho.zs z hz))
          unfold encNums; rw [List.length_append]; omega
        · have a := enc_le10 (m := x.ss.length) (by omega)
          have b := flat_len encT 410 x.ss (fun z hz => encT_len z (h4 z hz))
          unfold encTexts; rw [List.length_append]; omega
end Go.Proofs.Ytebepofbngdccaa
