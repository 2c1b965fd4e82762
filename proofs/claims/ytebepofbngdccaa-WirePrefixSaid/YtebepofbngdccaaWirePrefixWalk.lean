/-
  The walk of the law WirePrefix.
-/
import Derived.Test.YtebepofbngdccaaWireWritesWalk
namespace Go.Proofs.Ytebepofbngdccaa
set_option linter.unusedVariables false
set_option linter.unusedSimpArgs false
open Go.RowKit

theorem keep_b {B : Nat} {w w' : World} (hb : Below B w w') {a : Addr} {v : Value} (h : w.cell? a = some v) (hB : w.heap.size ≤ B) : w'.cell? a = some v := (hb.cell (Nat.lt_of_lt_of_le (World.block_lt_of_cell? w a h) hB)).trans h
theorem few_val (v : Value) (xs : List Val) (w : World) (b : Bool) (hr : VRow w w.heap.size v xs) (h : fewB xs = b) :
    Calls Try.prog 10 #[v] w fun e w' => e = .returned (.bool b) ∧ Below w.heap.size w w' := by
  subst h; exact few_exact v xs w hr

theorem inv_prefix {α : Type} {item : St → α × St} {encode : α → List UInt8} {a b : α} {z : List UInt8} (ha : Inv item encode a) (hb : Inv item encode b) (h : encode b = encode a ++ z) : z = [] := by
  have h1 := ha z
  have h2 := hb []
  rw [List.append_nil, h, h1] at h2
  injection h2 with _ h3
  injection h3

theorem encV_prefix {x y : Val} {z : List UInt8} (hx : smallV x) (hy : smallV y) (ox : okV x) (oy : okV y) (hk : x.k % 5 = y.k % 5) (h : encV y = encV x ++ z) : z = [] := by
  obtain ⟨x1, x2, x3, x4⟩ := hx
  obtain ⟨y1, y2, y3, y4⟩ := hy
  unfold encV at h
  rw [← hk] at h
  by_cases h0 : x.k % 5 = 0
  · rw [if_pos h0, if_pos h0] at h
    exact inv_prefix (fNum_inv (by have := num0_le ox.n.1 ox.n.2; omega)) (fNum_inv (by have := num0_le oy.n.1 oy.n.2; omega)) h
  · rw [if_neg h0, if_neg h0] at h
    by_cases h1 : x.k % 5 = 1
    · rw [if_pos h1, if_pos h1] at h; exact inv_prefix (fInt_inv ox.n) (fInt_inv oy.n) h
    · rw [if_neg h1, if_neg h1] at h
      by_cases h2 : x.k % 5 = 2
      · rw [if_pos h2, if_pos h2] at h; exact inv_prefix (fText_inv (by omega)) (fText_inv (by omega)) h
      · rw [if_neg h2, if_neg h2] at h
        by_cases h3 : x.k % 5 = 3
        · rw [if_pos h3, if_pos h3] at h
          exact inv_prefix (fList_inv encI_pos (by omega) (fun z hz => fInt_inv (ox.zs z hz))) (fList_inv encI_pos (by omega) (fun z hz => fInt_inv (oy.zs z hz))) h
        · rw [if_neg h3, if_neg h3] at h
          exact inv_prefix (fList_inv encT_pos (by omega) (fun z hz => fText_inv (by have := x4 z hz; omega))) (fList_inv encT_pos (by omega) (fun z hz => fText_inv (by have := y4 z hz; omega))) h

theorem bytes_beq {a b : ByteArray} : (a.toList == b.toList) = true ↔ a = b := by
  rw [beq_iff_eq, Lib.toList_data, Lib.toList_data]
  exact ⟨fun h => ByteArray.ext (Array.ext' h), fun h => by rw [h]⟩

namespace wirePrefix
set_option maxRecDepth 100000 in
set_option maxHeartbeats 8000000 in
theorem walk_1 (w : World) (x y : Val) (vL vT uL uT : Value) (hv : VOk w w.heap.size vL vT x) (ho : okV x) (hu : VOk w w.heap.size uL uT y) (ho' : okV y) (hx : fewB [x] = false) :
    Calls Try.prog 7 #[.agg #[.int .i64 x.k, .int .i64 x.n, .string (bs x.s), vL, vT], .agg #[.int .i64 y.k, .int .i64 y.n, .string (bs y.s), uL, uT]] w fun e w' => e = .returned (.bool true) ∧ Below w.heap.size w w' := by
  have HX := Lib.hid hx; clear hx
  have hb := Blk.new w 25 #[.int .i64 x.k, .int .i64 x.n, .string (bs x.s), vL, vT]
  have hB := below_new w (.cells #[.int .i64 x.k, .int .i64 x.n, .string (bs x.s), vL, vT] 25)
  have hz := size_new w (.cells #[.int .i64 x.k, .int .i64 x.n, .string (bs x.s), vL, vT] 25)
  go_enter Try.func7, Try.ntmps7
  go_wp2_with fail
  refine (small_any _).mono ?_; rintro e w1 ⟨rfl, hB1⟩
  have hB0 := hB.trans ((Below.refl (w.alloc (.cells #[.int .i64 x.k, .int .i64 x.n, .string (bs x.s), vL, vT] 25)).heap.size _).alloc (Nat.le_refl _) (.cells #[.int .i64 y.k, .int .i64 y.n, .string (bs y.s), uL, uT] 25) |>.mono (by rw [hz]; omega))
  have b1 := (hb.below (below_new _ (.cells #[.int .i64 y.k, .int .i64 y.n, .string (bs y.s), uL, uT] 25)) hb.lt).below hB1 (by simp; omega)
  have b2 := (Blk.new (w.alloc (.cells #[.int .i64 x.k, .int .i64 x.n, .string (bs x.s), vL, vT] 25)) 25 #[.int .i64 y.k, .int .i64 y.n, .string (bs y.s), uL, uT]).below hB1 (by simp)
  rw [hz] at b2
  have c1 := hB0.trans (hB1.mono hB0.size)
  have hv1 := hv.go c1
  have hu1 := hu.go c1
  clear hB hB0 hB1 hb hz hv hu
  have d0 : w1.cell? ⟨w.heap.size, 0, none⟩ = some (.int .i64 x.k) := b1.cell 0
  have d1 : w1.cell? ⟨w.heap.size, 1, none⟩ = some (.int .i64 x.n) := b1.cell 1
  have d2 : w1.cell? ⟨w.heap.size, 2, none⟩ = some (.string (bs x.s)) := b1.cell 2
  have d3 : w1.cell? ⟨w.heap.size, 3, none⟩ = some vL := b1.cell 3
  have d4 : w1.cell? ⟨w.heap.size, 4, none⟩ = some vT := b1.cell 4
  have d5 : w1.cell? ⟨w.heap.size + 1, 0, none⟩ = some (.int .i64 y.k) := b2.cell 0
  have d6 : w1.cell? ⟨w.heap.size + 1, 1, none⟩ = some (.int .i64 y.n) := b2.cell 1
  have d7 : w1.cell? ⟨w.heap.size + 1, 2, none⟩ = some (.string (bs y.s)) := b2.cell 2
  have d8 : w1.cell? ⟨w.heap.size + 1, 3, none⟩ = some uL := b2.cell 3
  have d9 : w1.cell? ⟨w.heap.size + 1, 4, none⟩ = some uT := b2.cell 4
  clear b1 b2
  go_wp2_with fail

  go_region_with (first | (go_at_call 10; refine (few_val _ [x] _ _ ?_ HX.out).mono ?_; (exact vrow_one hv1.drew 25); rintro e wa ⟨rfl, hBa⟩))
  all_goals
    have ea := (below_new w1 _).drew.trans (hBa.mono (by simp))
    have c2 := c1.trans (ea.mono c1.size)
    go_wp2_with fail
    go_ret
    exact ⟨rfl, c2⟩

set_option maxRecDepth 100000 in
set_option maxHeartbeats 8000000 in
theorem walk_2 (w : World) (x y : Val) (vL vT uL uT : Value) (hv : VOk w w.heap.size vL vT x) (ho : okV x) (hu : VOk w w.heap.size uL uT y) (ho' : okV y) (hx : fewB [x] = true) (hy : fewB [y] = false) :
    Calls Try.prog 7 #[.agg #[.int .i64 x.k, .int .i64 x.n, .string (bs x.s), vL, vT], .agg #[.int .i64 y.k, .int .i64 y.n, .string (bs y.s), uL, uT]] w fun e w' => e = .returned (.bool true) ∧ Below w.heap.size w w' := by
  have HX := Lib.hid hx; clear hx
  have HY := Lib.hid hy; clear hy
  have hb := Blk.new w 25 #[.int .i64 x.k, .int .i64 x.n, .string (bs x.s), vL, vT]
  have hB := below_new w (.cells #[.int .i64 x.k, .int .i64 x.n, .string (bs x.s), vL, vT] 25)
  have hz := size_new w (.cells #[.int .i64 x.k, .int .i64 x.n, .string (bs x.s), vL, vT] 25)
  go_enter Try.func7, Try.ntmps7
  go_wp2_with fail
  refine (small_any _).mono ?_; rintro e w1 ⟨rfl, hB1⟩
  have hB0 := hB.trans ((Below.refl (w.alloc (.cells #[.int .i64 x.k, .int .i64 x.n, .string (bs x.s), vL, vT] 25)).heap.size _).alloc (Nat.le_refl _) (.cells #[.int .i64 y.k, .int .i64 y.n, .string (bs y.s), uL, uT] 25) |>.mono (by rw [hz]; omega))
  have b1 := (hb.below (below_new _ (.cells #[.int .i64 y.k, .int .i64 y.n, .string (bs y.s), uL, uT] 25)) hb.lt).below hB1 (by simp; omega)
  have b2 := (Blk.new (w.alloc (.cells #[.int .i64 x.k, .int .i64 x.n, .string (bs x.s), vL, vT] 25)) 25 #[.int .i64 y.k, .int .i64 y.n, .string (bs y.s), uL, uT]).below hB1 (by simp)
  rw [hz] at b2
  have c1 := hB0.trans (hB1.mono hB0.size)
  have hv1 := hv.go c1
  have hu1 := hu.go c1
  clear hB hB0 hB1 hb hz hv hu
  have d0 : w1.cell? ⟨w.heap.size, 0, none⟩ = some (.int .i64 x.k) := b1.cell 0
  have d1 : w1.cell? ⟨w.heap.size, 1, none⟩ = some (.int .i64 x.n) := b1.cell 1
  have d2 : w1.cell? ⟨w.heap.size, 2, none⟩ = some (.string (bs x.s)) := b1.cell 2
  have d3 : w1.cell? ⟨w.heap.size, 3, none⟩ = some vL := b1.cell 3
  have d4 : w1.cell? ⟨w.heap.size, 4, none⟩ = some vT := b1.cell 4
  have d5 : w1.cell? ⟨w.heap.size + 1, 0, none⟩ = some (.int .i64 y.k) := b2.cell 0
  have d6 : w1.cell? ⟨w.heap.size + 1, 1, none⟩ = some (.int .i64 y.n) := b2.cell 1
  have d7 : w1.cell? ⟨w.heap.size + 1, 2, none⟩ = some (.string (bs y.s)) := b2.cell 2
  have d8 : w1.cell? ⟨w.heap.size + 1, 3, none⟩ = some uL := b2.cell 3
  have d9 : w1.cell? ⟨w.heap.size + 1, 4, none⟩ = some uT := b2.cell 4
  clear b1 b2
  go_wp2_with fail

  go_region_with (first | (go_at_call 10; refine (few_val _ [x] _ _ ?_ HX.out).mono ?_; (exact vrow_one hv1.drew 25); rintro e wa ⟨rfl, hBa⟩; have eaa := (below_new w1 _).drew.trans (hBa.mono (by simp)); have f5 := keep_below eaa d5; have f6 := keep_below eaa d6; have f7 := keep_below eaa d7; have f8 := keep_below eaa d8; have f9 := keep_below eaa d9; clear eaa) | (go_at_call 10; refine (few_val _ [y] _ _ ?_ HY.out).mono ?_; (exact vrow_one (((hu1.drew.go (below_new _ _)).go hBa)) 25); rintro e wb ⟨rfl, hBb⟩))
  all_goals
    have ea := (below_new w1 _).drew.trans (hBa.mono (by simp))
    have eb := (below_new wa _).trans (hBb.mono (by simp))
    have c2 := c1.trans (ea.mono c1.size)
    have c3 := c2.trans (eb.mono c2.size)
    go_wp2_with fail
    go_ret
    exact ⟨rfl, c3⟩

set_option maxRecDepth 100000 in
set_option maxHeartbeats 8000000 in
theorem walk_3 (w : World) (x y : Val) (vL vT uL uT : Value) (hv : VOk w w.heap.size vL vT x) (ho : okV x) (hu : VOk w w.heap.size uL uT y) (ho' : okV y) (hx : fewB [x] = true) (hy : fewB [y] = true) (hk : x.k % 5 ≠ y.k % 5) :
    Calls Try.prog 7 #[.agg #[.int .i64 x.k, .int .i64 x.n, .string (bs x.s), vL, vT], .agg #[.int .i64 y.k, .int .i64 y.n, .string (bs y.s), uL, uT]] w fun e w' => e = .returned (.bool true) ∧ Below w.heap.size w w' := by
  have HX := Lib.hid hx; clear hx
  have HY := Lib.hid hy; clear hy
  have hkb : ((x.k % 5 : Int) != y.k % 5) = true := by simpa using hk
  clear hk
  have hb := Blk.new w 25 #[.int .i64 x.k, .int .i64 x.n, .string (bs x.s), vL, vT]
  have hB := below_new w (.cells #[.int .i64 x.k, .int .i64 x.n, .string (bs x.s), vL, vT] 25)
  have hz := size_new w (.cells #[.int .i64 x.k, .int .i64 x.n, .string (bs x.s), vL, vT] 25)
  go_enter Try.func7, Try.ntmps7
  go_wp2_with fail
  refine (small_any _).mono ?_; rintro e w1 ⟨rfl, hB1⟩
  have hB0 := hB.trans ((Below.refl (w.alloc (.cells #[.int .i64 x.k, .int .i64 x.n, .string (bs x.s), vL, vT] 25)).heap.size _).alloc (Nat.le_refl _) (.cells #[.int .i64 y.k, .int .i64 y.n, .string (bs y.s), uL, uT] 25) |>.mono (by rw [hz]; omega))
  have b1 := (hb.below (below_new _ (.cells #[.int .i64 y.k, .int .i64 y.n, .string (bs y.s), uL, uT] 25)) hb.lt).below hB1 (by simp; omega)
  have b2 := (Blk.new (w.alloc (.cells #[.int .i64 x.k, .int .i64 x.n, .string (bs x.s), vL, vT] 25)) 25 #[.int .i64 y.k, .int .i64 y.n, .string (bs y.s), uL, uT]).below hB1 (by simp)
  rw [hz] at b2
  have c1 := hB0.trans (hB1.mono hB0.size)
  have hv1 := hv.go c1
  have hu1 := hu.go c1
  clear hB hB0 hB1 hb hz hv hu
  have d0 : w1.cell? ⟨w.heap.size, 0, none⟩ = some (.int .i64 x.k) := b1.cell 0
  have d1 : w1.cell? ⟨w.heap.size, 1, none⟩ = some (.int .i64 x.n) := b1.cell 1
  have d2 : w1.cell? ⟨w.heap.size, 2, none⟩ = some (.string (bs x.s)) := b1.cell 2
  have d3 : w1.cell? ⟨w.heap.size, 3, none⟩ = some vL := b1.cell 3
  have d4 : w1.cell? ⟨w.heap.size, 4, none⟩ = some vT := b1.cell 4
  have d5 : w1.cell? ⟨w.heap.size + 1, 0, none⟩ = some (.int .i64 y.k) := b2.cell 0
  have d6 : w1.cell? ⟨w.heap.size + 1, 1, none⟩ = some (.int .i64 y.n) := b2.cell 1
  have d7 : w1.cell? ⟨w.heap.size + 1, 2, none⟩ = some (.string (bs y.s)) := b2.cell 2
  have d8 : w1.cell? ⟨w.heap.size + 1, 3, none⟩ = some uL := b2.cell 3
  have d9 : w1.cell? ⟨w.heap.size + 1, 4, none⟩ = some uT := b2.cell 4
  clear b1 b2
  go_wp2_with fail

  first | (go_region_held3 (fun w' => w'.cell? ⟨w.heap.size, 0, none⟩ = some (.int .i64 x.k) ∧ w'.cell? ⟨w.heap.size, 1, none⟩ = some (.int .i64 x.n) ∧ w'.cell? ⟨w.heap.size, 2, none⟩ = some (.string (bs x.s)) ∧ w'.cell? ⟨w.heap.size, 3, none⟩ = some vL ∧ w'.cell? ⟨w.heap.size, 4, none⟩ = some vT ∧ w'.cell? ⟨w.heap.size + 1, 0, none⟩ = some (.int .i64 y.k) ∧ w'.cell? ⟨w.heap.size + 1, 1, none⟩ = some (.int .i64 y.n) ∧ w'.cell? ⟨w.heap.size + 1, 2, none⟩ = some (.string (bs y.s)) ∧ w'.cell? ⟨w.heap.size + 1, 3, none⟩ = some uL ∧ w'.cell? ⟨w.heap.size + 1, 4, none⟩ = some uT)
    (first | (go_split_ands; exact ⟨keep_b hBd (by with_reducible assumption) (by simp), keep_b hBd (by with_reducible assumption) (by simp), keep_b hBd (by with_reducible assumption) (by simp), keep_b hBd (by with_reducible assumption) (by simp), keep_b hBd (by with_reducible assumption) (by simp), keep_b hBd (by with_reducible assumption) (by simp), keep_b hBd (by with_reducible assumption) (by simp), keep_b hBd (by with_reducible assumption) (by simp), keep_b hBd (by with_reducible assumption) (by simp), keep_b hBd (by with_reducible assumption) (by simp)⟩) | (go_split_ands; exact ⟨keep_b hBc (by with_reducible assumption) (by simp), keep_b hBc (by with_reducible assumption) (by simp), keep_b hBc (by with_reducible assumption) (by simp), keep_b hBc (by with_reducible assumption) (by simp), keep_b hBc (by with_reducible assumption) (by simp), keep_b hBc (by with_reducible assumption) (by simp), keep_b hBc (by with_reducible assumption) (by simp), keep_b hBc (by with_reducible assumption) (by simp), keep_b hBc (by with_reducible assumption) (by simp), keep_b hBc (by with_reducible assumption) (by simp)⟩) | (go_split_ands; exact ⟨keep_b hBb (by with_reducible assumption) (by simp), keep_b hBb (by with_reducible assumption) (by simp), keep_b hBb (by with_reducible assumption) (by simp), keep_b hBb (by with_reducible assumption) (by simp), keep_b hBb (by with_reducible assumption) (by simp), keep_b hBb (by with_reducible assumption) (by simp), keep_b hBb (by with_reducible assumption) (by simp), keep_b hBb (by with_reducible assumption) (by simp), keep_b hBb (by with_reducible assumption) (by simp), keep_b hBb (by with_reducible assumption) (by simp)⟩) | (go_split_ands; exact ⟨keep_b hBa (by with_reducible assumption) (by simp), keep_b hBa (by with_reducible assumption) (by simp), keep_b hBa (by with_reducible assumption) (by simp), keep_b hBa (by with_reducible assumption) (by simp), keep_b hBa (by with_reducible assumption) (by simp), keep_b hBa (by with_reducible assumption) (by simp), keep_b hBa (by with_reducible assumption) (by simp), keep_b hBa (by with_reducible assumption) (by simp), keep_b hBa (by with_reducible assumption) (by simp), keep_b hBa (by with_reducible assumption) (by simp)⟩) | go_keep)
    (first | (go_at_call 10; refine (few_val _ [x] _ _ ?_ HX.out).mono ?_; (exact vrow_one hv1.drew 25); rintro e wa ⟨rfl, hBa⟩) | (go_at_call 10; refine (few_val _ [y] _ _ ?_ HY.out).mono ?_; (exact vrow_one (((hu1.drew.go (below_new _ _)).go hBa)) 25); rintro e wb ⟨rfl, hBb⟩) | (go_at_call 23; ((with_reducible refine (kind_any x.k _ _ _ _ _).mono ?_); rintro e wc ⟨rfl, hBc⟩)) | (go_at_call 23; ((with_reducible refine (kind_any y.k _ _ _ _ _).mono ?_); rintro e wd ⟨rfl, hBd⟩)))) | fail
  have ea := below_drew ((below_new w1.drew _).trans (hBa.mono (by simp)))
  have eb := ea.trans (((below_new wa _).trans (hBb.mono (by simp))).mono ea.size)
  have ec := eb.trans (hBc.mono eb.size)
  have ed := ec.trans (hBd.mono ec.size)
  have c2 := c1.trans (ed.mono c1.size)
  go_wp2_with fail
  go_ret
  exact ⟨rfl, c2⟩

set_option maxRecDepth 100000 in
set_option maxHeartbeats 8000000 in
theorem walk_4 (w : World) (x y : Val) (vL vT uL uT : Value) (hv : VOk w w.heap.size vL vT x) (ho : okV x) (hu : VOk w w.heap.size uL uT y) (ho' : okV y) (hx : fewB [x] = true) (hy : fewB [y] = true) (hk : x.k % 5 = y.k % 5) :
    Calls Try.prog 7 #[.agg #[.int .i64 x.k, .int .i64 x.n, .string (bs x.s), vL, vT], .agg #[.int .i64 y.k, .int .i64 y.n, .string (bs y.s), uL, uT]] w fun e w' => e = .returned (.bool true) ∧ Below w.heap.size w w' := by
  have hsx := (fewB_of hx).2.1 x (by simp)
  have hsy := (fewB_of hy).2.1 y (by simp)
  have hpre := fun z => encV_prefix (z := z) hsx hsy ho ho' hk
  have hlx := encV_len x hsx ho
  have hly := encV_len y hsy ho'
  have HX := Lib.hid hx; clear hx
  have HY := Lib.hid hy; clear hy
  have hkb : ((x.k % 5 : Int) != y.k % 5) = false := by simp [hk]
  have HSX := Lib.hid hsx; clear hsx
  have HSY := Lib.hid hsy; clear hsy
  have HP := Lib.hid hpre; clear hpre hk
  have hb := Blk.new w 25 #[.int .i64 x.k, .int .i64 x.n, .string (bs x.s), vL, vT]
  have hB := below_new w (.cells #[.int .i64 x.k, .int .i64 x.n, .string (bs x.s), vL, vT] 25)
  have hz := size_new w (.cells #[.int .i64 x.k, .int .i64 x.n, .string (bs x.s), vL, vT] 25)
  go_enter Try.func7, Try.ntmps7
  go_wp2_with fail
  refine (small_any _).mono ?_; rintro e w1 ⟨rfl, hB1⟩
  have hB0 := hB.trans ((Below.refl (w.alloc (.cells #[.int .i64 x.k, .int .i64 x.n, .string (bs x.s), vL, vT] 25)).heap.size _).alloc (Nat.le_refl _) (.cells #[.int .i64 y.k, .int .i64 y.n, .string (bs y.s), uL, uT] 25) |>.mono (by rw [hz]; omega))
  have b1 := (hb.below (below_new _ (.cells #[.int .i64 y.k, .int .i64 y.n, .string (bs y.s), uL, uT] 25)) hb.lt).below hB1 (by simp; omega)
  have b2 := (Blk.new (w.alloc (.cells #[.int .i64 x.k, .int .i64 x.n, .string (bs x.s), vL, vT] 25)) 25 #[.int .i64 y.k, .int .i64 y.n, .string (bs y.s), uL, uT]).below hB1 (by simp)
  rw [hz] at b2
  have c1 := hB0.trans (hB1.mono hB0.size)
  have hv1 := hv.go c1
  have hu1 := hu.go c1
  clear hB hB0 hB1 hb hz hv hu
  have d0 : w1.cell? ⟨w.heap.size, 0, none⟩ = some (.int .i64 x.k) := b1.cell 0
  have d1 : w1.cell? ⟨w.heap.size, 1, none⟩ = some (.int .i64 x.n) := b1.cell 1
  have d2 : w1.cell? ⟨w.heap.size, 2, none⟩ = some (.string (bs x.s)) := b1.cell 2
  have d3 : w1.cell? ⟨w.heap.size, 3, none⟩ = some vL := b1.cell 3
  have d4 : w1.cell? ⟨w.heap.size, 4, none⟩ = some vT := b1.cell 4
  have d5 : w1.cell? ⟨w.heap.size + 1, 0, none⟩ = some (.int .i64 y.k) := b2.cell 0
  have d6 : w1.cell? ⟨w.heap.size + 1, 1, none⟩ = some (.int .i64 y.n) := b2.cell 1
  have d7 : w1.cell? ⟨w.heap.size + 1, 2, none⟩ = some (.string (bs y.s)) := b2.cell 2
  have d8 : w1.cell? ⟨w.heap.size + 1, 3, none⟩ = some uL := b2.cell 3
  have d9 : w1.cell? ⟨w.heap.size + 1, 4, none⟩ = some uT := b2.cell 4
  clear b1 b2
  go_wp2_with fail

  first | (go_region_held3 (fun w' => w'.cell? ⟨w.heap.size, 0, none⟩ = some (.int .i64 x.k) ∧ w'.cell? ⟨w.heap.size, 1, none⟩ = some (.int .i64 x.n) ∧ w'.cell? ⟨w.heap.size, 2, none⟩ = some (.string (bs x.s)) ∧ w'.cell? ⟨w.heap.size, 3, none⟩ = some vL ∧ w'.cell? ⟨w.heap.size, 4, none⟩ = some vT ∧ w'.cell? ⟨w.heap.size + 1, 0, none⟩ = some (.int .i64 y.k) ∧ w'.cell? ⟨w.heap.size + 1, 1, none⟩ = some (.int .i64 y.n) ∧ w'.cell? ⟨w.heap.size + 1, 2, none⟩ = some (.string (bs y.s)) ∧ w'.cell? ⟨w.heap.size + 1, 3, none⟩ = some uL ∧ w'.cell? ⟨w.heap.size + 1, 4, none⟩ = some uT)
    (first | (go_split_ands; exact ⟨keep_b hBd (by with_reducible assumption) (by simp), keep_b hBd (by with_reducible assumption) (by simp), keep_b hBd (by with_reducible assumption) (by simp), keep_b hBd (by with_reducible assumption) (by simp), keep_b hBd (by with_reducible assumption) (by simp), keep_b hBd (by with_reducible assumption) (by simp), keep_b hBd (by with_reducible assumption) (by simp), keep_b hBd (by with_reducible assumption) (by simp), keep_b hBd (by with_reducible assumption) (by simp), keep_b hBd (by with_reducible assumption) (by simp)⟩) | (go_split_ands; exact ⟨keep_b hBc (by with_reducible assumption) (by simp), keep_b hBc (by with_reducible assumption) (by simp), keep_b hBc (by with_reducible assumption) (by simp), keep_b hBc (by with_reducible assumption) (by simp), keep_b hBc (by with_reducible assumption) (by simp), keep_b hBc (by with_reducible assumption) (by simp), keep_b hBc (by with_reducible assumption) (by simp), keep_b hBc (by with_reducible assumption) (by simp), keep_b hBc (by with_reducible assumption) (by simp), keep_b hBc (by with_reducible assumption) (by simp)⟩) | (go_split_ands; exact ⟨keep_b hBb (by with_reducible assumption) (by simp), keep_b hBb (by with_reducible assumption) (by simp), keep_b hBb (by with_reducible assumption) (by simp), keep_b hBb (by with_reducible assumption) (by simp), keep_b hBb (by with_reducible assumption) (by simp), keep_b hBb (by with_reducible assumption) (by simp), keep_b hBb (by with_reducible assumption) (by simp), keep_b hBb (by with_reducible assumption) (by simp), keep_b hBb (by with_reducible assumption) (by simp), keep_b hBb (by with_reducible assumption) (by simp)⟩) | (go_split_ands; exact ⟨keep_b hBa (by with_reducible assumption) (by simp), keep_b hBa (by with_reducible assumption) (by simp), keep_b hBa (by with_reducible assumption) (by simp), keep_b hBa (by with_reducible assumption) (by simp), keep_b hBa (by with_reducible assumption) (by simp), keep_b hBa (by with_reducible assumption) (by simp), keep_b hBa (by with_reducible assumption) (by simp), keep_b hBa (by with_reducible assumption) (by simp), keep_b hBa (by with_reducible assumption) (by simp), keep_b hBa (by with_reducible assumption) (by simp)⟩) | go_keep)
    (first | (go_at_call 10; refine (few_val _ [x] _ _ ?_ HX.out).mono ?_; (exact vrow_one hv1.drew 25); rintro e wa ⟨rfl, hBa⟩) | (go_at_call 10; refine (few_val _ [y] _ _ ?_ HY.out).mono ?_; (exact vrow_one (((hu1.drew.go (below_new _ _)).go hBa)) 25); rintro e wb ⟨rfl, hBb⟩) | (go_at_call 23; ((with_reducible refine (kind_any x.k _ _ _ _ _).mono ?_); rintro e wc ⟨rfl, hBc⟩)) | (go_at_call 23; ((with_reducible refine (kind_any y.k _ _ _ _ _).mono ?_); rintro e wd ⟨rfl, hBd⟩)))) | fail
  have ea := below_drew ((below_new w1.drew _).trans (hBa.mono (by simp)))
  have eb := ea.trans (((below_new wa _).trans (hBb.mono (by simp))).mono ea.size)
  have ec := eb.trans (hBc.mono eb.size)
  have ed := ec.trans (hBd.mono ec.size)
  have c2 := c1.trans (ed.mono c1.size)
  have hv2 := hv1.go ed
  have hu2 := hu1.go ed
  replace d0 := keep_below ed d0
  replace d1 := keep_below ed d1
  replace d2 := keep_below ed d2
  replace d3 := keep_below ed d3
  replace d4 := keep_below ed d4
  replace d5 := keep_below ed d5
  replace d6 := keep_below ed d6
  replace d7 := keep_below ed d7
  replace d8 := keep_below ed d8
  replace d9 := keep_below ed d9
  clear ea eb ec ed hBa hBb hBc hBd hv1 hu1 c1
  go_wp2_with fail
  refine (write_any x vL vT _ hv2 HSX.out ho).mono ?_; rintro e w5 ⟨rfl, hB5⟩
  have c5 := c2.trans (hB5.mono c2.size)
  have hu5 := hu2.go hB5
  replace d5 := keep_below hB5 d5
  replace d6 := keep_below hB5 d6
  replace d7 := keep_below hB5 d7
  replace d8 := keep_below hB5 d8
  replace d9 := keep_below hB5 d9
  clear d0 d1 d2 d3 d4 hB5 hv2 hu2 c2
  go_wp2_with fail
  refine (write_any y uL uT _ hu5 HSY.out ho').mono ?_; rintro e w6 ⟨rfl, hB6⟩
  have c6 := c5.trans (hB6.mono c5.size)
  have hu6 := hu5.go hB6
  replace d5 := keep_below hB6 d5
  replace d6 := keep_below hB6 d6
  replace d7 := keep_below hB6 d7
  replace d8 := keep_below hB6 d8
  replace d9 := keep_below hB6 d9
  clear hB6 hu5 c5
  obtain ⟨sB, hsB⟩ : ∃ s, bs (encV x) = s := ⟨_, rfl⟩
  obtain ⟨tB, htB⟩ : ∃ s, bs (encV y) = s := ⟨_, rfl⟩
  have hs1 : sB.size ≤ 200000 := by rw [← hsB, bs_size]; omega
  have ht1 : tB.size ≤ 200000 := by rw [← htB, bs_size]; omega
  rw [hsB, htB]
  have HSB := Lib.hid hsB; clear hsB
  have HTB := Lib.hid htB; clear htB
  by_cases hgt : tB.size < sB.size
  · go_wp2_with fail
    go_ret
    exact ⟨rfl, c6⟩
  · by_cases hpre : tB.extract 0 sB.size = sB
    · have hbe : ((tB.extract 0 sB.size).toList == sB.toList) = true := bytes_beq.2 hpre
      have heq : encV y = encV x := by
        have h1 : encV y = encV x ++ (encV y).drop (encV x).length := by
          rw [← HSB.out, ← HTB.out, bs_size, bs_take] at hpre
          have := bs_inj hpre
          conv => lhs; rw [← List.take_append_drop (encV x).length (encV y), this]
        have h2 := HP.out _ h1
        rw [h2, List.append_nil] at h1
        exact h1
      have hst : sB = tB := by rw [← HSB.out, ← HTB.out, heq]
      have hbst : (sB.toList == tB.toList) = true := bytes_beq.2 hst
      have HSB' : Hid (bs (encV y) = sB) := by show _ = _; rw [hst, HTB.out]
      clear hpre heq hst
      go_wp2_with fail
      rw [← HSB'.out]
      refine (wOpen (encV y) _).mono ?_; rintro e w7 ⟨rfl, hw7⟩
      rw [HSB'.out]
      have hr7 : Rd w7 w6.heap.size 59 ⟨encV y ++ [], false⟩ := by rw [hw7, List.append_nil]; exact Rd.opened _ _ _
      have hB7 : Below w6.heap.size w6 w7 := by rw [hw7]; exact below_new _ _
      have c7 := c6.trans (hB7.mono c6.size)
      have hu7 : VOk w7 w6.heap.size uL uT y := hu6.below hB7
      replace d5 := keep_below hB7 d5
      replace d6 := keep_below hB7 d6
      replace d7 := keep_below hB7 d7
      replace d8 := keep_below hB7 d8
      replace d9 := keep_below hB7 d9
      clear hw7 hB7 hu6
      have hw6 := c6.size
      go_wp2_with fail
      refine (equal_any w6.heap.size y [] uL uT _ hr7 (by rw [List.append_nil]; omega) w6.heap.size (Nat.le_refl _) hu7 HSY.out ho').mono ?_; rintro e w8 ⟨rfl, hr8, hg8⟩
      go_wp2_with fail
      go_ret
      exact ⟨rfl, c7.trans (Below.of_grown hg8 c7.size hw6)⟩
    · have hbe : ((tB.extract 0 sB.size).toList == sB.toList) = false := by
        rw [Bool.eq_false_iff]; intro h; exact hpre (bytes_beq.1 h)
      clear hpre
      go_wp2_with fail
      go_ret
      exact ⟨rfl, c6⟩

theorem walk (w : World) (v : Value) (x : Val) (vL vT : Value) (u : Value) (y : Val) (uL uT : Value)
    (h : v = .agg #[.int .i64 x.k, .int .i64 x.n, .string (bs x.s), vL, vT] ∧ VOk w w.heap.size vL vT x ∧ okV x)
    (h' : u = .agg #[.int .i64 y.k, .int .i64 y.n, .string (bs y.s), uL, uT] ∧ VOk w w.heap.size uL uT y ∧ okV y) :
    Calls Try.prog 7 #[v, u] w fun e w' => e = .returned (.bool true) ∧ Below w.heap.size w w' := by
  obtain ⟨rfl, hv, ho⟩ := h
  obtain ⟨rfl, hu, ho'⟩ := h'
  rcases hx : fewB [x] with _ | _
  · exact walk_1 w x y vL vT uL uT hv ho hu ho' hx
  · rcases hy : fewB [y] with _ | _
    · exact walk_2 w x y vL vT uL uT hv ho hu ho' hx hy
    · by_cases hk : x.k % 5 = y.k % 5
      · exact walk_4 w x y vL vT uL uT hv ho hu ho' hx hy hk
      · exact walk_3 w x y vL vT uL uT hv ho hu ho' hx hy hk
end wirePrefix
end Go.Proofs.Ytebepofbngdccaa
