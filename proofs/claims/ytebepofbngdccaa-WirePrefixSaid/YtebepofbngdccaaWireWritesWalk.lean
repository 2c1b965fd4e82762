/-
  The walk of the law WireWrites.
-/
import Derived.Test.YtebepofbngdccaaVal
namespace Go.Proofs.Ytebepofbngdccaa
set_option linter.unusedVariables false
set_option linter.unusedSimpArgs false
open Go.RowKit

theorem keep_below {w w' : World} (hb : Below w.heap.size w w') {a : Addr} {v : Value} (h : w.cell? a = some v) : w'.cell? a = some v := (hb.cell (World.block_lt_of_cell? w a h)).trans h
theorem below_drew {w w' : World} (h : Below w.drew.heap.size w.drew w') : Below w.heap.size w w' := ⟨h.os, h.tape, h.output, h.size, h.block⟩

theorem VOk.go {w w' : World} {vL vT : Value} {x : Val} (h : VOk w w.heap.size vL vT x) (hb : Below w.heap.size w w') : VOk w' w'.heap.size vL vT x := (h.below hb).mono hb.size
theorem VOk.drew {w : World} {vL vT : Value} {x : Val} (h : VOk w w.heap.size vL vT x) : VOk w.drew w.drew.heap.size vL vT x := h.go (Below.refl _ _).drew
/-- A new slice of one value. -/
theorem vrow_one {w : World} {vL vT : Value} {x : Val} (hv : VOk w w.heap.size vL vT x) (t : TypeId) :
    VRow (w.alloc (.cells #[.int .i64 x.k, .int .i64 x.n, .string (bs x.s), vL, vT] t)) (w.alloc (.cells #[.int .i64 x.k, .int .i64 x.n, .string (bs x.s), vL, vT] t)).heap.size (.slice (some ⟨w.heap.size, 0, none⟩) 1 1) [x] := by
  refine ⟨_, 1, rfl, fun _ => ⟨_, 0, rfl, by simp, fun k hk => ?_⟩⟩
  have hk0 : k = 0 := by simpa using hk
  subst hk0
  have hb := Blk.new w t #[.int .i64 x.k, .int .i64 x.n, .string (bs x.s), vL, vT]
  have hv' := hv.below (below_new w (.cells #[.int .i64 x.k, .int .i64 x.n, .string (bs x.s), vL, vT] t))
  exact ⟨vL, vT, hv'.mono (by simp), hb.cell 0, hb.cell 1, hb.cell 2, hb.cell 3, hb.cell 4⟩

def encN (n : Int) : List UInt8 := if n < 0 then [] else enc n.toNat
theorem wnum_any (n : Int) (w : World) (h : inI n) : Calls Try.prog 11 #[.int .i64 n] w fun e w' => e = .returned (.string (bs (encN n))) ∧ Below w.heap.size w w' := by
  unfold encN
  by_cases hn : n < 0
  · rw [if_pos hn]; exact wnum_neg n w hn
  · rw [if_neg hn]
    have := wnum n.toNat w (by have := h.2; omega)
    rw [Int.toNat_of_nonneg (by omega)] at this
    exact this
theorem rnum_any (n : Int) (w : World) (h : inI n) : Calls Try.prog 12 #[.int .i64 n] w fun e w' => e = .returned (.string (bs (encN n))) ∧ Below w.heap.size w w' := by
  unfold encN
  by_cases hn : n < 0
  · rw [if_pos hn]; exact rnum_neg n w hn
  · rw [if_neg hn]
    have := rnum n.toNat w (by have := h.2; omega)
    rw [Int.toNat_of_nonneg (by omega)] at this
    exact this

namespace wireWrites
set_option maxRecDepth 100000 in
set_option maxHeartbeats 4000000 in
theorem walk_main (w : World) (x : Val) (vL vT : Value) (hv : VOk w w.heap.size vL vT x) (ho : okV x) :
    Calls Try.prog 3 #[.agg #[.int .i64 x.k, .int .i64 x.n, .string (bs x.s), vL, vT]] w fun e w' => e = .returned (.bool true) ∧ Below w.heap.size w w' := by
  have hb := Blk.new w 25 #[.int .i64 x.k, .int .i64 x.n, .string (bs x.s), vL, vT]
  have hB := below_new w (.cells #[.int .i64 x.k, .int .i64 x.n, .string (bs x.s), vL, vT] 25)
  have hz := size_new w (.cells #[.int .i64 x.k, .int .i64 x.n, .string (bs x.s), vL, vT] 25)
  have HN := Lib.hid ho.n
  have HZ := Lib.hid ho.zs
  go_enter Try.func3, Try.ntmps3
  go_wp2_with fail
  refine (small_any _).mono ?_; rintro e w1 ⟨rfl, hB1⟩
  have b1 := hb.below hB1 (by rw [hz]; omega)
  have c0 := hB.trans (hB1.mono (by rw [hz]; omega))
  have d0 : w1.cell? ⟨w.heap.size, 0, none⟩ = some (.int .i64 x.k) := b1.cell 0
  have d1 : w1.cell? ⟨w.heap.size, 1, none⟩ = some (.int .i64 x.n) := b1.cell 1
  have d2 : w1.cell? ⟨w.heap.size, 2, none⟩ = some (.string (bs x.s)) := b1.cell 2
  have d3 : w1.cell? ⟨w.heap.size, 3, none⟩ = some vL := b1.cell 3
  have d4 : w1.cell? ⟨w.heap.size, 4, none⟩ = some vT := b1.cell 4
  have hlt : w.heap.size < w1.heap.size := b1.lt
  have hv1 := (hv.below c0).mono c0.size
  clear b1 hb hB hz hB1
  go_wp2_with fail
  have hvr := vrow_one hv1 25
  have hBn := below_new w1 (.cells #[.int .i64 x.k, .int .i64 x.n, .string (bs x.s), vL, vT] 25)
  have HVR := Lib.hid hvr; clear hvr
  refine (few_any _ [x] _ HVR.out).mono ?_; rintro e w2 ⟨b, rfl, hfacts, hB2⟩
  have e0 := hBn.trans (hB2.mono (by simp))
  have c2 := c0.trans (e0.mono c0.size)
  have f1 := keep_below e0 d1
  have f2 := keep_below e0 d2
  have f3 := keep_below e0 d3
  have f4 := keep_below e0 d4
  have hv2 := (hv1.below e0).mono e0.size
  clear hBn hB2 d0 d1 d2 d3 d4
  rcases b with _ | _
  · clear hfacts
    go_wp2_with fail
    go_ret
    exact ⟨rfl, c2⟩
  · obtain ⟨_, hsm⟩ := hfacts rfl
    obtain ⟨hs1, hs2, hs3, hs4⟩ := hsm x (by simp)
    have HS4 := Lib.hid hs4; clear hs4 hsm hfacts
    go_wp2_with fail
    go_region_held3 (fun w' => w'.cell? ⟨w.heap.size, 1, none⟩ = some (.int .i64 x.n) ∧ w'.cell? ⟨w.heap.size, 2, none⟩ = some (.string (bs x.s)))
      (first | go_keep | (go_split_ands; exact ⟨keep_below hBf (by assumption), keep_below hBf (by assumption)⟩) | (go_split_ands; exact ⟨keep_below hBe (by assumption), keep_below hBe (by assumption)⟩) | (go_split_ands; exact ⟨keep_below hBd (by assumption), keep_below hBd (by assumption)⟩) | (go_split_ands; exact ⟨keep_below hBc (by assumption), keep_below hBc (by assumption)⟩) | (go_split_ands; exact ⟨keep_below hBb (by assumption), keep_below hBb (by assumption)⟩) | (go_split_ands; exact ⟨keep_below hBa (by assumption), keep_below hBa (by assumption)⟩))
      (first | (go_at_call 11; refine (wnum_any x.n _ HN.out).mono ?_; rintro e wa ⟨rfl, hBa⟩) | (go_at_call 12; refine (rnum_any x.n _ HN.out).mono ?_; rintro e wb ⟨rfl, hBb⟩) | (go_at_call 13; refine (wint x.n _ HN.out.1 HN.out.2).mono ?_; rintro e wc ⟨rfl, hBc⟩) | (go_at_call 14; refine (rint x.n _ HN.out.1 HN.out.2).mono ?_; rintro e wd ⟨rfl, hBd⟩) | (go_at_call 15; refine (wtext x.s _ (by omega)).mono ?_; rintro e we ⟨rfl, hBe⟩) | (go_at_call 16; refine (rtext x.s _ (by omega)).mono ?_; rintro e wf ⟨rfl, hBf⟩))
    have ea := below_drew hBa
    have eb := ea.trans (hBb.mono ea.size)
    have ec := eb.trans (hBc.mono eb.size)
    have ed := ec.trans (hBd.mono ec.size)
    have ee := ed.trans (hBe.mono ed.size)
    have ef := ee.trans (hBf.mono ee.size)
    have c3 := c2.trans (ef.mono c2.size)
    have g3 := keep_below ef f3
    have g4 := keep_below ef f4
    have hv3 := hv2.go ef
    clear ea eb ec ed ee ef hBa hBb hBc hBd hBe hBf f1 f2 f3 f4 hv2 hv1 c2 c0 e0
    go_wp2_with fail
    go_region_held3 (fun w' => w'.cell? ⟨w.heap.size, 3, none⟩ = some vL ∧ w'.cell? ⟨w.heap.size, 4, none⟩ = some vT)
      (first | go_keep | (go_split_ands; exact ⟨keep_below hBj (by assumption), keep_below hBj (by assumption)⟩) | (go_split_ands; exact ⟨keep_below hBi (by assumption), keep_below hBi (by assumption)⟩) | (go_split_ands; exact ⟨keep_below hBh (by assumption), keep_below hBh (by assumption)⟩) | (go_split_ands; exact ⟨keep_below hBg (by assumption), keep_below hBg (by assumption)⟩))
      (first | (go_at_call 17; refine (wnums vL x.zs _ ?_ HZ.out (by omega)).mono ?_; (exact hv3.drew.nums); rintro e wg ⟨rfl, hBg⟩) | (go_at_call 18; refine (rnums vL x.zs _ ?_ HZ.out (by omega)).mono ?_; (exact (hv3.drew.go hBg).nums); rintro e wh ⟨rfl, hBh⟩) | (go_at_call 19; refine (wtexts vT x.ss _ ?_ HS4.out (by omega)).mono ?_; (exact ((hv3.drew.go hBg).go hBh).texts); rintro e wi ⟨rfl, hBi⟩) | (go_at_call 20; refine (rtexts vT x.ss _ ?_ HS4.out (by omega)).mono ?_; (exact (((hv3.drew.go hBg).go hBh).go hBi).texts); rintro e wj ⟨rfl, hBj⟩))
    have ea := below_drew hBg
    have eb := ea.trans (hBh.mono ea.size)
    have ec := eb.trans (hBi.mono eb.size)
    have ed := ec.trans (hBj.mono ec.size)
    go_wp2_with fail
    go_ret
    exact ⟨rfl, c3.trans (ed.mono c3.size)⟩

theorem walk (w : World) (v : Value) (x : Val) (vL vT : Value) (h : v = .agg #[.int .i64 x.k, .int .i64 x.n, .string (bs x.s), vL, vT] ∧ VOk w w.heap.size vL vT x ∧ okV x) :
    Calls Try.prog 3 #[v] w fun e w' => e = .returned (.bool true) ∧ Below w.heap.size w w' := by
  obtain ⟨rfl, hv, ho⟩ := h
  exact walk_main w x vL vT hv ho
end wireWrites
end Go.Proofs.Ytebepofbngdccaa
