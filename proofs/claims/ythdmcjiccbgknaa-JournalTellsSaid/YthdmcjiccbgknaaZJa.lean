/-
  Layer 7: a log and its disk in new memory; the laws' calls.
  Layer 7: the laws' small example.
  Layer 7: the laws' small example, walked.
-/
import Derived.Test.YthdmcjiccbgknaaJ18
import Derived.Test.YthdmcjiccbgknaaJ7
import Derived.Test.YthdmcjiccbgknaaJ5
import Derived.Test.YthdmcjiccbgknaaDp
namespace Go.Proofs.Ythdmcjiccbgknaa
set_option linter.unusedVariables false
set_option linter.unusedSimpArgs false
open Go.RowKit

def LJ (W w : World) (lb db : Nat) (v : Value) (g : Lg) (s : Dk) : Prop := LD (fun k => W.heap.size ≤ k) w lb db v g s ∧ Below W.heap.size W w
theorem LJ.op {W w1 w2 : World} {lb db : Nat} {v v' : Value} {g g' : Lg} {s s' : Dk} (h : LJ W w1 lb db v g s) (o : LOp (fun k => W.heap.size ≤ k) w1 w2 lb db v' g' s') : LJ W w2 lb db v' g' s' :=
  ⟨o.at_.mono fun k _ hx => hx.elim id fun hx => Nat.le_trans h.2.size hx.1, h.2.trans (o.fr.to_below h.2.size fun k hk hb => by omega)⟩
theorem LJ.below {W w1 w2 : World} {lb db : Nat} {v : Value} {g : Lg} {s : Dk} (h : LJ W w1 lb db v g s) (b : Below w1.heap.size w1 w2) : LJ W w2 lb db v g s := ⟨h.1.below b, h.2.trans (b.mono h.2.size)⟩
theorem LD.dsk {B : Nat → Prop} {w : World} {lb db : Nat} {v : Value} {g : Lg} {s : Dk} (h : LD B w lb db v g s) : DiskAt B w db s := by
  obtain ⟨Bd, h1, _, _, _, h5, _⟩ := h
  exact h1.mono h5
theorem LJ.dsk {W w : World} {lb db : Nat} {v : Value} {g : Lg} {s : Dk} (h : LJ W w lb db v g s) : Dsk W w db s := ⟨h.1.dsk, h.2⟩
def JP (W : World) (lb db : Nat) (r : Int × Lg × Dk) (e : Ending) (w2 : World) : Prop := e = .returned (.int .i64 r.1) ∧ ∃ v, LJ W w2 lb db v r.2.1 r.2.2
def JO (W w1 : World) (db : Nat) (f : Int) (l : List ByteArray) (s : Dk) (e : Ending) (w2 : World) : Prop := ∃ lb v, e = .returned (.tuple #[.pointer (some ⟨lb, 0, none⟩), .int .i64 0]) ∧ LJ W w2 lb db v ⟨f, l, l.length⟩ s ∧ Below w1.heap.size w1 w2
theorem jOpen {W w1 : World} {db : Nat} {s : Dk} (h : Dsk W w1 db s) (f : Int) (hf : 0 ≤ f ∧ f ≤ 6) (t : ByteArray) (l : List ByteArray) (hr : s.read f = (t, 0)) (hz : t.size ≤ 100000000) (hp : parseS t = some l) :
    Calls Try.prog 12 #[.pointer (some ⟨db, 0, none⟩), .int .i64 f] w1 (JO W w1 db f l s) := by
  refine (openP h.1 f (by rw [hr]; exact hz)).mono ?_
  rintro e w2 ⟨hb, ho⟩
  rw [if_neg (by omega), hr, if_neg (fun h => h rfl)] at ho
  simp only [hp] at ho
  obtain ⟨lb, v, h1, h2, he, h3⟩ := ho
  have ht := h.1.tight
  have hs := h.2.size
  refine ⟨lb, v, he, ⟨⟨_, ht.below hb, h3, fun hx => by have := hx.2; omega, fun k hk => ⟨fun hx => by have := h2 k hk; have := hx.2; omega, Nat.le_trans hs (h2 k hk)⟩, fun k _ hx => hx.1, Nat.le_trans hs h1⟩, h.2.trans (hb.mono hs)⟩, hb⟩
/-- Open of a file that is malformed. -/
theorem jOpen_bad {W w1 : World} {db : Nat} {s : Dk} (h : Dsk W w1 db s) (f : Int) (hf : 0 ≤ f ∧ f ≤ 6) (t : ByteArray) (hr : s.read f = (t, 0)) (hz : t.size ≤ 100000000) (hp : parseS t = none) :
    Calls Try.prog 12 #[.pointer (some ⟨db, 0, none⟩), .int .i64 f] w1 fun e w2 => e = .returned (.tuple #[.pointer none, .int .i64 2]) ∧ Dsk W w2 db s := by
  refine (openP h.1 f (by rw [hr]; exact hz)).mono ?_
  rintro e w2 ⟨hb, ho⟩
  rw [if_neg (by omega), hr, if_neg (fun h => h rfl)] at ho
  simp only [hp] at ho
  exact ⟨ho, h.below hb⟩
theorem jAppend {W w1 : World} {lb db : Nat} {v : Value} {g : Lg} {s : Dk} (h : LJ W w1 lb db v g s) (row : ByteArray) (hx : ext (g.rows ++ [row]) ≤ 1000000000) (hn : s.pend.length + 8 + row.size ≤ 1000000) :
    Calls Try.prog 25 #[.pointer (some ⟨lb, 0, none⟩), .string row] w1 (JP W lb db (g.append s row)) :=
  (appendP h.1 row hx hn).mono fun e w2 ⟨a, v', b⟩ => ⟨a, v', h.op b⟩
theorem jFlush {W w1 : World} {lb db : Nat} {v : Value} {g : Lg} {s : Dk} (h : LJ W w1 lb db v g s) (hx : ext g.rows ≤ 1000000000) (hp : s.pend.length + 16 ≤ 1000000) (hsu : g.sure ≤ 1000000000) :
    Calls Try.prog 14 #[.pointer (some ⟨lb, 0, none⟩)] w1 (JP W lb db (g.flush s)) :=
  (flushP' h.1 hx hp hsu).mono fun e w2 ⟨a, b⟩ => ⟨a, v, h.op b⟩
/-- Rewrite with rows that lie in old memory, or in memory that is newer than the log's. -/
theorem jRewrite {W w1 w2 : World} {lb db : Nat} {v : Value} {g : Lg} {s : Dk} (h : LJ W w1 lb db v g s) (hb : Below w1.heap.size w1 w2) (u : Value) (l : List ByteArray)
    (hrow : ∀ w', (∀ k, (k < W.heap.size ∨ w1.heap.size ≤ k) → k < w2.heap.size → w'.heap[k]? = w2.heap[k]?) → w2.heap.size ≤ w'.heap.size → Row w' w'.heap.size u (sv l)) (hf : 0 ≤ g.file ∧ g.file ≤ 6) (hx : ext l ≤ 900000) (hp : s.pend.length + ext l ≤ 1000000) :
    Calls Try.prog 16 #[.pointer (some ⟨lb, 0, none⟩), u] w2 (JP W lb db (g.rewrite s l)) := by
  have ht := h.1.tight.below hb
  have h2 := h.below hb
  refine (rewriteP ht u l (fun w' v' s' ho => hrow w' (fun k hk hl => ho.fr.block k hl (fun hx => ?_)) ho.fr.size) hf hx hp).mono ?_
  · have h1 := hx.1.1
    have h2 := hx.1.2
    omega
  · rintro e w3 ⟨a, v', b⟩
    exact ⟨a, v', h2.op (b.mono fun k _ hx => hx.1)⟩
theorem jSure {W w1 : World} {lb db : Nat} {v : Value} {g : Lg} {s : Dk} (h : LJ W w1 lb db v g s) : Calls Try.prog 31 #[.pointer (some ⟨lb, 0, none⟩)] w1 fun e w2 => e = .returned (.int .i64 g.sure) ∧ w1 = w2 := sureP h.1.lg
def JA (W w1 : World) (l : List ByteArray) (e : Ending) (w2 : World) : Prop := ∃ u, e = .returned u ∧ Row w2 w2.heap.size u (sv l) ∧ Below w1.heap.size w1 w2
theorem jAll {W w1 : World} {lb db : Nat} {v : Value} {g : Lg} {s : Dk} (h : LJ W w1 lb db v g s) : Calls Try.prog 30 #[.pointer (some ⟨lb, 0, none⟩)] w1 (JA W w1 g.rows) :=
  (allP h.1.lg).mono fun e w2 ⟨u, he, ho, hb⟩ => ⟨u, he, Row.of_own ho, hb⟩
end Go.Proofs.Ythdmcjiccbgknaa

namespace Go.Proofs.Ythdmcjiccbgknaa
set_option linter.unusedVariables false
set_option linter.unusedSimpArgs false
open Go.RowKit

theorem pair0 {r : Int × Lg × Dk} (h : r.1 = 0) : r = (0, r.2.1, r.2.2) := by obtain ⟨a, b, c⟩ := r; simp at h; subst h; rfl
theorem pairR {r : ByteArray × Int} (h : r.2 = 0) : r = (r.1, 0) := by obtain ⟨a, b⟩ := r; simp at h; subst h; rfl
abbrev ba : ByteArray := { data := #[97] }
abbrev bb : ByteArray := { data := #[98] }
abbrev bc' : ByteArray := { data := #[99] }
structure Sf (g1 g2 g3 g5 : Lg) (s1 s2 s3 s5 : Dk) (t4 t6 : ByteArray) : Prop where
  a1 : (⟨2, [], 0⟩ : Lg).append dk0 ba = (0, g1, s1)
  f1 : ext g1.rows ≤ 1000000000 ∧ s1.pend.length + 16 ≤ 1000000 ∧ g1.sure ≤ 1000000000
  a2 : g1.flush s1 = (0, g2, s2)
  f2 : ext (g2.rows ++ [bb]) ≤ 1000000000 ∧ s2.pend.length + 8 + bb.size ≤ 1000000
  a3 : g2.append s2 bb = (0, g3, s3)
  f3 : g3.sure = 1
  a4 : (s3.crash []).start.read 2 = (t4, 0)
  f4 : t4.size ≤ 100000000 ∧ parseS t4 = some [ba] ∧ (s3.crash []).start.pend.length + ext [bb, bc'] ≤ 1000000
  a5 : (⟨2, [ba], [ba].length⟩ : Lg).rewrite (s3.crash []).start [bb, bc'] = (0, g5, s5)
  a6 : (s5.crash []).start.read 2 = (t6, 0)
  f6 : t6.size ≤ 100000000 ∧ parseS t6 = some [bb, bc']
set_option maxRecDepth 100000 in
theorem sf : ∃ g1 g2 g3 g5 s1 s2 s3 s5 t4 t6, Sf g1 g2 g3 g5 s1 s2 s3 s5 t4 t6 :=
  ⟨_, _, _, _, _, _, _, _, _, _, pair0 (by decide +kernel), by decide +kernel, pair0 (by decide +kernel), by decide +kernel, pair0 (by decide +kernel), by decide +kernel, pairR (by decide +kernel), by decide +kernel, pair0 (by decide +kernel), pairR (by decide +kernel), by decide +kernel⟩
end Go.Proofs.Ythdmcjiccbgknaa

namespace Go.Proofs.Ythdmcjiccbgknaa
set_option linter.unusedVariables false
set_option linter.unusedSimpArgs false
open Go.RowKit

theorem Row.keep {w w' : World} {v : Value} {xs : List Value} (h : Row w w.heap.size v xs) (hb : Below w.heap.size w w') : Row w' w'.heap.size v xs := by
  obtain ⟨A, cap, hv, hA⟩ := h.below hb
  refine ⟨A, cap, hv, fun h0 => ?_⟩
  obtain ⟨b, off, ha, hB, hc⟩ := hA h0
  exact ⟨b, off, ha, Nat.lt_of_lt_of_le hB hb.size, hc⟩
theorem row_blk {w : World} {b cap : Nat} {t : TypeId} {l : List ByteArray} (h : Blk w b t (sv l).toArray) : Row w w.heap.size (.slice (some ⟨b, 0, none⟩) l.length cap) (sv l) := by
  refine ⟨_, cap, by rw [sv_length], fun _ => ⟨b, 0, rfl, h.lt, fun k hk => ?_⟩⟩
  rw [Nat.zero_add, h.cell]
  simp
theorem row1 (w : World) (a : ByteArray) : Row (w.alloc (.cells #[.string a] 9)) (w.alloc (.cells #[.string a] 9)).heap.size (.slice (some ⟨w.heap.size, 0, none⟩) 1 1) (sv [a]) := row_blk (l := [a]) (Blk.new w _ _)
theorem row2 (w : World) (a b : ByteArray) : Row (w.alloc (.cells #[.string a, .string b] 9)) (w.alloc (.cells #[.string a, .string b] 9)).heap.size (.slice (some ⟨w.heap.size, 0, none⟩) 2 2) (sv [a, b]) := row_blk (l := [a, b]) (Blk.new w _ _)
/-- Rewrite with two rows that were just laid. -/
theorem jRewrite2 {W w1 : World} {lb db : Nat} {v : Value} {g : Lg} {s : Dk} (h : LJ W w1 lb db v g s) (a b : ByteArray) (hf : 0 ≤ g.file ∧ g.file ≤ 6) (hx : ext [a, b] ≤ 900000) (hp : s.pend.length + ext [a, b] ≤ 1000000) :
    Calls Try.prog 16 #[.pointer (some ⟨lb, 0, none⟩), .slice (some ⟨w1.heap.size, 0, none⟩) 2 2] (w1.alloc (.cells #[.string a, .string b] 9)) (JP W lb db (g.rewrite s [a, b])) :=
  jRewrite h (below_new _ _) _ [a, b] (fun w' hk hs => row_blk (l := [a, b]) (t := 9) ((hk w1.heap.size (.inr (Nat.le_refl _)) (by simp)).trans (Blk.new w1 _ _))) hf hx hp
set_option maxRecDepth 100000 in
set_option maxHeartbeats 8000000 in
theorem small7 (w : World) : Calls Try.prog 8 #[] w fun e w' => e = .returned (.bool true) ∧ Below w.heap.size w w' := by
  obtain ⟨g1, g2, g3, g5, s1, s2, s3, s5, t4, t6, F⟩ := sf
  have HF := Lib.hid F
  clear F
  have HC := Lib.hid (dNew w)
  go_enter Try.func8, Try.ntmps8
  go_wp2_with fail
  refine HC.out.mono ?_; rintro e w1 ⟨d, rfl, h1⟩
  have HD := Lib.hid h1; clear h1 HC
  have HC := Lib.hid (jOpen HD.out 2 (by decide) (bs []) [] (read_of dk0 2 (by decide) rfl) (by decide) (by decide +kernel))
  go_wp2_with fail
  refine HC.out.mono ?_; rintro e w2 ⟨lb, v, rfl, h2, -⟩
  have HL := Lib.hid h2; clear h2 HC HD
  have HC := Lib.hid (jAppend HL.out ba (by decide) (by decide))
  rw [show (⟨2, [], ([] : List ByteArray).length⟩ : Lg).append dk0 ba = _ from HF.out.a1] at HC
  go_wp2_with fail
  refine HC.out.mono ?_; rintro e w3 ⟨rfl, v3, h3⟩
  have HL1 := Lib.hid h3; clear h3 HC HL
  simp only at HL1
  have HC := Lib.hid (jFlush HL1.out HF.out.f1.1 HF.out.f1.2.1 HF.out.f1.2.2)
  rw [HF.out.a2] at HC
  go_wp2_with fail
  refine HC.out.mono ?_; rintro e w4 ⟨rfl, v4, h4⟩
  have HL2 := Lib.hid h4; clear h4 HC HL1
  simp only at HL2
  have HC := Lib.hid (jAppend HL2.out bb HF.out.f2.1 HF.out.f2.2)
  rw [HF.out.a3] at HC
  go_wp2_with fail
  refine HC.out.mono ?_; rintro e w5 ⟨rfl, v5, h5⟩
  have HL3 := Lib.hid h5; clear h5 HC HL2
  simp only at HL3
  have HC := Lib.hid (jSure HL3.out)
  rw [HF.out.f3] at HC
  go_wp2_with fail
  refine HC.out.mono ?_; rintro e w6 ⟨rfl, rfl⟩
  clear HC
  have HC := Lib.hid (dCrash HL3.out.dsk (.slice none 0 0) [] (irow_nil _ _))
  go_wp2_with fail
  refine HC.out.mono ?_; rintro e w7 ⟨rfl, h7⟩
  have HD := Lib.hid h7; clear h7 HC HL3
  have HC := Lib.hid (dStart HD.out)
  go_wp2_with fail
  refine HC.out.mono ?_; rintro e w8 ⟨rfl, h8⟩
  have HD2 := Lib.hid h8; clear h8 HC HD
  have HC := Lib.hid (jOpen HD2.out 2 (by decide) t4 [ba] HF.out.a4 HF.out.f4.1 HF.out.f4.2.1)
  go_wp2_with fail
  refine HC.out.mono ?_; rintro e w9 ⟨mb, v9, rfl, h9, -⟩
  have HL := Lib.hid h9; clear h9 HC HD2
  have HC := Lib.hid (jAll HL.out)
  go_wp2_with fail
  refine HC.out.mono ?_; rintro e w10 ⟨u, rfl, hu, hb⟩
  have HU := Lib.hid (hu.keep (below_new w10 (.cells #[.string ba] 9)))
  replace HL := Lib.hid (HL.out.below (chainB hb (below_new w10 (.cells #[.string ba] 9))))
  clear hu hb HC
  have HC := Lib.hid (sameP [ba] [ba] u _ _ HU.out (row1 w10 ba) (by decide) (by decide))
  rw [decide_eq_true rfl] at HC
  go_wp2_with fail
  refine HC.out.mono ?_; rintro e w11 ⟨rfl, hb⟩
  replace HL := Lib.hid (HL.out.below hb)
  clear hb HC HU
  have HC := Lib.hid (jRewrite2 HL.out bb bc' (by decide) (by decide) HF.out.f4.2.2)
  rw [HF.out.a5] at HC
  go_wp2_with fail
  refine HC.out.mono ?_; rintro e w12 ⟨rfl, v12, h12⟩
  have HL5 := Lib.hid h12; clear h12 HC HL
  simp only at HL5
  have HC := Lib.hid (dCrash HL5.out.dsk (.slice none 0 0) [] (irow_nil _ _))
  go_wp2_with fail
  refine HC.out.mono ?_; rintro e w13 ⟨rfl, h13⟩
  have HD := Lib.hid h13; clear h13 HC HL5
  have HC := Lib.hid (dStart HD.out)
  go_wp2_with fail
  refine HC.out.mono ?_; rintro e w14 ⟨rfl, h14⟩
  have HD2 := Lib.hid h14; clear h14 HC HD
  have HC := Lib.hid (jOpen HD2.out 2 (by decide) t6 [bb, bc'] HF.out.a6 HF.out.f6.1 HF.out.f6.2)
  go_wp2_with fail
  refine HC.out.mono ?_; rintro e w15 ⟨nb, v15, rfl, h15, -⟩
  have HL := Lib.hid h15; clear h15 HC HD2
  have HC := Lib.hid (jAll HL.out)
  go_wp2_with fail
  refine HC.out.mono ?_; rintro e w16 ⟨u2, rfl, hu, hb⟩
  have HU := Lib.hid (hu.keep (below_new w16 (.cells #[.string bb, .string bc'] 9)))
  replace HL := Lib.hid (HL.out.below (chainB hb (below_new w16 (.cells #[.string bb, .string bc'] 9))))
  clear hu hb HC
  have HC := Lib.hid (sameP [bb, bc'] [bb, bc'] u2 _ _ HU.out (row2 w16 bb bc') (by decide) (by decide))
  rw [decide_eq_true rfl] at HC
  go_wp2_with fail
  refine HC.out.mono ?_; rintro e w17 ⟨rfl, hb⟩
  replace HL := Lib.hid (HL.out.below hb)
  clear hb HC HU
  have HC := Lib.hid (jSure HL.out)
  have HE := Lib.hid HL.out.2
  go_wp2_with fail
  refine HC.out.mono ?_; rintro e w18 ⟨rfl, rfl⟩
  go_wp2_with fail
  go_ret
  exact ⟨rfl, HE.out⟩
end Go.Proofs.Ythdmcjiccbgknaa
