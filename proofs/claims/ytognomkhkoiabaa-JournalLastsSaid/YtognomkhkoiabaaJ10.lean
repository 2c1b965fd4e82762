/-
  Package journal: replace.
-/
import Derived.Test.YtognomkhkoiabaaJ9
namespace Go.Proofs.Ytognomkhkoiabaa
set_option linter.unusedVariables false
set_option linter.unusedSimpArgs false
open Go.RowKit

theorem replaceP {w : World} {lb db : Nat} {f : Int} {v0 s0 e0 u : Value} (l : List ByteArray) (hb : Blk w lb 59 #[.pointer (some ⟨db, 0, none⟩), .int .i64 f, v0, s0, e0]) (hu : w.ownsRow 0 9 1 u l.length (sv l)) (hne : u.ownBlock ≠ some lb) (hl : ext l ≤ 1000000000000) :
    Calls Try.prog 22 #[.pointer (some ⟨lb, 0, none⟩), u] w fun e w' => e = .returned (.tuple #[]) ∧ LgAt w' lb db u ⟨f, l, l.length⟩ ∧ Fr (fun k => k = lb) w w' ∧ w'.heap.size = w.heap.size := by
  have hr := Row.of_own hu
  obtain ⟨A, cap, rfl, _⟩ : ∃ A cap, u = .slice A l.length cap ∧ True := by
    obtain ⟨A, cap, e, _⟩ := hr
    rw [sv_length] at e
    exact ⟨A, cap, e, trivial⟩
  have HC := Lib.hid (extentP _ l w _ hr hl)
  have c2 := hb.cell 2
  have c3 := hb.cell 3
  have c4 := hb.cell 4
  have f2 : w.frozen? ⟨lb, 2, none⟩ = false := Lib.frozen_of_heap hb 2
  have f3 : w.frozen? ⟨lb, 3, none⟩ = false := Lib.frozen_of_heap hb 3
  have f4 : w.frozen? ⟨lb, 4, none⟩ = false := Lib.frozen_of_heap hb 4
  simp at c2 c3 c4
  have hll : l.length ≤ 1000000000000 := Nat.le_trans (ext_len _) hl
  have b1 := blk_set (i := 2) hb (.slice A l.length cap)
  have b2 := blk_set (i := 3) b1 (.int .i64 l.length)
  have b3 := blk_set (i := 4) b2 (.int .i64 (ext l))
  have fr : Fr (fun k => k = lb) w (((w.setCell ⟨lb, 2, none⟩ (.slice A l.length cap)).setCell ⟨lb, 3, none⟩ (.int .i64 l.length)).setCell ⟨lb, 4, none⟩ (.int .i64 (ext l))) :=
    ((fr_set (B := fun k => k = lb) (show lb = lb from rfl)).trans (fr_set (B := fun k => k = lb) (show lb = lb from rfl)) (fun _ _ h => h)).trans (fr_set (B := fun k => k = lb) (show lb = lb from rfl)) (fun _ _ h => h)
  have hown : (((w.setCell ⟨lb, 2, none⟩ (.slice A l.length cap)).setCell ⟨lb, 3, none⟩ (.int .i64 l.length)).setCell ⟨lb, 4, none⟩ (.int .i64 (ext l))).ownsRow 0 9 1 (.slice A l.length cap) l.length (sv l) := by
    refine World.ownsRow.kept hu (row := some lb) ⟨fr.os, fr.tape, fr.output, fr.size, fun k hk hn => fr.block k hk (fun e => hn (by rw [e]))⟩ (.inr hne)
  have HR : Hid (LgAt (((w.setCell ⟨lb, 2, none⟩ (.slice A l.length cap)).setCell ⟨lb, 3, none⟩ (.int .i64 l.length)).setCell ⟨lb, 4, none⟩ (.int .i64 (ext l))) lb db (.slice A l.length cap) ⟨f, l, l.length⟩ ∧ Fr (fun k => k = lb) w (((w.setCell ⟨lb, 2, none⟩ (.slice A l.length cap)).setCell ⟨lb, 3, none⟩ (.int .i64 l.length)).setCell ⟨lb, 4, none⟩ (.int .i64 (ext l))) ∧ (((w.setCell ⟨lb, 2, none⟩ (.slice A l.length cap)).setCell ⟨lb, 3, none⟩ (.int .i64 l.length)).setCell ⟨lb, 4, none⟩ (.int .i64 (ext l))).heap.size = w.heap.size) :=
    Lib.hid ⟨⟨b3, hown, hne, hl⟩, fr, by simp [World.setCell]⟩
  obtain ⟨n, hn⟩ : ∃ n, l.length = n := ⟨_, rfl⟩
  obtain ⟨x, hx⟩ : ∃ x, ext l = x := ⟨_, rfl⟩
  rw [hn, hx] at HR
  rw [hn] at HC ⊢
  rw [hx] at HC
  clear b1 b2 b3 fr hown hu hne hr hb hx hl hll hn
  go_enter Try.func22, Try.ntmps22
  go_wp2_with fail
  refine HC.out.mono ?_; rintro e w2 ⟨rfl, rfl⟩
  go_wp2_with fail
  go_end0
  exact ⟨rfl, HR.out⟩
end Go.Proofs.Ytognomkhkoiabaa
