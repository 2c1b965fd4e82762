/-
  Package journal: idle, flushFile.
-/
import Derived.Test.YtognomkhkoiabaaJ9
import Derived.Test.YtognomkhkoiabaaDf2
import Derived.Test.YtognomkhkoiabaaDf9
namespace Go.Proofs.Ytognomkhkoiabaa
set_option linter.unusedVariables false
set_option linter.unusedSimpArgs false
open Go.RowKit

theorem idleP {B : Nat → Prop} {w : World} {lb db : Nat} {v : Value} {g : Lg} {s : Dk} (hg : LgAt w lb db v g) (h : DiskAt B w db s) :
    Calls Try.prog 25 #[.pointer (some ⟨lb, 0, none⟩)] w fun e w' => e = .returned (.int .i64 (if s.down = true then 10 else 0)) ∧ w = w' := by
  have hx := hg.bx
  have c0 := hx.cell 0
  have HD := Lib.hid (downP h)
  clear hx h hg
  simp at c0
  rcases hd : s.down
  · rw [hd] at HD
    clear hd
    go_enter Try.func25, Try.ntmps25
    go_wp2_with fail
    refine HD.out.mono ?_; rintro e w2 ⟨rfl, rfl⟩
    go_wp2_with fail
    go_ret
    exact ⟨rfl, rfl⟩
  · rw [hd] at HD
    clear hd
    go_enter Try.func25, Try.ntmps25
    go_wp2_with fail
    refine HD.out.mono ?_; rintro e w2 ⟨rfl, rfl⟩
    go_wp2_with fail
    go_ret
    exact ⟨rfl, rfl⟩

theorem DiskAt.drew1 {B : Nat → Prop} {w : World} {db : Nat} {s : Dk} (h : DiskAt B w db s) : DiskAt B w.drew db s := h.below (Below.refl _ _).drew
theorem Op.drew1 {B : Nat → Prop} {w w' : World} {db : Nat} {s : Dk} (h : Op B w.drew w' db s) : Op B w w' db s := ⟨h.at_, ⟨h.fr.os, h.fr.tape, h.fr.output, h.fr.size, h.fr.block⟩⟩
set_option maxRecDepth 100000 in
theorem flushFileP {B : Nat → Prop} {w : World} {lb db : Nat} {v : Value} {g : Lg} {s : Dk} (hg : LgAt w lb db v g) (h : DiskAt B w db s) :
    Calls Try.prog 26 #[.pointer (some ⟨lb, 0, none⟩)] w fun e w' => e = .returned (.int .i64 (s.flush g.file).1) ∧ Op B w w' db (s.flush g.file).2 := by
  have hx := hg.bx
  have c0 := hx.cell 0
  have c1 := hx.cell 1
  have HF := Lib.hid (flushP h.drew1 g.file)
  simp at c0 c1
  obtain ⟨f, hf⟩ : ∃ f, g.file = f := ⟨_, rfl⟩
  rw [hf] at c1 HF ⊢
  obtain ⟨r, hr⟩ : ∃ r, s.flush f = r := ⟨_, rfl⟩
  rw [hr] at HF ⊢
  obtain ⟨r1, r2⟩ := r
  clear hx h hg hf hr
  go_enter Try.func26, Try.ntmps26
  go_wp2_with fail
  go_region_with (go_at_call 36; refine HF.out.mono ?_; rintro e w2 ⟨rfl, ho⟩; have HO := Lib.hid ho.drew1)
  all_goals
    go_wp2_with fail
    go_ret
    exact ⟨rfl, HO.out⟩
end Go.Proofs.Ytognomkhkoiabaa
