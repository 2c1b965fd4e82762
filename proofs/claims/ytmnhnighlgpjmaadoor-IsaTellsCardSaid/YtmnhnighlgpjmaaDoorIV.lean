/-
  strings.IndexRune of a rune beyond ASCII in the two blanks: none.
-/
import Derived.Test.YtmnhnighlgpjmaaDoorI8
import Derived.Laws.RangeAny
import Derived.Lib.Small
namespace Go.Proofs.YtmnhnighlgpjmaaDoor
set_option linter.unusedVariables false
set_option linter.unusedSimpArgs false
open Go.RowKit

theorem bdN' {B : Nat} {a w : World} (h : Below B a w) (n : Nat) : Below B a (w.drewN n) := ⟨h.os, h.tape, h.output, h.size, h.block⟩
theorem blk_size : (⟨#[32, 9]⟩ : ByteArray).size = 2 := rfl
theorem iter_below (w : World) (s : ByteArray) (p : Nat) : Below w.heap.size w (w.iter s p) := (Below.refl _ _).alloc (Nat.le_refl _) _

set_option maxRecDepth 100000 in
set_option maxHeartbeats 1000000 in
theorem rune65533 (w : World) :
    Calls Tryd.prog 62 #[.string ⟨#[32, 9]⟩, .int .i32 65533] w fun e w' => e = .returned (.int .i64 (-1)) ∧ Below w.heap.size w w' := by
  go_enter Tryd.func62, Tryd.ntmps62
  go_wp2_with fail
  go_loopg [5, 6] 2 (fun g _ _ wx => ∃ i : Nat, i + g = 2 ∧ wx = w.iter ⟨#[32, 9]⟩ i)
  case atStart => exact ⟨0, by omega, rfl⟩
  case round =>
    obtain ⟨i, hig, rfl⟩ := hrel
    cases gk with
    | zero =>
      obtain rfl : i = 2 := by omega
      have hnx := fun ty => run_next_end (P := Tryd.prog) w ⟨#[32, 9]⟩ 2 ty (by decide)
      have HB := Lib.hid (iter_below w ⟨#[32, 9]⟩ 2)
      go_wp2_with fail
      go_ret
      exact ⟨rfl, HB.out⟩
    | succ g =>
      have hc : (i = 0 ∧ g = 1) ∨ (i = 1 ∧ g = 0) := by omega
      rcases hc with ⟨rfl, rfl⟩ | ⟨rfl, rfl⟩
      · have hnx := fun ty => (run_next_ascii (P := Tryd.prog) w ⟨#[32, 9]⟩ 0 ty (by decide) (by decide))
        have hv : ((⟨#[32, 9]⟩ : ByteArray)[0]'(by decide)).toNat = 32 := rfl
        rw [hv] at hnx
        clear hv
        go_wp2_with fail
        go_roundg 1
        case measure => omega
        case rel => exact ⟨1, by omega, rfl⟩
      · have hnx := fun ty => (run_next_ascii (P := Tryd.prog) w ⟨#[32, 9]⟩ 1 ty (by decide) (by decide))
        have hv : ((⟨#[32, 9]⟩ : ByteArray)[1]'(by decide)).toNat = 9 := rfl
        rw [hv] at hnx
        clear hv
        go_wp2_with fail
        go_roundg 0
        case measure => omega
        case rel => exact ⟨2, by omega, rfl⟩

theorem conv_rune (r : Nat) (w : World) : (convert 21 9 (.int .i32 (r : Nat))).run Tryd.prog w = .ok (.string (Utf8.encode (r : Nat))) w := by
  have h1 := run_underlying (P := Tryd.prog) Tryd.underlying21
  have h2 := run_underlying (P := Tryd.prog) Tryd.underlying9
  simp [convert, h1, h2, Conv.intToString]

def Shape (E : ByteArray) : Prop := (∃ b0 b1 : UInt8, E = ⟨#[b0, b1]⟩ ∧ 128 ≤ b1.toNat) ∨ (∃ b0 b1 b2 : UInt8, E = ⟨#[b0, b1, b2]⟩) ∨ (∃ b0 b1 b2 b3 : UInt8, E = ⟨#[b0, b1, b2, b3]⟩)
theorem valid_of (r : Nat) (h3 : Lib.validRune r = true) : Utf8.valid (r : Nat) = true := by
  unfold Lib.validRune at h3
  unfold Utf8.valid
  rw [decide_eq_true_eq] at h3
  rw [Bool.or_eq_true, Bool.and_eq_true, Bool.and_eq_true, decide_eq_true_eq, decide_eq_true_eq, decide_eq_true_eq, decide_eq_true_eq]
  omega
theorem enc_shape (r : Nat) (h1 : 128 ≤ r) (h3 : Lib.validRune r = true) : Shape (Utf8.encode (r : Nat)) := by
  have hv := valid_of r h3
  have e0 : (if Utf8.valid (r : Nat) = true then Int.toNat (r : Nat) else Utf8.runeError) = r := by rw [if_pos hv]; rfl
  unfold Utf8.encode
  rw [e0]
  simp only
  by_cases h2 : r < 2048
  · rw [if_neg (by omega), if_pos h2]
    refine .inl ⟨_, _, rfl, ?_⟩
    have : (UInt8.ofNat (128 + r % 64)).toNat = (128 + r % 64) % 256 := by simp
    omega
  · by_cases h4 : r < 65536
    · rw [if_neg (by omega), if_neg h2, if_pos h4]
      exact .inr (.inl ⟨_, _, _, rfl⟩)
    · rw [if_neg (by omega), if_neg h2, if_neg h4]
      exact .inr (.inr ⟨_, _, _, _, rfl⟩)

set_option maxRecDepth 100000 in
theorem valP (r : Int) (w : World) : Calls Tryd.prog 75 #[.int .i32 r] w fun e w' => e = .returned (.bool (Lib.validRune r)) ∧ w = w' :=
  (Tryd.utf8_ValidRune r w).mono fun _ _ ⟨h1, h2⟩ => ⟨h1, h2.symm⟩

theorem idx_blk1 (w : World) : (Instr.index 9 (.string ⟨#[32, 9]⟩) (.int .i64 1)).run Tryd.prog w = .ok (.int .u8 9) w := by kernel_rfl
theorem slc_blk2 (w : World) : (Instr.slice 9 (.string ⟨#[32, 9]⟩) (some (.int .i64 2)) none none).run Tryd.prog w = .ok (.string ⟨#[]⟩) w := by kernel_rfl
theorem idx_two (a b : UInt8) (w : World) : (Instr.index 9 (.string ⟨#[a, b]⟩) (.int .i64 1)).run Tryd.prog w = .ok (.int .u8 (b.toNat : Nat)) w := by kernel_rfl
set_option maxRecDepth 100000 in
set_option maxHeartbeats 1000000 in
theorem runeHigh (r : Nat) (w : World) (h1 : 128 ≤ r) (h2 : r ≤ 2147483647) (h3 : r ≠ 65533) :
    Calls Tryd.prog 62 #[.string ⟨#[32, 9]⟩, .int .i32 r] w fun e w' => e = .returned (.int .i64 (-1)) ∧ Below w.heap.size w w' := by
  have d1 : decide ((r : Int) < 128) = false := decide_eq_false (by omega)
  have d1' : decide (r < 128) = false := decide_eq_false (by omega)
  have d2 : ((r : Int) == 65533) = false := beq_eq_false_iff_ne.2 (by omega)
  have d0 : decide ((0 : Int) ≤ r) = true := decide_eq_true (by omega)
  have HV := Lib.hid (valP r w)
  cases hv : Lib.validRune r
  · rw [hv] at HV
    clear hv h3
    go_enter Tryd.func62, Tryd.ntmps62
    go_wp2_with fail
    refine HV.out.mono ?_; rintro e w' ⟨rfl, rfl⟩
    go_wp2_with fail
    go_ret
    exact ⟨rfl, Below.refl _ _⟩
  · rw [hv] at HV
    have hs := enc_shape r h1 hv
    have hcv := fun w => conv_rune r w
    obtain ⟨E, hE⟩ : ∃ E, Utf8.encode (r : Nat) = E := ⟨_, rfl⟩
    rw [hE] at hs
    simp only [hE] at hcv
    clear hv hE h3
    rcases hs with ⟨b0, b1, rfl, hb⟩ | hs
    · obtain ⟨E, hE⟩ : ∃ E, (⟨#[b0, b1]⟩ : ByteArray) = E := ⟨_, rfl⟩
      have hsz : E.size = 2 := by rw [← hE]; rfl
      have hl : 1 < E.size := by omega
      have hl1 : E[1] = b1 := by subst hE; rfl
      have hi1 := idx_blk1
      have hsl := slc_blk2
      have hw2 : IntKind.i64.wrap 2 = 2 := IntWalk.i64_in _ (by omega)
      have hi2 := fun w => idx_two b0 b1 w
      simp only [hE] at hcv hi2
      obtain ⟨bn, hbn⟩ : ∃ n : Nat, b1.toNat = n := ⟨_, rfl⟩
      rw [hbn] at hb
      simp only [hbn] at hi2
      have s1 : (E.size : Int) - 1 = 1 := by omega
      have hlI : (1 : Int) < E.size := by omega
      have hq : ((9 : Int) == (bn : Nat)) = false := beq_eq_false_iff_ne.2 (by omega)
      have hq2 : ((9 : Int) != (bn : Nat)) = true := by rw [bne, hq]; rfl
      have hx1 : E[1].toNat = bn := by rw [hl1, hbn]
      clear hbn
      have HS := Lib.hid hsz
      have HIB := Lib.hid (fun (W : World) (c : Int) => (show Calls Tryd.prog 74 #[.string ⟨#[]⟩, .int .u8 c] W fun e w' => e = .returned (.int .i64 (-1)) ∧ w' = W from Tryd.strings_IndexByte ⟨#[]⟩ c W))
      clear hsz hl1 hE hb
      go_enter Tryd.func62, Tryd.ntmps62
      go_wp2_with fail
      refine HV.out.mono ?_; rintro e w' ⟨rfl, rfl⟩
      go_wp2_with fail
      go_step3
      go_wp2_with fail
      go_loopw [9] (fun v wr => v = .int .i64 1 ∧ wr = w) (fun _ _ => 0)
      case atStart => exact ⟨rfl, rfl⟩
      case round =>
        obtain ⟨rfl, rfl⟩ := hrel
        go_wp2_with fail
        go_step3
        go_wp2_with fail
        go_quiet (fail)
        have HBD := Lib.hid (bdN' (Below.refl wr.heap.size wr) nq)
        generalize wr.drewN nq = w1 at HBD ⊢
        go_wp2_with fail
        go_quiet ((go_at_call 74; exact Calls.quiet_of_same (HIB.out _ _)))
        go_wp2_with fail
        change bodyPost Tryd.prog Tryd.f62 (fun e w' => e = .returned (.int .i64 (-1)) ∧ Below wr.heap.size wr w') Exit.ret _ _
        go_ret
        exact ⟨rfl, bdN' HBD.out _⟩
    · have hs3 : 3 ≤ E.size := by
        rcases hs with ⟨_, _, _, rfl⟩ | ⟨_, _, _, _, rfl⟩
        · exact Nat.le_refl 3
        · exact Nat.le_succ 3
      have hs4 : E.size ≤ 4 := by
        rcases hs with ⟨_, _, _, rfl⟩ | ⟨_, _, _, _, rfl⟩
        · exact Nat.le_succ 3
        · exact Nat.le_refl 4
      clear hs
      have s1 : ¬ ((E.size : Int) - 1 < 2) := by omega
      have s2 : decide ((E.size : Int) - 1 < 2) = false := decide_eq_false s1
      go_enter Tryd.func62, Tryd.ntmps62
      go_wp2_with fail
      refine HV.out.mono ?_; rintro e w' ⟨rfl, rfl⟩
      go_wp2_with fail
      go_step3
      go_wp2_with fail
      go_loopw [9] (fun v wr => v = .int .i64 ((E.size : Int) - 1) ∧ wr = w) (fun _ _ => 0)
      case atStart => exact ⟨rfl, rfl⟩
      case round =>
        obtain ⟨rfl, rfl⟩ := hrel
        go_wp2_with fail
        try rw [Exit.noGoto_ret]
        go_ret
        exact ⟨rfl, Below.refl _ _⟩
end Go.Proofs.YtmnhnighlgpjmaaDoor
