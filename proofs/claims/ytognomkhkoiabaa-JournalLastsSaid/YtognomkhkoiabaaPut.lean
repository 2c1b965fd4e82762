/-
  The contract of word.Put: a field that exists and a number that fits give the string with the number's bytes; all else gives nothing. The bytes are written by a closure into a row of the call's own.
-/
import Derived.Test.YtognomkhkoiabaaChecked
import Derived.Test.YtognomkhkoiabaaWord
import Derived.WalkKit
import Derived.WalkLawsBesides
import Derived.WalkSpells
import Derived.LoopTactic
import Derived.Lib.Hide
import Derived.Deep.RegionLaw
import Derived.RegionTactic
import Derived.Deep.QuietTactic
import Derived.BigQuiet
import Derived.ChangeAlike
namespace Go.Proofs.Ytognomkhkoiabaa.W1
set_option linter.unusedVariables false
set_option linter.unusedSimpArgs false
open Go.RowKit

theorem info5 : (Try.prog.info? 5).map (fun i => (i.zero, i.size, i.bytes)) = some (some (.int .u8 0), 1, 1) := by kernel_rfl

theorem put1 (n : Int) (f m : Nat) (B k cap : Nat) (w : World) (k8 : k < 8) (hne : f ≠ B) (hmf : m ≠ f) (hmB' : m ≠ B) (hfB : f < w.heap.size) (hmB : m < w.heap.size) (hBB : B < w.heap.size)
    (hf : w.cell? ⟨f, 0, none⟩ = some (.slice (some ⟨B, 0, none⟩) k cap)) (hfz : w.frozen? ⟨f, 0, none⟩ = false)
    (hm : w.cell? ⟨m, 0, none⟩ = some (.int .i64 n)) (hk : k + 1 ≤ cap)
    (v0 : Value) (hc : w.cell? ⟨B, k, none⟩ = some v0) (hz : w.frozen? ⟨B, k, none⟩ = false) :
    Calls Try.prog 69 #[.int .i64 k, .pointer (some ⟨f, 0, none⟩), .pointer (some ⟨m, 0, none⟩)] w fun e w' => e = .returned (.tuple #[]) ∧
      w' = (((w.setCell ⟨B, k, none⟩ (.int .u8 (n / 2 ^ (8 * k) % 256))).setCell ⟨f, 0, none⟩ (.slice (some ⟨B, 0, none⟩) (k + 1) cap)).alloc (.cells #[.int .u8 (n / 2 ^ (8 * k) % 256)] 5)).drew := by
  have q1 : IntKind.i64.wrap (8 * (k : Int)) = 8 * k := IntWalk.i64_in _ (by omega)
  have q2 : (0 : Int) ≤ 8 * k := by omega
  have q3 : (8 * (k : Int)) ≤ 64 := by omega
  have q4 : (8 * (k : Int)).toNat = 8 * k := by omega
  obtain ⟨i0, hi0, hz0, hz1, hz2⟩ := info_parts info5
  go_enter Try.func69, Try.ntmps69
  go_wp2
  go_region
  go_wp2
  go_end0
  exact ⟨rfl, rfl⟩


theorem mk1 (w : World) : (Instr.makeSlice 82 (.int .i64 0) (.int .i64 1)).run Try.prog w = .ok (.slice (some ⟨w.heap.size, 0, none⟩) 0 1) (w.alloc (.cells #[.int .u8 0] 5)) := by kernel_rfl
theorem mk2 (w : World) : (Instr.makeSlice 82 (.int .i64 0) (.int .i64 2)).run Try.prog w = .ok (.slice (some ⟨w.heap.size, 0, none⟩) 0 2) (w.alloc (.cells #[.int .u8 0, .int .u8 0] 5)) := by kernel_rfl
theorem mk4 (w : World) : (Instr.makeSlice 82 (.int .i64 0) (.int .i64 4)).run Try.prog w = .ok (.slice (some ⟨w.heap.size, 0, none⟩) 0 4) (w.alloc (.cells #[.int .u8 0, .int .u8 0, .int .u8 0, .int .u8 0] 5)) := by kernel_rfl
theorem mk8 (w : World) : (Instr.makeSlice 82 (.int .i64 0) (.int .i64 8)).run Try.prog w = .ok (.slice (some ⟨w.heap.size, 0, none⟩) 0 8) (w.alloc (.cells #[.int .u8 0, .int .u8 0, .int .u8 0, .int .u8 0, .int .u8 0, .int .u8 0, .int .u8 0, .int .u8 0] 5)) := by kernel_rfl

theorem cell_same {w : World} {a : Addr} {u : Value} (v : Value) (h : w.cell? a = some u) : (w.setCell a v).cell? a = some v := World.cell?_setCell_same w a v h
theorem cell_other {w : World} {p a : Addr} (v : Value) (h : p ≠ a) : (w.setCell p v).cell? a = w.cell? a := World.cell?_setCell_other w p a v h
theorem cell_far (w : World) (p a : Addr) (v : Value) (h : p.block ≠ a.block) : (w.setCell p v).cell? a = w.cell? a := cell_other v (fun e => h (congrArg Addr.block e))

/-- The world behind k rounds: w0 is the world of the call, x the number, sz the size. -/
structure PutAt (w0 : World) (x : Int) (sz k : Nat) (w : World) : Prop where
  below : Below w0.heap.size w0 w
  size : w0.heap.size + 1 + 1 < w.heap.size
  field : w.cell? ⟨w0.heap.size + 1 + 1, 0, none⟩ = some (.slice (some ⟨w0.heap.size + 1, 0, none⟩) k sz)
  free : w.frozen? ⟨w0.heap.size + 1 + 1, 0, none⟩ = false
  num : w.cell? ⟨w0.heap.size, 0, none⟩ = some (.int .i64 x)
  cells : ∀ j, j < sz → ∃ v, w.cell? ⟨w0.heap.size + 1, j, none⟩ = some v
  done : ∀ j, j < k → w.cell? ⟨w0.heap.size + 1, j, none⟩ = some (.int .u8 (x / 2 ^ (8 * j) % 256))
  frees : ∀ j, j < sz → w.frozen? ⟨w0.heap.size + 1, j, none⟩ = false

theorem PutAt.start (w0 : World) (x : Int) (sz : Nat) (C : Array Value) (hC : C.size = sz) :
    PutAt w0 x sz 0 (((w0.alloc (.cells #[.int .i64 x] 3)).alloc (.cells C 5)).alloc (.cells #[.slice (some ⟨w0.heap.size + 1, 0, none⟩) 0 sz] 82)) := by
  refine ⟨?_, ?_, ?_, ?_, ?_, ?_, ?_, ?_⟩
  · exact (((Below.refl _ _).alloc (Nat.le_refl _) _).alloc (by simp) _).alloc (by simp; omega) _
  · simp
  · rw [World.cell?_alloc_at _ _ _ _ (by simp)]; rfl
  · rw [World.frozen?_alloc_at _ _ _ _ (by simp)]
  · rw [World.cell?_alloc_past _ _ _ (by simp; omega), World.cell?_alloc_past _ _ _ (by simp), World.cell?_alloc_at _ _ _ _ rfl]; rfl
  · intro j hj
    rw [World.cell?_alloc_past _ _ _ (by simp), World.cell?_alloc_at _ _ _ _ (by simp)]
    exact ⟨_, Array.getElem?_eq_getElem (by omega)⟩
  · intro j hj; omega
  · intro j hj
    rw [World.frozen?_alloc_past _ _ _ (by simp), World.frozen?_alloc_at _ _ _ _ (by simp)]

theorem PutAt.step {w0 : World} {x : Int} {sz k : Nat} {w : World} (h : PutAt w0 x sz k w) (hk : k < sz) (o : Obj) :
    PutAt w0 x sz (k + 1) (((w.setCell ⟨w0.heap.size + 1, k, none⟩ (.int .u8 (x / 2 ^ (8 * k) % 256))).setCell ⟨w0.heap.size + 1 + 1, 0, none⟩ (.slice (some ⟨w0.heap.size + 1, 0, none⟩) (k + 1) sz)).alloc o).drew := by
  have hsz := h.size
  have hb : w0.heap.size + 1 ≠ w0.heap.size + 1 + 1 := by omega
  obtain ⟨v0, hv0⟩ := h.cells k hk
  refine ⟨?_, ?_, ?_, ?_, ?_, ?_, ?_, ?_⟩
  · exact (((h.below.setCell (by simp) _).setCell (by simp; omega) _).alloc (by simp; omega) _).drew
  · simp [World.drew]; omega
  · rw [World.cell?_drew, World.cell?_alloc_past _ _ _ (by simp; omega)]
    exact cell_same (u := .slice (some ⟨w0.heap.size + 1, 0, none⟩) k sz) _ (by rw [cell_far _ _ _ _ (by simp)]; exact h.field)
  · rw [World.frozen?_drew, World.frozen?_alloc_past _ _ _ (by simp; omega), World.frozen?_setCell, World.frozen?_setCell]; exact h.free
  · rw [World.cell?_drew, World.cell?_alloc_past _ _ _ (by simp; omega), cell_far _ _ _ _ (by simp; omega), cell_far _ _ _ _ (by simp)]; exact h.num
  · intro j hj
    rw [World.cell?_drew, World.cell?_alloc_past _ _ _ (by simp; omega), cell_far _ _ _ _ (by simp)]
    by_cases e : j = k
    · subst e; exact ⟨_, cell_same _ hv0⟩
    · rw [cell_other _ (by intro h'; injection h' with _ h2; omega)]; exact h.cells j hj
  · intro j hj
    rw [World.cell?_drew, World.cell?_alloc_past _ _ _ (by simp; omega), cell_far _ _ _ _ (by simp)]
    by_cases e : j = k
    · subst e; exact cell_same _ hv0
    · rw [cell_other _ (by intro h'; injection h' with _ h2; omega)]; exact h.done j (by omega)
  · intro j hj
    rw [World.frozen?_drew, World.frozen?_alloc_past _ _ _ (by simp; omega), World.frozen?_setCell, World.frozen?_setCell]; exact h.frees j hj


theorem PutAt.drewN {w0 : World} {x : Int} {sz k : Nat} {w : World} (h : PutAt w0 x sz k w) (q : Nat) : PutAt w0 x sz k (w.drewN q) :=
  ⟨⟨h.below.os, h.below.tape, h.below.output, h.below.size, h.below.block⟩, h.size, h.field, h.free, h.num, h.cells, h.done, h.frees⟩

theorem PutAt.back {w0 : World} {x : Int} {sz : Nat} {w : World} (h : PutAt w0 x sz sz w) :
    (convert 82 9 (.slice (some ⟨w0.heap.size + 1, 0, none⟩) sz sz)).run Try.prog w = .ok (.string ⟨(bytesOf x sz).toArray⟩) w := by
  have := run_convert_bytes_back (P := Try.prog) w 82 9 5 ⟨w0.heap.size + 1, 0, none⟩ sz (bytesOf x sz) Try.underlying82 Try.underlying5 Try.underlying9 (fun j hj => by
    rw [bytesOf_at, byteOf_val]
    rw [bytesOf_length] at hj
    have := h.done j hj
    have e : (⟨w0.heap.size + 1, 0, none⟩ : Addr).add j = ⟨w0.heap.size + 1, j, none⟩ := by unfold Addr.add; split <;> simp_all
    rw [e]; exact this)
  rwa [bytesOf_length] at this

set_option maxHeartbeats 1000000 in
theorem put_yes1a (s : ByteArray) (p x : Int) (w : World) (hs : s.size ≤ 9223372036854775807) (hf : isField s p 1) (h0 : 0 ≤ p) (h1 : p ≤ s.size - 1) (c1 : fitsB x 8 true = true) :
    Calls Try.prog 62 #[.string s, .int .i64 p, .int .i64 1, .int .i64 x] w fun e w' => e = .returned (.tuple #[.string (putS s p 1 x), .bool true]) ∧ Below w.heap.size w w' := by
  have m1 := mk1
  go_enter Try.func62, Try.ntmps62
  go_wp2_with (first | (go_at_call 60; refine (exists_yes _ _ _ _ hs hf).mono ?_; rintro e w' ⟨rfl, rfl⟩) | (go_at_call 68; refine (fits_any _ _ _ _).mono ?_; rintro e w' ⟨rfl, rfl⟩))
  go_loopw [35] (fun j wr => ∃ k : Nat, k ≤ 1 ∧ j = .int .i64 k ∧ PutAt w x 1 k wr) (fun j _ => 1 - (intOf j).toNat)
  case atStart => exact ⟨0, by omega, rfl, PutAt.start w x 1 _ rfl⟩
  case round =>
    clear m1 c1
    obtain ⟨k, hk, rfl, hP⟩ := hrel
    by_cases hlt : k < 1
    · have hsz := hP.size
      obtain ⟨v0, hv0⟩ := hP.cells k hlt
      go_wp2_with (go_at_call 69; refine (put1 x _ _ _ k _ wr (by omega) (by omega) (by omega) (by omega) (by omega) (by omega) (by omega) hP.field hP.free hP.num hlt v0 hv0 (hP.frees k hlt)).mono ?_; rintro e w' ⟨rfl, rfl⟩)
      go_roundw
      case rel => exact ⟨k + 1, by omega, by go_num, hP.step hlt _⟩
      case measure => simp [intOf]; omega
    · obtain rfl : k = 1 := by omega
      have hb := fun q => (hP.drewN q).back
      have hB := hP.below
      have hfl := hP.field
      clear hP
      have g1 : IntKind.i64.wrap (p + 1) = p + 1 := IntWalk.i64_in _ (by omega)
      have g2 : (0 : Int) ≤ p + 1 := by omega
      have g3 : p + 1 ≤ s.size := by omega
      have g4 : p ≤ s.size := by omega
      have a1 : (s.extract 0 p.toNat).size = p.toNat := by rw [ByteArray.size_extract]; omega
      have a2 : (⟨(bytesOf x 1).toArray⟩ : ByteArray).size = 1 := by simp [ByteArray.size, bytesOf_length]
      have a3 : (s.extract (p + 1).toNat s.size).size = s.size - (p + 1).toNat := by rw [ByteArray.size_extract]; omega
      have e1 := fun w => run_string_add_sum (P := Try.prog) (w := w) (s.extract 0 p.toNat) ⟨(bytesOf x 1).toArray⟩ (by rw [a1, a2]; omega)
      have e2 := fun w => run_string_add_sum (P := Try.prog) (w := w) (s.extract 0 p.toNat ++ ⟨(bytesOf x 1).toArray⟩) (s.extract (p + 1).toNat s.size) (by rw [ByteArray.size_append, a1, a2, a3]; omega)
      clear a1 a2 a3
      go_wp2
      go_quiet (fail)
      go_wp2
      go_ret2
      exact ⟨rfl, below_drewN hB _⟩

set_option maxHeartbeats 1000000 in
theorem put_yes1b (s : ByteArray) (p x : Int) (w : World) (hs : s.size ≤ 9223372036854775807) (hf : isField s p 1) (h0 : 0 ≤ p) (h1 : p ≤ s.size - 1) (c1 : fitsB x 8 true = false) (c2 : fitsB x 8 false = true) :
    Calls Try.prog 62 #[.string s, .int .i64 p, .int .i64 1, .int .i64 x] w fun e w' => e = .returned (.tuple #[.string (putS s p 1 x), .bool true]) ∧ Below w.heap.size w w' := by
  have m1 := mk1
  go_enter Try.func62, Try.ntmps62
  go_wp2_with (first | (go_at_call 60; refine (exists_yes _ _ _ _ hs hf).mono ?_; rintro e w' ⟨rfl, rfl⟩) | (go_at_call 68; refine (fits_any _ _ _ _).mono ?_; rintro e w' ⟨rfl, rfl⟩))
  go_loopw [35] (fun j wr => ∃ k : Nat, k ≤ 1 ∧ j = .int .i64 k ∧ PutAt w x 1 k wr) (fun j _ => 1 - (intOf j).toNat)
  case atStart => exact ⟨0, by omega, rfl, PutAt.start w x 1 _ rfl⟩
  case round =>
    clear m1 c1 c2
    obtain ⟨k, hk, rfl, hP⟩ := hrel
    by_cases hlt : k < 1
    · have hsz := hP.size
      obtain ⟨v0, hv0⟩ := hP.cells k hlt
      go_wp2_with (go_at_call 69; refine (put1 x _ _ _ k _ wr (by omega) (by omega) (by omega) (by omega) (by omega) (by omega) (by omega) hP.field hP.free hP.num hlt v0 hv0 (hP.frees k hlt)).mono ?_; rintro e w' ⟨rfl, rfl⟩)
      go_roundw
      case rel => exact ⟨k + 1, by omega, by go_num, hP.step hlt _⟩
      case measure => simp [intOf]; omega
    · obtain rfl : k = 1 := by omega
      have hb := fun q => (hP.drewN q).back
      have hB := hP.below
      have hfl := hP.field
      clear hP
      have g1 : IntKind.i64.wrap (p + 1) = p + 1 := IntWalk.i64_in _ (by omega)
      have g2 : (0 : Int) ≤ p + 1 := by omega
      have g3 : p + 1 ≤ s.size := by omega
      have g4 : p ≤ s.size := by omega
      have a1 : (s.extract 0 p.toNat).size = p.toNat := by rw [ByteArray.size_extract]; omega
      have a2 : (⟨(bytesOf x 1).toArray⟩ : ByteArray).size = 1 := by simp [ByteArray.size, bytesOf_length]
      have a3 : (s.extract (p + 1).toNat s.size).size = s.size - (p + 1).toNat := by rw [ByteArray.size_extract]; omega
      have e1 := fun w => run_string_add_sum (P := Try.prog) (w := w) (s.extract 0 p.toNat) ⟨(bytesOf x 1).toArray⟩ (by rw [a1, a2]; omega)
      have e2 := fun w => run_string_add_sum (P := Try.prog) (w := w) (s.extract 0 p.toNat ++ ⟨(bytesOf x 1).toArray⟩) (s.extract (p + 1).toNat s.size) (by rw [ByteArray.size_append, a1, a2, a3]; omega)
      clear a1 a2 a3
      go_wp2
      go_quiet (fail)
      go_wp2
      go_ret2
      exact ⟨rfl, below_drewN hB _⟩

set_option maxHeartbeats 1000000 in
theorem put_yes2a (s : ByteArray) (p x : Int) (w : World) (hs : s.size ≤ 9223372036854775807) (hf : isField s p 2) (h0 : 0 ≤ p) (h1 : p ≤ s.size - 2) (c1 : fitsB x 16 true = true) :
    Calls Try.prog 62 #[.string s, .int .i64 p, .int .i64 2, .int .i64 x] w fun e w' => e = .returned (.tuple #[.string (putS s p 2 x), .bool true]) ∧ Below w.heap.size w w' := by
  have m1 := mk2
  go_enter Try.func62, Try.ntmps62
  go_wp2_with (first | (go_at_call 60; refine (exists_yes _ _ _ _ hs hf).mono ?_; rintro e w' ⟨rfl, rfl⟩) | (go_at_call 68; refine (fits_any _ _ _ _).mono ?_; rintro e w' ⟨rfl, rfl⟩))
  go_loopw [35] (fun j wr => ∃ k : Nat, k ≤ 2 ∧ j = .int .i64 k ∧ PutAt w x 2 k wr) (fun j _ => 2 - (intOf j).toNat)
  case atStart => exact ⟨0, by omega, rfl, PutAt.start w x 2 _ rfl⟩
  case round =>
    clear m1 c1
    obtain ⟨k, hk, rfl, hP⟩ := hrel
    by_cases hlt : k < 2
    · have hsz := hP.size
      obtain ⟨v0, hv0⟩ := hP.cells k hlt
      go_wp2_with (go_at_call 69; refine (put1 x _ _ _ k _ wr (by omega) (by omega) (by omega) (by omega) (by omega) (by omega) (by omega) hP.field hP.free hP.num hlt v0 hv0 (hP.frees k hlt)).mono ?_; rintro e w' ⟨rfl, rfl⟩)
      go_roundw
      case rel => exact ⟨k + 1, by omega, by go_num, hP.step hlt _⟩
      case measure => simp [intOf]; omega
    · obtain rfl : k = 2 := by omega
      have hb := fun q => (hP.drewN q).back
      have hB := hP.below
      have hfl := hP.field
      clear hP
      have g1 : IntKind.i64.wrap (p + 2) = p + 2 := IntWalk.i64_in _ (by omega)
      have g2 : (0 : Int) ≤ p + 2 := by omega
      have g3 : p + 2 ≤ s.size := by omega
      have g4 : p ≤ s.size := by omega
      have a1 : (s.extract 0 p.toNat).size = p.toNat := by rw [ByteArray.size_extract]; omega
      have a2 : (⟨(bytesOf x 2).toArray⟩ : ByteArray).size = 2 := by simp [ByteArray.size, bytesOf_length]
      have a3 : (s.extract (p + 2).toNat s.size).size = s.size - (p + 2).toNat := by rw [ByteArray.size_extract]; omega
      have e1 := fun w => run_string_add_sum (P := Try.prog) (w := w) (s.extract 0 p.toNat) ⟨(bytesOf x 2).toArray⟩ (by rw [a1, a2]; omega)
      have e2 := fun w => run_string_add_sum (P := Try.prog) (w := w) (s.extract 0 p.toNat ++ ⟨(bytesOf x 2).toArray⟩) (s.extract (p + 2).toNat s.size) (by rw [ByteArray.size_append, a1, a2, a3]; omega)
      clear a1 a2 a3
      go_wp2
      go_quiet (fail)
      go_wp2
      go_ret2
      exact ⟨rfl, below_drewN hB _⟩

set_option maxHeartbeats 1000000 in
theorem put_yes2b (s : ByteArray) (p x : Int) (w : World) (hs : s.size ≤ 9223372036854775807) (hf : isField s p 2) (h0 : 0 ≤ p) (h1 : p ≤ s.size - 2) (c1 : fitsB x 16 true = false) (c2 : fitsB x 16 false = true) :
    Calls Try.prog 62 #[.string s, .int .i64 p, .int .i64 2, .int .i64 x] w fun e w' => e = .returned (.tuple #[.string (putS s p 2 x), .bool true]) ∧ Below w.heap.size w w' := by
  have m1 := mk2
  go_enter Try.func62, Try.ntmps62
  go_wp2_with (first | (go_at_call 60; refine (exists_yes _ _ _ _ hs hf).mono ?_; rintro e w' ⟨rfl, rfl⟩) | (go_at_call 68; refine (fits_any _ _ _ _).mono ?_; rintro e w' ⟨rfl, rfl⟩))
  go_loopw [35] (fun j wr => ∃ k : Nat, k ≤ 2 ∧ j = .int .i64 k ∧ PutAt w x 2 k wr) (fun j _ => 2 - (intOf j).toNat)
  case atStart => exact ⟨0, by omega, rfl, PutAt.start w x 2 _ rfl⟩
  case round =>
    clear m1 c1 c2
    obtain ⟨k, hk, rfl, hP⟩ := hrel
    by_cases hlt : k < 2
    · have hsz := hP.size
      obtain ⟨v0, hv0⟩ := hP.cells k hlt
      go_wp2_with (go_at_call 69; refine (put1 x _ _ _ k _ wr (by omega) (by omega) (by omega) (by omega) (by omega) (by omega) (by omega) hP.field hP.free hP.num hlt v0 hv0 (hP.frees k hlt)).mono ?_; rintro e w' ⟨rfl, rfl⟩)
      go_roundw
      case rel => exact ⟨k + 1, by omega, by go_num, hP.step hlt _⟩
      case measure => simp [intOf]; omega
    · obtain rfl : k = 2 := by omega
      have hb := fun q => (hP.drewN q).back
      have hB := hP.below
      have hfl := hP.field
      clear hP
      have g1 : IntKind.i64.wrap (p + 2) = p + 2 := IntWalk.i64_in _ (by omega)
      have g2 : (0 : Int) ≤ p + 2 := by omega
      have g3 : p + 2 ≤ s.size := by omega
      have g4 : p ≤ s.size := by omega
      have a1 : (s.extract 0 p.toNat).size = p.toNat := by rw [ByteArray.size_extract]; omega
      have a2 : (⟨(bytesOf x 2).toArray⟩ : ByteArray).size = 2 := by simp [ByteArray.size, bytesOf_length]
      have a3 : (s.extract (p + 2).toNat s.size).size = s.size - (p + 2).toNat := by rw [ByteArray.size_extract]; omega
      have e1 := fun w => run_string_add_sum (P := Try.prog) (w := w) (s.extract 0 p.toNat) ⟨(bytesOf x 2).toArray⟩ (by rw [a1, a2]; omega)
      have e2 := fun w => run_string_add_sum (P := Try.prog) (w := w) (s.extract 0 p.toNat ++ ⟨(bytesOf x 2).toArray⟩) (s.extract (p + 2).toNat s.size) (by rw [ByteArray.size_append, a1, a2, a3]; omega)
      clear a1 a2 a3
      go_wp2
      go_quiet (fail)
      go_wp2
      go_ret2
      exact ⟨rfl, below_drewN hB _⟩

set_option maxHeartbeats 1000000 in
theorem put_yes4a (s : ByteArray) (p x : Int) (w : World) (hs : s.size ≤ 9223372036854775807) (hf : isField s p 4) (h0 : 0 ≤ p) (h1 : p ≤ s.size - 4) (c1 : fitsB x 32 true = true) :
    Calls Try.prog 62 #[.string s, .int .i64 p, .int .i64 4, .int .i64 x] w fun e w' => e = .returned (.tuple #[.string (putS s p 4 x), .bool true]) ∧ Below w.heap.size w w' := by
  have m1 := mk4
  go_enter Try.func62, Try.ntmps62
  go_wp2_with (first | (go_at_call 60; refine (exists_yes _ _ _ _ hs hf).mono ?_; rintro e w' ⟨rfl, rfl⟩) | (go_at_call 68; refine (fits_any _ _ _ _).mono ?_; rintro e w' ⟨rfl, rfl⟩))
  go_loopw [35] (fun j wr => ∃ k : Nat, k ≤ 4 ∧ j = .int .i64 k ∧ PutAt w x 4 k wr) (fun j _ => 4 - (intOf j).toNat)
  case atStart => exact ⟨0, by omega, rfl, PutAt.start w x 4 _ rfl⟩
  case round =>
    clear m1 c1
    obtain ⟨k, hk, rfl, hP⟩ := hrel
    by_cases hlt : k < 4
    · have hsz := hP.size
      obtain ⟨v0, hv0⟩ := hP.cells k hlt
      go_wp2_with (go_at_call 69; refine (put1 x _ _ _ k _ wr (by omega) (by omega) (by omega) (by omega) (by omega) (by omega) (by omega) hP.field hP.free hP.num hlt v0 hv0 (hP.frees k hlt)).mono ?_; rintro e w' ⟨rfl, rfl⟩)
      go_roundw
      case rel => exact ⟨k + 1, by omega, by go_num, hP.step hlt _⟩
      case measure => simp [intOf]; omega
    · obtain rfl : k = 4 := by omega
      have hb := fun q => (hP.drewN q).back
      have hB := hP.below
      have hfl := hP.field
      clear hP
      have g1 : IntKind.i64.wrap (p + 4) = p + 4 := IntWalk.i64_in _ (by omega)
      have g2 : (0 : Int) ≤ p + 4 := by omega
      have g3 : p + 4 ≤ s.size := by omega
      have g4 : p ≤ s.size := by omega
      have a1 : (s.extract 0 p.toNat).size = p.toNat := by rw [ByteArray.size_extract]; omega
      have a2 : (⟨(bytesOf x 4).toArray⟩ : ByteArray).size = 4 := by simp [ByteArray.size, bytesOf_length]
      have a3 : (s.extract (p + 4).toNat s.size).size = s.size - (p + 4).toNat := by rw [ByteArray.size_extract]; omega
      have e1 := fun w => run_string_add_sum (P := Try.prog) (w := w) (s.extract 0 p.toNat) ⟨(bytesOf x 4).toArray⟩ (by rw [a1, a2]; omega)
      have e2 := fun w => run_string_add_sum (P := Try.prog) (w := w) (s.extract 0 p.toNat ++ ⟨(bytesOf x 4).toArray⟩) (s.extract (p + 4).toNat s.size) (by rw [ByteArray.size_append, a1, a2, a3]; omega)
      clear a1 a2 a3
      go_wp2
      go_quiet (fail)
      go_wp2
      go_ret2
      exact ⟨rfl, below_drewN hB _⟩

set_option maxHeartbeats 1000000 in
theorem put_yes4b (s : ByteArray) (p x : Int) (w : World) (hs : s.size ≤ 9223372036854775807) (hf : isField s p 4) (h0 : 0 ≤ p) (h1 : p ≤ s.size - 4) (c1 : fitsB x 32 true = false) (c2 : fitsB x 32 false = true) :
    Calls Try.prog 62 #[.string s, .int .i64 p, .int .i64 4, .int .i64 x] w fun e w' => e = .returned (.tuple #[.string (putS s p 4 x), .bool true]) ∧ Below w.heap.size w w' := by
  have m1 := mk4
  go_enter Try.func62, Try.ntmps62
  go_wp2_with (first | (go_at_call 60; refine (exists_yes _ _ _ _ hs hf).mono ?_; rintro e w' ⟨rfl, rfl⟩) | (go_at_call 68; refine (fits_any _ _ _ _).mono ?_; rintro e w' ⟨rfl, rfl⟩))
  go_loopw [35] (fun j wr => ∃ k : Nat, k ≤ 4 ∧ j = .int .i64 k ∧ PutAt w x 4 k wr) (fun j _ => 4 - (intOf j).toNat)
  case atStart => exact ⟨0, by omega, rfl, PutAt.start w x 4 _ rfl⟩
  case round =>
    clear m1 c1 c2
    obtain ⟨k, hk, rfl, hP⟩ := hrel
    by_cases hlt : k < 4
    · have hsz := hP.size
      obtain ⟨v0, hv0⟩ := hP.cells k hlt
      go_wp2_with (go_at_call 69; refine (put1 x _ _ _ k _ wr (by omega) (by omega) (by omega) (by omega) (by omega) (by omega) (by omega) hP.field hP.free hP.num hlt v0 hv0 (hP.frees k hlt)).mono ?_; rintro e w' ⟨rfl, rfl⟩)
      go_roundw
      case rel => exact ⟨k + 1, by omega, by go_num, hP.step hlt _⟩
      case measure => simp [intOf]; omega
    · obtain rfl : k = 4 := by omega
      have hb := fun q => (hP.drewN q).back
      have hB := hP.below
      have hfl := hP.field
      clear hP
      have g1 : IntKind.i64.wrap (p + 4) = p + 4 := IntWalk.i64_in _ (by omega)
      have g2 : (0 : Int) ≤ p + 4 := by omega
      have g3 : p + 4 ≤ s.size := by omega
      have g4 : p ≤ s.size := by omega
      have a1 : (s.extract 0 p.toNat).size = p.toNat := by rw [ByteArray.size_extract]; omega
      have a2 : (⟨(bytesOf x 4).toArray⟩ : ByteArray).size = 4 := by simp [ByteArray.size, bytesOf_length]
      have a3 : (s.extract (p + 4).toNat s.size).size = s.size - (p + 4).toNat := by rw [ByteArray.size_extract]; omega
      have e1 := fun w => run_string_add_sum (P := Try.prog) (w := w) (s.extract 0 p.toNat) ⟨(bytesOf x 4).toArray⟩ (by rw [a1, a2]; omega)
      have e2 := fun w => run_string_add_sum (P := Try.prog) (w := w) (s.extract 0 p.toNat ++ ⟨(bytesOf x 4).toArray⟩) (s.extract (p + 4).toNat s.size) (by rw [ByteArray.size_append, a1, a2, a3]; omega)
      clear a1 a2 a3
      go_wp2
      go_quiet (fail)
      go_wp2
      go_ret2
      exact ⟨rfl, below_drewN hB _⟩

set_option maxHeartbeats 1000000 in
theorem put_yes8a (s : ByteArray) (p x : Int) (w : World) (hs : s.size ≤ 9223372036854775807) (hf : isField s p 8) (h0 : 0 ≤ p) (h1 : p ≤ s.size - 8) (c1 : fitsB x 64 true = true) :
    Calls Try.prog 62 #[.string s, .int .i64 p, .int .i64 8, .int .i64 x] w fun e w' => e = .returned (.tuple #[.string (putS s p 8 x), .bool true]) ∧ Below w.heap.size w w' := by
  have m1 := mk8
  go_enter Try.func62, Try.ntmps62
  go_wp2_with (first | (go_at_call 60; refine (exists_yes _ _ _ _ hs hf).mono ?_; rintro e w' ⟨rfl, rfl⟩) | (go_at_call 68; refine (fits_any _ _ _ _).mono ?_; rintro e w' ⟨rfl, rfl⟩))
  go_loopw [35] (fun j wr => ∃ k : Nat, k ≤ 8 ∧ j = .int .i64 k ∧ PutAt w x 8 k wr) (fun j _ => 8 - (intOf j).toNat)
  case atStart => exact ⟨0, by omega, rfl, PutAt.start w x 8 _ rfl⟩
  case round =>
    clear m1 c1
    obtain ⟨k, hk, rfl, hP⟩ := hrel
    by_cases hlt : k < 8
    · have hsz := hP.size
      obtain ⟨v0, hv0⟩ := hP.cells k hlt
      go_wp2_with (go_at_call 69; refine (put1 x _ _ _ k _ wr (by omega) (by omega) (by omega) (by omega) (by omega) (by omega) (by omega) hP.field hP.free hP.num hlt v0 hv0 (hP.frees k hlt)).mono ?_; rintro e w' ⟨rfl, rfl⟩)
      go_roundw
      case rel => exact ⟨k + 1, by omega, by go_num, hP.step hlt _⟩
      case measure => simp [intOf]; omega
    · obtain rfl : k = 8 := by omega
      have hb := fun q => (hP.drewN q).back
      have hB := hP.below
      have hfl := hP.field
      clear hP
      have g1 : IntKind.i64.wrap (p + 8) = p + 8 := IntWalk.i64_in _ (by omega)
      have g2 : (0 : Int) ≤ p + 8 := by omega
      have g3 : p + 8 ≤ s.size := by omega
      have g4 : p ≤ s.size := by omega
      have a1 : (s.extract 0 p.toNat).size = p.toNat := by rw [ByteArray.size_extract]; omega
      have a2 : (⟨(bytesOf x 8).toArray⟩ : ByteArray).size = 8 := by simp [ByteArray.size, bytesOf_length]
      have a3 : (s.extract (p + 8).toNat s.size).size = s.size - (p + 8).toNat := by rw [ByteArray.size_extract]; omega
      have e1 := fun w => run_string_add_sum (P := Try.prog) (w := w) (s.extract 0 p.toNat) ⟨(bytesOf x 8).toArray⟩ (by rw [a1, a2]; omega)
      have e2 := fun w => run_string_add_sum (P := Try.prog) (w := w) (s.extract 0 p.toNat ++ ⟨(bytesOf x 8).toArray⟩) (s.extract (p + 8).toNat s.size) (by rw [ByteArray.size_append, a1, a2, a3]; omega)
      clear a1 a2 a3
      go_wp2
      go_quiet (fail)
      go_wp2
      go_ret2
      exact ⟨rfl, below_drewN hB _⟩

set_option maxHeartbeats 1000000 in
theorem put_yes8b (s : ByteArray) (p x : Int) (w : World) (hs : s.size ≤ 9223372036854775807) (hf : isField s p 8) (h0 : 0 ≤ p) (h1 : p ≤ s.size - 8) (c1 : fitsB x 64 true = false) (c2 : fitsB x 64 false = true) :
    Calls Try.prog 62 #[.string s, .int .i64 p, .int .i64 8, .int .i64 x] w fun e w' => e = .returned (.tuple #[.string (putS s p 8 x), .bool true]) ∧ Below w.heap.size w w' := by
  have m1 := mk8
  go_enter Try.func62, Try.ntmps62
  go_wp2_with (first | (go_at_call 60; refine (exists_yes _ _ _ _ hs hf).mono ?_; rintro e w' ⟨rfl, rfl⟩) | (go_at_call 68; refine (fits_any _ _ _ _).mono ?_; rintro e w' ⟨rfl, rfl⟩))
  go_loopw [35] (fun j wr => ∃ k : Nat, k ≤ 8 ∧ j = .int .i64 k ∧ PutAt w x 8 k wr) (fun j _ => 8 - (intOf j).toNat)
  case atStart => exact ⟨0, by omega, rfl, PutAt.start w x 8 _ rfl⟩
  case round =>
    clear m1 c1 c2
    obtain ⟨k, hk, rfl, hP⟩ := hrel
    by_cases hlt : k < 8
    · have hsz := hP.size
      obtain ⟨v0, hv0⟩ := hP.cells k hlt
      go_wp2_with (go_at_call 69; refine (put1 x _ _ _ k _ wr (by omega) (by omega) (by omega) (by omega) (by omega) (by omega) (by omega) hP.field hP.free hP.num hlt v0 hv0 (hP.frees k hlt)).mono ?_; rintro e w' ⟨rfl, rfl⟩)
      go_roundw
      case rel => exact ⟨k + 1, by omega, by go_num, hP.step hlt _⟩
      case measure => simp [intOf]; omega
    · obtain rfl : k = 8 := by omega
      have hb := fun q => (hP.drewN q).back
      have hB := hP.below
      have hfl := hP.field
      clear hP
      have g1 : IntKind.i64.wrap (p + 8) = p + 8 := IntWalk.i64_in _ (by omega)
      have g2 : (0 : Int) ≤ p + 8 := by omega
      have g3 : p + 8 ≤ s.size := by omega
      have g4 : p ≤ s.size := by omega
      have a1 : (s.extract 0 p.toNat).size = p.toNat := by rw [ByteArray.size_extract]; omega
      have a2 : (⟨(bytesOf x 8).toArray⟩ : ByteArray).size = 8 := by simp [ByteArray.size, bytesOf_length]
      have a3 : (s.extract (p + 8).toNat s.size).size = s.size - (p + 8).toNat := by rw [ByteArray.size_extract]; omega
      have e1 := fun w => run_string_add_sum (P := Try.prog) (w := w) (s.extract 0 p.toNat) ⟨(bytesOf x 8).toArray⟩ (by rw [a1, a2]; omega)
      have e2 := fun w => run_string_add_sum (P := Try.prog) (w := w) (s.extract 0 p.toNat ++ ⟨(bytesOf x 8).toArray⟩) (s.extract (p + 8).toNat s.size) (by rw [ByteArray.size_append, a1, a2, a3]; omega)
      clear a1 a2 a3
      go_wp2
      go_quiet (fail)
      go_wp2
      go_ret2
      exact ⟨rfl, below_drewN hB _⟩


theorem put_yes (s : ByteArray) (p n x : Int) (w : World) (hs : s.size ≤ 9223372036854775807) (hf : isField s p n) (hx : (fitsB x (8 * n) true || fitsB x (8 * n) false) = true) :
    Calls Try.prog 62 #[.string s, .int .i64 p, .int .i64 n, .int .i64 x] w fun e w' => e = .returned (.tuple #[.string (putS s p n x), .bool true]) ∧ Below w.heap.size w w' := by
  have hf' := hf
  obtain ⟨hn, h0, h1⟩ := hf'
  have hx' : (fitsB x (8 * n) true = true) ∨ (fitsB x (8 * n) true = false ∧ fitsB x (8 * n) false = true) := by
    cases h : fitsB x (8 * n) true <;> simp [h] at hx ⊢; exact hx
  rcases hn with rfl | rfl | rfl | rfl
  · rcases hx' with c1 | ⟨c1, c2⟩
    · exact put_yes1a s p x w hs hf h0 h1 c1
    · exact put_yes1b s p x w hs hf h0 h1 c1 c2
  · rcases hx' with c1 | ⟨c1, c2⟩
    · exact put_yes2a s p x w hs hf h0 h1 c1
    · exact put_yes2b s p x w hs hf h0 h1 c1 c2
  · rcases hx' with c1 | ⟨c1, c2⟩
    · exact put_yes4a s p x w hs hf h0 h1 c1
    · exact put_yes4b s p x w hs hf h0 h1 c1 c2
  · rcases hx' with c1 | ⟨c1, c2⟩
    · exact put_yes8a s p x w hs hf h0 h1 c1
    · exact put_yes8b s p x w hs hf h0 h1 c1 c2

/-- No field. -/
theorem put_none (s : ByteArray) (p n x : Int) (w : World) (hs : s.size ≤ 9223372036854775807) (hf : ¬ isField s p n) :
    Calls Try.prog 62 #[.string s, .int .i64 p, .int .i64 n, .int .i64 x] w fun e w' => e = .returned (.tuple #[.string ⟨#[]⟩, .bool false]) ∧ Below w.heap.size w w' := by
  go_enter Try.func62, Try.ntmps62
  go_wp2_with (first | (go_at_call 60; refine (exists_no _ _ _ _ hs hf).mono ?_; rintro e w' ⟨rfl, rfl⟩))
  go_ret2
  exact ⟨rfl, (Below.refl _ _).alloc (Nat.le_refl _) _⟩

/-- A number that does not fit. -/
theorem put_wide (s : ByteArray) (p n x : Int) (w : World) (hs : s.size ≤ 9223372036854775807) (hf : isField s p n) (hx : (fitsB x (8 * n) true || fitsB x (8 * n) false) = false) :
    Calls Try.prog 62 #[.string s, .int .i64 p, .int .i64 n, .int .i64 x] w fun e w' => e = .returned (.tuple #[.string ⟨#[]⟩, .bool false]) ∧ Below w.heap.size w w' := by
  have hn := hf.1
  obtain ⟨c1, c2⟩ := Bool.or_eq_false_iff.1 hx
  clear hx
  rcases hn with rfl | rfl | rfl | rfl
  all_goals
    simp only [Int.mul_one, show (8 : Int) * 2 = 16 from rfl, show (8 : Int) * 4 = 32 from rfl, show (8 : Int) * 8 = 64 from rfl] at c1 c2
    go_enter Try.func62, Try.ntmps62
    go_wp2_with (first | (go_at_call 60; refine (exists_yes _ _ _ _ hs hf).mono ?_; rintro e w' ⟨rfl, rfl⟩) | (go_at_call 68; refine (fits_any _ _ _ _).mono ?_; rintro e w' ⟨rfl, rfl⟩))
    go_ret2
    exact ⟨rfl, (Below.refl _ _).alloc (Nat.le_refl _) _⟩
end Go.Proofs.Ytognomkhkoiabaa.W1
