/-
  The reference of isa: Encode; Digits.
-/
import Derived.Test.YtmnhnighlgpjmaaDoorK0
import Derived.Test.YtmnhnighlgpjmaaDoorIM
import Derived.Deep.RegionHeld3
namespace Go.Proofs.YtmnhnighlgpjmaaDoor
set_option linter.unusedVariables false
set_option linter.unusedSimpArgs false
open Go.RowKit

theorem rEncNoP (o a b c m : Int) (w : World) (h : rightB ⟨o, a, b, c, m⟩ = false) :
    Calls Tryd.prog 6 #[.agg #[.int .i64 o, .int .i64 a, .int .i64 b, .int .i64 c, .int .i64 m]] w fun e w' => e = .returned (.tuple #[.string ⟨#[]⟩, .bool false]) ∧ Below w.heap.size w w' := by
  have HB0 := Lib.hid (below_new w (.cells #[.int .i64 o, .int .i64 a, .int .i64 b, .int .i64 c, .int .i64 m] 23))
  have HR := Lib.hid (rRightP o a b c m (w.alloc (.cells #[.int .i64 o, .int .i64 a, .int .i64 b, .int .i64 c, .int .i64 m] 23)))
  rw [h] at HR
  clear h
  go_enter Tryd.func6, Tryd.ntmps6
  go_wp2_with fail
  refine HR.out.mono ?_; rintro e w2 ⟨rfl, hb⟩
  have HB := Lib.hid hb; clear hb
  go_wp2_with fail
  go_ret2
  exact ⟨rfl, HB0.out.trans (HB.out.mono (by simp))⟩

theorem bytes8g (w : World) (x0 x1 x2 x3 x4 x5 x6 x7 : Nat) (h0 : x0 < 256) (h1 : x1 < 256) (h2 : x2 < 256) (h3 : x3 < 256) (h4 : x4 < 256) (h5 : x5 < 256) (h6 : x6 < 256) (h7 : x7 < 256) (t : TypeId) :
    (convert 39 9 (.slice (some ⟨w.heap.size, 0, none⟩) 8 8)).run Tryd.prog (w.alloc (.cells #[.int .u8 x0, .int .u8 x1, .int .u8 x2, .int .u8 x3, .int .u8 x4, .int .u8 x5, .int .u8 x6, .int .u8 x7] t))
      = .ok (.string ⟨#[UInt8.ofNat x0, UInt8.ofNat x1, UInt8.ofNat x2, UInt8.ofNat x3, UInt8.ofNat x4, UInt8.ofNat x5, UInt8.ofNat x6, UInt8.ofNat x7]⟩) (w.alloc (.cells #[.int .u8 x0, .int .u8 x1, .int .u8 x2, .int .u8 x3, .int .u8 x4, .int .u8 x5, .int .u8 x6, .int .u8 x7] t)) := by
  refine run_convert_bytes_back (P := Tryd.prog) _ 39 9 5 ⟨w.heap.size, 0, none⟩ 8 [UInt8.ofNat x0, UInt8.ofNat x1, UInt8.ofNat x2, UInt8.ofNat x3, UInt8.ofNat x4, UInt8.ofNat x5, UInt8.ofNat x6, UInt8.ofNat x7] Tryd.underlying39 Tryd.underlying5 Tryd.underlying9 (fun j hj => ?_)
  have hj8 : j < 8 := hj
  have ea : (⟨w.heap.size, 0, none⟩ : Addr).add j = ⟨w.heap.size, j, none⟩ := by unfold Addr.add; split <;> simp_all
  rw [ea, alloc_cell]
  have : j = 0 ∨ j = 1 ∨ j = 2 ∨ j = 3 ∨ j = 4 ∨ j = 5 ∨ j = 6 ∨ j = 7 := by omega
  rcases this with rfl | rfl | rfl | rfl | rfl | rfl | rfl | rfl <;> simp [Nat.mod_eq_of_lt, *]
theorem enc_imm4 {m : Int} {N : Nat} (hm : -2147483648 ≤ m ∧ m ≤ 2147483647) (hN : (N : Int) = if m < 0 then m + 4294967296 else m) :
    W1.bytesOf m 4 = [UInt8.ofNat (N % 256), UInt8.ofNat (N / 256 % 256), UInt8.ofNat (N / 65536 % 256), UInt8.ofNat (N / 16777216)] := by
  have h4 : W1.bytesOf m 4 = [W1.byteOf m 0, W1.byteOf m 1, W1.byteOf m 2, W1.byteOf m 3] := rfl
  rw [h4]
  unfold W1.byteOf
  have e0 : (m / 2 ^ (8 * 0) % 256).toNat = N % 256 := by
    simp only [Nat.mul_zero, Int.pow_zero, Int.ediv_one]
    split at hN <;> omega
  have e1 : (m / 2 ^ (8 * 1) % 256).toNat = N / 256 % 256 := by
    have : (2 : Int) ^ (8 * 1) = 256 := by decide
    rw [this]
    split at hN <;> omega
  have e2 : (m / 2 ^ (8 * 2) % 256).toNat = N / 65536 % 256 := by
    have : (2 : Int) ^ (8 * 2) = 65536 := by decide
    rw [this]
    split at hN <;> omega
  have e3 : (m / 2 ^ (8 * 3) % 256).toNat = N / 16777216 := by
    have : (2 : Int) ^ (8 * 3) = 16777216 := by decide
    rw [this]
    split at hN <;> omega
  rw [e0, e1, e2, e3]

set_option maxRecDepth 100000 in
set_option maxHeartbeats 4000000 in
theorem rEncYesP (o a b c : Nat) (m : Int) (w : World) (h : rightB ⟨o, a, b, c, m⟩ = true) (ho : o < 256) (ha : a < 256) (hb : b < 256) (hc : c < 256) :
    Calls Tryd.prog 6 #[.agg #[.int .i64 o, .int .i64 a, .int .i64 b, .int .i64 c, .int .i64 m]] w fun e w' => e = .returned (.tuple #[.string (encS ⟨o, a, b, c, m⟩), .bool true]) ∧ Below w.heap.size w w' := by
  have HB0 := Lib.hid (below_new w (.cells #[.int .i64 o, .int .i64 a, .int .i64 b, .int .i64 c, .int .i64 m] 23))
  have HR := Lib.hid (rRightP o a b c m (w.alloc (.cells #[.int .i64 o, .int .i64 a, .int .i64 b, .int .i64 c, .int .i64 m] 23)))
  rw [h] at HR
  have hm := right_imm h
  simp only at hm
  obtain ⟨N, hN⟩ : ∃ N : Nat, (N : Int) = if m < 0 then m + 4294967296 else m := ⟨(if m < 0 then m + 4294967296 else m).toNat, by split <;> omega⟩
  have hN2 : N < 4294967296 := by split at hN <;> omega
  have HE := Lib.hid (enc_imm4 hm hN)
  obtain ⟨q0, hq0⟩ : ∃ q, N % 256 = q := ⟨_, rfl⟩
  obtain ⟨p1, hp1⟩ : ∃ q, N / 256 = q := ⟨_, rfl⟩
  obtain ⟨q1, hq1⟩ : ∃ q, p1 % 256 = q := ⟨_, rfl⟩
  obtain ⟨p2, hp2⟩ : ∃ q, N / 65536 = q := ⟨_, rfl⟩
  obtain ⟨q2, hq2⟩ : ∃ q, p2 % 256 = q := ⟨_, rfl⟩
  obtain ⟨q3, hq3⟩ : ∃ q, N / 16777216 = q := ⟨_, rfl⟩
  have b0 : q0 < 256 := by omega
  have b1 : q1 < 256 := by omega
  have b2 : q2 < 256 := by omega
  have b3 : q3 < 256 := by omega
  rw [hq0, hp1, hq1, hp2, hq2, hq3] at HE
  have hcv := fun w : World => bytes8g w o a b c q0 q1 q2 q3 ho ha hb hc b0 b1 b2 b3 5
  have r0 : (N : Int) % 256 = q0 := by omega
  have r0' : (N : Int).tmod 256 = q0 := by rw [Int.tmod_eq_emod_of_nonneg (by omega)]; exact r0
  have r1 : (N : Int) / 256 = p1 := by omega
  have r1' : (N : Int).tdiv 256 = p1 := by rw [Int.tdiv_eq_ediv_of_nonneg (by omega)]; exact r1
  have r2 : (p1 : Int) % 256 = q1 := by omega
  have r2' : (p1 : Int).tmod 256 = q1 := by rw [Int.tmod_eq_emod_of_nonneg (by omega)]; exact r2
  have r3 : (N : Int) / 65536 = p2 := by omega
  have r3' : (N : Int).tdiv 65536 = p2 := by rw [Int.tdiv_eq_ediv_of_nonneg (by omega)]; exact r3
  have r4 : (p2 : Int) % 256 = q2 := by omega
  have r4' : (p2 : Int).tmod 256 = q2 := by rw [Int.tmod_eq_emod_of_nonneg (by omega)]; exact r4
  have r5 : (N : Int) / 16777216 = q3 := by omega
  have r5' : (N : Int).tdiv 16777216 = q3 := by rw [Int.tdiv_eq_ediv_of_nonneg (by omega)]; exact r5
  have HS : Hid ((⟨#[UInt8.ofNat o, UInt8.ofNat a, UInt8.ofNat b, UInt8.ofNat c, UInt8.ofNat q0, UInt8.ofNat q1, UInt8.ofNat q2, UInt8.ofNat q3]⟩ : ByteArray) = encS ⟨o, a, b, c, m⟩) := Lib.hid (by
    unfold encS encL
    apply W1.ba_ext
    show _ = [UInt8.ofNat o, UInt8.ofNat a, UInt8.ofNat b, UInt8.ofNat c] ++ W1.bytesOf m 4
    rw [HE.out]
    rfl)
  have HN := Lib.hid hN
  have hm1 := hm.1
  have hm2 := hm.2
  clear h hN hq0 hp1 hq1 hp2 hq2 hq3 hm HE
  have u0 : IntKind.u8.wrap (o : Int) = o := IntWalk.u8_in _ (by omega)
  have u1 : IntKind.u8.wrap (a : Int) = a := IntWalk.u8_in _ (by omega)
  have u2 : IntKind.u8.wrap (b : Int) = b := IntWalk.u8_in _ (by omega)
  have u3 : IntKind.u8.wrap (c : Int) = c := IntWalk.u8_in _ (by omega)
  have u4 : IntKind.u8.wrap (q0 : Int) = q0 := IntWalk.u8_in _ (by omega)
  have u5 : IntKind.u8.wrap (q1 : Int) = q1 := IntWalk.u8_in _ (by omega)
  have u6 : IntKind.u8.wrap (q2 : Int) = q2 := IntWalk.u8_in _ (by omega)
  have u7 : IntKind.u8.wrap (q3 : Int) = q3 := IntWalk.u8_in _ (by omega)
  by_cases hneg : m < 0
  · have hs : m + 4294967296 = (N : Int) := by have := HN.out; rw [if_pos hneg] at this; omega
    go_enter Tryd.func6, Tryd.ntmps6
    go_wp2_with fail
    refine HR.out.mono ?_; rintro e w2 ⟨rfl, hbb⟩
    have c0 : w2.cell? ⟨w.heap.size, 0, none⟩ = some (.int .i64 o) := (hbb.cell (p := ⟨_, _, none⟩) (by simp)).trans (alloc_cell _ _ _ _)
    have c1 : w2.cell? ⟨w.heap.size, 1, none⟩ = some (.int .i64 a) := (hbb.cell (p := ⟨_, _, none⟩) (by simp)).trans (alloc_cell _ _ _ _)
    have c2 : w2.cell? ⟨w.heap.size, 2, none⟩ = some (.int .i64 b) := (hbb.cell (p := ⟨_, _, none⟩) (by simp)).trans (alloc_cell _ _ _ _)
    have c3 : w2.cell? ⟨w.heap.size, 3, none⟩ = some (.int .i64 c) := (hbb.cell (p := ⟨_, _, none⟩) (by simp)).trans (alloc_cell _ _ _ _)
    have c4 : w2.cell? ⟨w.heap.size, 4, none⟩ = some (.int .i64 m) := (hbb.cell (p := ⟨_, _, none⟩) (by simp)).trans (alloc_cell _ _ _ _)
    have HB := Lib.hid (HB0.out.trans (hbb.mono (by simp))); clear hbb
    go_wp2_with fail
    go_ret2
    exact ⟨by rw [← HS.out]; rfl, HB.out.alloc HB.out.size _⟩
  · have hs : m = (N : Int) := by have := HN.out; rw [if_neg hneg] at this; omega
    subst hs
    go_enter Tryd.func6, Tryd.ntmps6
    go_wp2_with fail
    refine HR.out.mono ?_; rintro e w2 ⟨rfl, hbb⟩
    have c0 : w2.cell? ⟨w.heap.size, 0, none⟩ = some (.int .i64 o) := (hbb.cell (p := ⟨_, _, none⟩) (by simp)).trans (alloc_cell _ _ _ _)
    have c1 : w2.cell? ⟨w.heap.size, 1, none⟩ = some (.int .i64 a) := (hbb.cell (p := ⟨_, _, none⟩) (by simp)).trans (alloc_cell _ _ _ _)
    have c2 : w2.cell? ⟨w.heap.size, 2, none⟩ = some (.int .i64 b) := (hbb.cell (p := ⟨_, _, none⟩) (by simp)).trans (alloc_cell _ _ _ _)
    have c3 : w2.cell? ⟨w.heap.size, 3, none⟩ = some (.int .i64 c) := (hbb.cell (p := ⟨_, _, none⟩) (by simp)).trans (alloc_cell _ _ _ _)
    have c4 : w2.cell? ⟨w.heap.size, 4, none⟩ = some (.int .i64 N) := (hbb.cell (p := ⟨_, _, none⟩) (by simp)).trans (alloc_cell _ _ _ _)
    have HB := Lib.hid (HB0.out.trans (hbb.mono (by simp))); clear hbb
    go_wp2_with fail
    go_ret2
    exact ⟨by rw [← HS.out]; rfl, HB.out.alloc HB.out.size _⟩
end Go.Proofs.YtmnhnighlgpjmaaDoor
