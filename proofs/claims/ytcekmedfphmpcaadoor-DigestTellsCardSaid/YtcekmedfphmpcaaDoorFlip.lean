/-
  Contract of the law's flipped: a string that differs within 32 consecutive bits.
-/
import Derived.Test.YtcekmedfphmpcaaDoorSumRef
import Derived.Test.YtcekmedfphmpcaaDoorCrc
import Derived.BigGuardPart
namespace Go.Proofs.YtcekmedfphmpcaaDoor
set_option linter.unusedVariables false
set_option linter.unusedSimpArgs false
open Go.RowKit

theorem mul_xor (i a b : Nat) : 2 ^ i * (a ^^^ b) = 2 ^ i * a ^^^ 2 ^ i * b := by
  apply Nat.eq_of_testBit_eq
  intro j
  rw [Nat.testBit_xor, Nat.testBit_two_pow_mul, Nat.testBit_two_pow_mul, Nat.testBit_two_pow_mul, Nat.testBit_xor]
  cases decide (j ≥ i) <;> simp
theorem num_set : ∀ (l : List UInt8) (k j : Nat) (hk : k < l.length) (u : UInt8), j < 8 → u.toNat = l[k].toNat ^^^ 2 ^ j → num (l.set k u) = num l ^^^ 2 ^ (8 * k + j)
  | b :: l, 0, j, hk, u, hj, hu => by
    have hb := b.toNat_lt
    have hu2 := u.toNat_lt
    show u.toNat + 2 ^ 8 * num l = (b.toNat + 2 ^ 8 * num l) ^^^ _
    rw [add_xor _ (by omega), add_xor _ (by omega), hu]
    show (b.toNat ^^^ 2 ^ j) ^^^ _ = _
    rw [Nat.mul_zero, Nat.zero_add, Nat.xor_assoc, Nat.xor_assoc, Nat.xor_comm (2 ^ j)]
  | b :: l, k + 1, j, hk, u, hj, hu => by
    have hb := b.toNat_lt
    have ih := num_set l k j (by simpa using hk) u hj (by simpa using hu)
    show b.toNat + 2 ^ 8 * num (l.set k u) = (b.toNat + 2 ^ 8 * num l) ^^^ _
    rw [ih, add_xor _ (by omega), add_xor _ (by omega), mul_xor, Nat.xor_assoc, ← Nat.pow_add]
    congr 3
    omega
theorem pow_add_xor (P i : Nat) (h : P < 2 ^ i) : P ^^^ 2 ^ i < 2 ^ (i + 1) := Nat.xor_lt_two_pow (Nat.lt_trans h (Nat.pow_lt_pow_right (by omega) (by omega))) (Nat.pow_lt_pow_right (by omega) (by omega))

/-- m is l but for bits from bit on, fewer than i of them. -/
structure Flip (l : List UInt8) (bit i : Nat) (m : List UInt8) : Prop where
  len : m.length = l.length
  num : ∃ P, P < 2 ^ i ∧ num m = num l ^^^ 2 ^ bit * P
theorem Flip.start (l : List UInt8) (bit : Nat) : Flip l bit 0 l := ⟨rfl, 0, by simp, by simp⟩
theorem Flip.keep {l m : List UInt8} {bit i : Nat} (h : Flip l bit i m) : Flip l bit (i + 1) m := by
  obtain ⟨hl, P, hP, hn⟩ := h
  exact ⟨hl, P, Nat.lt_trans hP (Nat.pow_lt_pow_right (by omega) (by omega)), hn⟩
theorem Flip.step {l m : List UInt8} {bit i : Nat} (h : Flip l bit i m) (hk : (bit + i) / 8 < m.length) {u : UInt8} (hu : u.toNat = m[(bit + i) / 8].toNat ^^^ 2 ^ ((bit + i) % 8)) : Flip l bit (i + 1) (m.set ((bit + i) / 8) u) := by
  obtain ⟨hl, P, hP, hn⟩ := h
  refine ⟨by rw [List.length_set]; exact hl, P ^^^ 2 ^ i, pow_add_xor P i hP, ?_⟩
  rw [num_set m _ ((bit + i) % 8) hk u (by omega) hu, hn, mul_xor, Nat.xor_assoc, ← Nat.pow_add]
  congr 3
  omega

theorem conv_anyB {w : World} {base : Nat} {v : Value} {l : List UInt8} (h : OwnB w base v l) : (convert 30 9 v).run Tryd.prog w = .ok (.string (bs l)) w := by
  rcases h with ⟨rfl, rfl⟩ | ⟨g, cap, cur, fz, rfl, hb, hg, _, hlc, _, hcs, htake⟩
  · exact conv_nil w
  · refine run_convert_bytes_back (P := Tryd.prog) w 30 9 5 ⟨g, 0, none⟩ cap l Tryd.underlying30 Tryd.underlying5 Tryd.underlying9 (fun j hj => ?_)
    have hadd : (⟨g, 0, none⟩ : Addr).add j = ⟨g, j, none⟩ := by unfold Addr.add; split <;> simp_all
    have : (cl l)[j]? = some (.int .u8 l[j].toNat) := by simp [cl, hj]
    rw [← htake, List.getElem?_take, if_pos hj] at this
    rw [hadd, cell_of_row w g j cur _ fz hg]
    simpa using this

theorem bits_xor_u8_nat (a b : Nat) (ha : a < 256) (hb : b < 256) : bits .xor .u8 (a : Int) (b : Int) = ((a ^^^ b : Nat) : Int) := by
  have hx : a ^^^ b < 2 ^ 8 := Nat.xor_lt_two_pow (by omega) (by omega)
  have h1 : (BitVec.ofInt 8 (a : Int)).toNat = a := by
    rw [BitVec.ofInt_natCast, BitVec.toNat_ofNat]; exact Nat.mod_eq_of_lt (by omega)
  have h2 : (BitVec.ofInt 8 (b : Int)).toNat = b := by
    rw [BitVec.ofInt_natCast, BitVec.toNat_ofNat]; exact Nat.mod_eq_of_lt (by omega)
  show IntKind.u8.wrap ((BitVec.ofInt 8 (a : Int) ^^^ BitVec.ofInt 8 (b : Int)).toNat : Int) = _
  rw [BitVec.toNat_xor, h1, h2]
  simp [IntKind.wrap, IntKind.bits, IntKind.signed]
  omega
theorem two_lt (j : Nat) (h : j < 8) : 2 ^ j < 256 := by
  have : ∀ j, j < 8 → 2 ^ j < 256 := by decide
  exact this j h
theorem shl_one (j : Nat) (h : j < 8) : IntKind.u8.wrap (2 ^ min j 8) = ((2 ^ j : Nat) : Int) := by
  have : ∀ j, j < 8 → IntKind.u8.wrap (2 ^ min j 8) = ((2 ^ j : Nat) : Int) := by decide
  exact this j h

def FlipPost (l : List UInt8) (bit : Nat) (w : World) (e : Ending) (w' : World) : Prop := ∃ m, e = .returned (.string (bs m)) ∧ Flip l bit 32 m ∧ Below w.heap.size w w'

set_option maxRecDepth 100000 in
set_option maxHeartbeats 4000000 in
theorem flippedR (l : List UInt8) (bit : Nat) (pat : Int) (w : World) (hl : l.length ≤ 100000) (hbit : bit < 8 * l.length) :
    Calls Tryd.prog 20 #[.string (bs l), .int .i64 bit, .int .i64 pat] w (FlipPost l bit w) := by
  obtain ⟨v0, w0, hcv, hown0, hB0⟩ := conv_pad w l hl
  obtain ⟨s, hS⟩ : ∃ s, bs l = s := ⟨_, rfl⟩
  rw [hS] at hcv
  rw [hS]
  have HS := Lib.hid hS; clear hS
  obtain ⟨g, cap, rfl, hgb, hgl⟩ := hown0.form (by omega)
  obtain ⟨N, hN⟩ : ∃ N, l.length = N := ⟨_, rfl⟩
  rw [hN] at hcv hown0 hl hbit
  have HN := Lib.hid hN; clear hN
  go_enter Tryd.func20, Tryd.ntmps20
  go_wp2_with fail
  clear hcv
  go_loopw [8] (fun i wr => ∃ (k : Nat) (m : List UInt8), k ≤ 32 ∧ i = .int .i64 k ∧ OwnB wr w.heap.size (.slice (some ⟨g, 0, none⟩) N cap) m ∧ Flip l bit k m ∧ Below w.heap.size w wr) (fun i _ => 32 - (intOf i).toNat)
  case atStart => exact ⟨0, l, by omega, rfl, hown0, Flip.start l bit, hB0⟩
  case round =>
    obtain ⟨k, m, hk, rfl, hown, hfl, hB⟩ := hrel
    have HML : Hid (m.length = N) := by show _ = _; rw [hfl.len, HN.out]
    by_cases hk32 : k < 32
    · have q0 : (0 : Int) ≤ k := by omega
      have q1 : ((k : Int)).toNat = k := by omega
      go_wp2_with fail
      · have hat : (bit : Int) + k < 8 * N := by assumption
        have hjN : (bit + k) / 8 < N := by omega
        have hown' : OwnB wr w.heap.size (.slice (some ⟨g, 0, none⟩) m.length cap) m := by rw [HML.out]; exact hown
        obtain ⟨hcell, hfro⟩ := hown'.cellAt ((bit + k) / 8) (by rw [HML.out]; exact hjN)
        have hjm : (bit + k) / 8 < m.length := by rw [HML.out]; exact hjN
        obtain ⟨b, hb⟩ : ∃ b, m[(bit + k) / 8] = b := ⟨_, rfl⟩
        have hbl := b.toNat_lt
        rw [hb] at hcell
        have hx := bits_xor_u8_nat b.toNat (2 ^ ((bit + k) % 8)) (by omega) (two_lt _ (by omega))
        have hxl : b.toNat ^^^ 2 ^ ((bit + k) % 8) < 256 := Nat.xor_lt_two_pow (n := 8) (by omega) (two_lt _ (by omega))
        have hsh := shl_one ((bit + k) % 8) (by omega)
        have hstep := hfl.step hjm (u := UInt8.ofNat (b.toNat ^^^ 2 ^ ((bit + k) % 8))) (by rw [u8_of hxl, hb])
        have hst := hown'.stored ((bit + k) / 8) hjm (UInt8.ofNat (b.toNat ^^^ 2 ^ ((bit + k) % 8)))
        rw [HML.out, u8_of hxl] at hst
        have HSTEP := Lib.hid hstep; clear hstep
        have HST := Lib.hid hst; clear hst hown' hb
        have HOW := Lib.hid hown; clear hown
        obtain ⟨j, hj⟩ : ∃ j, (bit + k) / 8 = j := ⟨_, rfl⟩
        obtain ⟨sh, hshn⟩ : ∃ j, (bit + k) % 8 = j := ⟨_, rfl⟩
        rw [hj] at HST HSTEP hcell hfro hjN
        rw [hshn] at HST HSTEP hx hsh
        have d1 : ((bit : Int) + k).tdiv 8 = (j : Int) := by rw [Int.tdiv_eq_ediv_of_nonneg (by omega)]; omega
        have d2 : IntKind.i64.wrap (j : Int) = j := IntWalk.i64_in _ (by omega)
        have d3 : (0 : Int) ≤ j := by omega
        have d4 : (j : Int) < N := by omega
        have m1 : ((bit : Int) + k).tmod 8 = (sh : Int) := by rw [Int.tmod_eq_emod_of_nonneg (by omega)]; omega
        have m2 : IntKind.i64.wrap (sh : Int) = sh := IntWalk.i64_in _ (by omega)
        have m3 : (0 : Int) ≤ sh := by omega
        obtain ⟨pw, hpw⟩ : ∃ n, 2 ^ sh = n := ⟨_, rfl⟩
        rw [hpw] at hx hsh HST HSTEP
        obtain ⟨xv, hxv⟩ : ∃ n, b.toNat ^^^ pw = n := ⟨_, rfl⟩
        rw [hxv] at hx HST HSTEP
        clear hj hshn hpw hxv hxl
        go_region
        go_wp2_with fail
        go_roundw
        case rel => exact ⟨k + 1, _, by omega, by go_num, HST.out, HSTEP.out, (hB.setCell hgb _).drew⟩
        case measure => simp [intOf]; omega
      · go_roundw
        case rel => exact ⟨k + 1, m, by omega, by go_num, hown, hfl.keep, hB⟩
        case measure => simp [intOf]; omega
      · go_roundw
        case rel => exact ⟨k + 1, m, by omega, by go_num, hown, hfl.keep, hB⟩
        case measure => simp [intOf]; omega
    · obtain rfl : k = 32 := by omega
      have hcv := conv_anyB hown
      go_wp2_with fail
      go_ret
      exact ⟨m, rfl, hfl, hB⟩
end Go.Proofs.YtcekmedfphmpcaaDoor
