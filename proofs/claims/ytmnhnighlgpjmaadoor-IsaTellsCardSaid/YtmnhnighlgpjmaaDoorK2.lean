/-
  The reference of isa: Digits.
-/
import Derived.Test.YtmnhnighlgpjmaaDoorK0
import Derived.Deep.RegionHeld3
namespace Go.Proofs.YtmnhnighlgpjmaaDoor
set_option linter.unusedVariables false
set_option linter.unusedSimpArgs false
open Go.RowKit

theorem byte1_at (w : World) (g : Nat) (x : Nat) (hx : x < 256) (hc : w.cell? ⟨g, 0, none⟩ = some (.int .u8 x)) :
    (convert 39 9 (.slice (some ⟨g, 0, none⟩) 1 1)).run Tryd.prog w = .ok (.string ⟨#[UInt8.ofNat x]⟩) w := by
  refine run_convert_bytes_back (P := Tryd.prog) _ 39 9 5 ⟨g, 0, none⟩ 1 [UInt8.ofNat x] Tryd.underlying39 Tryd.underlying5 Tryd.underlying9 (fun j hj => ?_)
  have hj1 : j < 1 := hj
  have ea : (⟨g, 0, none⟩ : Addr).add j = ⟨g, j, none⟩ := by unfold Addr.add; split <;> simp_all
  have e0 : j = 0 := by omega
  subst e0
  rw [ea, hc]
  simp [Nat.mod_eq_of_lt, hx]
theorem byte1 (x : Nat) (hx : x < 256) (t : TypeId) (w : World) :
    (convert 39 9 (.slice (some ⟨w.heap.size, 0, none⟩) 1 1)).run Tryd.prog (w.alloc (.cells #[.int .u8 x] t)) = .ok (.string ⟨#[UInt8.ofNat x]⟩) (w.alloc (.cells #[.int .u8 x] t)) :=
  byte1_at _ _ x hx (alloc_cell _ _ _ _)
theorem dec_step {n : Nat} (h : ¬ n < 10) : Lib.decDigits n = Lib.decDigits (n / 10) ++ [UInt8.ofNat (48 + n % 10)] := by
  rw [Lib.decDigits, dif_neg h]
theorem dec_short {n : Nat} (h : n ≤ 9223372036854775807) : (Lib.decDigits n).length ≤ 19 := decDigits_len 18 n (by omega)
def DigPost (l : List UInt8) (w : World) (e : Ending) (w' : World) : Prop := e = .returned (.string (arr l)) ∧ Below w.heap.size w w'
set_option maxRecDepth 100000 in
set_option maxHeartbeats 8000000 in
theorem rDigNat : ∀ (k n : Nat), n < k → n ≤ 9223372036854775807 → ∀ w : World, Calls Tryd.prog 37 #[.int .i64 n] w (DigPost (Lib.decDigits n) w) := by
  intro k
  induction k with
  | zero => intro n h; omega
  | succ k ih =>
    intro n hn hmax w
    have h0 : decide ((n : Int) < 0) = false := decide_eq_false (by omega)
    by_cases h10 : n < 10
    · have hd : decide ((n : Int) < 10) = true := decide_eq_true (by omega)
      have hd' : decide (n < 10) = true := decide_eq_true h10
      obtain ⟨x, hx⟩ : ∃ x, 48 + n = x := ⟨_, rfl⟩
      have hx256 : x < 256 := by omega
      have hxi : (48 : Int) + (n : Int) = x := by omega
      have hxw : IntKind.u8.wrap (x : Int) = x := IntWalk.u8_in _ (by omega)
      have hcv := byte1 x hx256 5
      have HP : Hid (∀ w', Below w.heap.size w w' → DigPost (Lib.decDigits n) w (.returned (.string ⟨#[UInt8.ofNat x]⟩)) w') := Lib.hid (fun w' hb => ⟨by rw [Lib.decDigits_one h10, hx]; rfl, hb⟩)
      have HB := Lib.hid (below_new w (.cells #[.int .u8 x] 5))
      clear hx ih h10
      go_enter Tryd.func37, Tryd.ntmps37
      go_wp2_with fail
      go_ret
      exact HP.out _ HB.out
    · have hd : decide ((n : Int) < 10) = false := decide_eq_false (by omega)
      have hd' : decide (n < 10) = false := decide_eq_false h10
      obtain ⟨q, hq⟩ : ∃ q, n / 10 = q := ⟨_, rfl⟩
      obtain ⟨r, hr⟩ : ∃ r, n % 10 = r := ⟨_, rfl⟩
      have hqi : (n : Int) / 10 = q := by omega
      have hqi' : (n : Int).tdiv 10 = q := by rw [Int.tdiv_eq_ediv_of_nonneg (by omega)]; exact hqi
      have hri : (n : Int) % 10 = r := by omega
      have hri' : (n : Int).tmod 10 = r := by rw [Int.tmod_eq_emod_of_nonneg (by omega)]; exact hri
      obtain ⟨x, hx⟩ : ∃ x, 48 + r = x := ⟨_, rfl⟩
      have hx256 : x < 256 := by omega
      have hxi : (48 : Int) + (r : Int) = x := by omega
      have hxi2 : IntKind.i64.wrap ((48 : Int) + (r : Int)) = x := by rw [hxi]; exact IntWalk.i64_in _ (by omega)
      have hxw : IntKind.u8.wrap (x : Int) = x := IntWalk.u8_in _ (by omega)
      have hxw64 : IntKind.i64.wrap (x : Int) = x := IntWalk.i64_in _ (by omega)
      have hqw : IntKind.i64.wrap (q : Int) = q := IntWalk.i64_in _ (by omega)
      have hcv := byte1 x hx256 5
      have hcvd := fun (w : World) => byte1_at (w.alloc (.cells #[.int .u8 x] 5)).drew w.heap.size x hx256 (alloc_cell w #[.int .u8 x] 5 0)
      have hlen := dec_short (n := q) (by omega)
      have HI := Lib.hid (fun W => ih q (by omega) (by omega) W)
      have HS : Hid (Lib.decDigits n = Lib.decDigits q ++ [UInt8.ofNat x]) := Lib.hid (by rw [dec_step h10, hq, hr, hx])
      obtain ⟨dq, hdq⟩ : ∃ d, Lib.decDigits q = d := ⟨_, rfl⟩
      rw [hdq] at hlen HI HS
      have hadd := fun w => run_string_add_sum (P := Tryd.prog) (w := w) (arr dq) ⟨#[UInt8.ofNat x]⟩ (by rw [arr_size]; show _ + 1 ≤ _; omega)
      have HP : Hid (∀ w', Below w.heap.size w w' → DigPost (Lib.decDigits n) w (.returned (.string (arr dq ++ ⟨#[UInt8.ofNat x]⟩))) w') := Lib.hid (fun w' hb => ⟨by
        rw [HS.out]
        have : arr dq ++ ⟨#[UInt8.ofNat x]⟩ = arr (dq ++ [UInt8.ofNat x]) := by apply W1.ba_ext; simp [arr]
        rw [this], hb⟩)
      obtain ⟨sd, hsd⟩ : ∃ s, arr dq = s := ⟨_, rfl⟩
      have HI2 : Hid (∀ W : World, Calls Tryd.prog 37 #[.int .i64 q] W fun e w' => e = .returned (.string sd) ∧ Below W.heap.size W w') := Lib.hid (fun W => by rw [← hsd]; exact HI.out W)
      rw [hsd] at hadd HP
      have HX := Lib.hid hx256
      clear hq hr hx hdq hsd ih h10 HI HS hlen hx256 hn
      go_enter Tryd.func37, Tryd.ntmps37
      go_wp2_with fail
      go_region_with (go_at_call 37; refine (HI2.out _).mono ?_; rintro e w2 ⟨rfl, hb⟩; have HBx := Lib.hid hb; first | (have hcx := byte1_at w2 w.heap.size x HX.out ((hb.cell (p := ⟨w.heap.size, 0, none⟩) (by simp)).trans (alloc_cell _ _ _ _))) | skip; clear hb)
      all_goals
        go_wp2_with fail
        go_ret
        first
          | exact HP.out _ (((Below.refl _ _).drew.trans HBx.out).alloc HBx.out.size _)
          | exact HP.out _ ((below_new w _).drew.trans (HBx.out.mono (by simp)))
theorem rDigP (n : Int) (w : World) (h1 : -2147483648 ≤ n) (h2 : n ≤ 2147483647) :
    Calls Tryd.prog 37 #[.int .i64 n] w (DigPost (Lib.itoa n) w) := by
  by_cases hneg : n < 0
  · obtain ⟨k, hk⟩ : ∃ k : Nat, -n = k := ⟨n.natAbs, by omega⟩
    have hd : decide (n < 0) = true := decide_eq_true hneg
    have HI := Lib.hid (fun W => rDigNat (k + 1) k (by omega) (by omega) W)
    have hlen := dec_short (n := k) (by omega)
    have HS : Hid (Lib.itoa n = 45 :: Lib.decDigits k) := Lib.hid (by unfold Lib.itoa; rw [if_pos hneg, show n.natAbs = k by omega])
    obtain ⟨dq, hdq⟩ : ∃ d, Lib.decDigits k = d := ⟨_, rfl⟩
    rw [hdq] at hlen HI HS
    have hadd := fun w => run_string_add_sum (P := Tryd.prog) (w := w) ⟨#[45]⟩ (arr dq) (by rw [arr_size]; show 1 + _ ≤ _; omega)
    have HP : Hid (∀ w', Below w.heap.size w w' → DigPost (Lib.itoa n) w (.returned (.string (⟨#[45]⟩ ++ arr dq))) w') := Lib.hid (fun w' hb => ⟨by
      rw [HS.out]
      have : (⟨#[45]⟩ : ByteArray) ++ arr dq = arr (45 :: dq) := by apply W1.ba_ext; simp [arr]
      rw [this], hb⟩)
    obtain ⟨sd, hsd⟩ : ∃ s, arr dq = s := ⟨_, rfl⟩
    have HI2 : Hid (∀ W : World, Calls Tryd.prog 37 #[.int .i64 k] W fun e w' => e = .returned (.string sd) ∧ Below W.heap.size W w') := Lib.hid (fun W => by rw [← hsd]; exact HI.out W)
    rw [hsd] at hadd HP
    clear hdq hsd HI HS hlen
    go_enter Tryd.func37, Tryd.ntmps37
    go_wp2_with fail
    refine (HI2.out _).mono ?_; rintro e w2 ⟨rfl, hb⟩
    have HB := Lib.hid hb
    clear hb
    go_wp2_with fail
    go_ret
    exact HP.out _ HB.out
  · obtain ⟨k, rfl⟩ := Int.eq_ofNat_of_zero_le (a := n) (by omega)
    have : Lib.itoa (k : Int) = Lib.decDigits k := by unfold Lib.itoa; rw [if_neg hneg]; rfl
    rw [this]
    exact rDigNat (k + 1) k (by omega) (by omega) w
end Go.Proofs.YtmnhnighlgpjmaaDoor
