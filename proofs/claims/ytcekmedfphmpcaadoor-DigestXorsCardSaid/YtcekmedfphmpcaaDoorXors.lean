/-
  The walk of DigestXors, from what it asks of the program (Dig).
-/
import Derived.Test.YtcekmedfphmpcaaDoorDigLaws3
namespace Go.Proofs.YtcekmedfphmpcaaDoor
set_option linter.unusedVariables false
set_option linter.unusedSimpArgs false
open Go.RowKit

theorem bits_xor_u8 (a b : UInt8) : bits .xor .u8 (a.toNat : Int) (b.toNat : Int) = ((a ^^^ b).toNat : Nat) := by
  have ha := a.toNat_lt
  have hb := b.toNat_lt
  have hx : a.toNat ^^^ b.toNat < 2 ^ 8 := Nat.xor_lt_two_pow (by omega) (by omega)
  have h1 : (BitVec.ofInt 8 (a.toNat : Int)).toNat = a.toNat := by
    rw [BitVec.ofInt_natCast, BitVec.toNat_ofNat]; exact Nat.mod_eq_of_lt (by omega)
  have h2 : (BitVec.ofInt 8 (b.toNat : Int)).toNat = b.toNat := by
    rw [BitVec.ofInt_natCast, BitVec.toNat_ofNat]; exact Nat.mod_eq_of_lt (by omega)
  show IntKind.u8.wrap ((BitVec.ofInt 8 (a.toNat : Int) ^^^ BitVec.ofInt 8 (b.toNat : Int)).toNat : Int) = _
  rw [BitVec.toNat_xor, h1, h2, UInt8.toNat_xor]
  simp [IntKind.wrap, IntKind.bits, IntKind.signed]
  omega
theorem mul_pow_xor (i a b : Nat) : 2 ^ i * (a ^^^ b) = 2 ^ i * a ^^^ 2 ^ i * b := by
  apply Nat.eq_of_testBit_eq
  intro j
  rw [Nat.testBit_xor, Nat.testBit_two_pow_mul, Nat.testBit_two_pow_mul, Nat.testBit_two_pow_mul, Nat.testBit_xor]
  cases decide (j ≥ i) <;> simp
def xorL (a b : List UInt8) : List UInt8 := List.zipWith (· ^^^ ·) a b
theorem num_xorL : ∀ (a b : List UInt8), a.length = b.length → num (xorL a b) = num a ^^^ num b
  | [], [], _ => rfl
  | [], _ :: _, h => by simp at h
  | _ :: _, [], h => by simp at h
  | x :: a, y :: b, h => by
    have hx := x.toNat_lt
    have hy := y.toNat_lt
    have hxy : x.toNat ^^^ y.toNat < 2 ^ 8 := Nat.xor_lt_two_pow (by omega) (by omega)
    have e : xorL (x :: a) (y :: b) = (x ^^^ y) :: xorL a b := rfl
    have e1 : num (x :: a) = x.toNat ^^^ 2 ^ 8 * num a := add_xor (i := 8) (num a) (by omega)
    have e2 : num (y :: b) = y.toNat ^^^ 2 ^ 8 * num b := add_xor (i := 8) (num b) (by omega)
    have e3 : num ((x ^^^ y) :: xorL a b) = (x ^^^ y).toNat ^^^ 2 ^ 8 * num (xorL a b) := add_xor (i := 8) _ (by rw [UInt8.toNat_xor]; exact hxy)
    rw [e, e3, e1, e2, UInt8.toNat_xor, num_xorL a b (by simpa using h), mul_pow_xor, xor_comm4]
def xor3 (a b c : List UInt8) : List UInt8 := xorL (xorL a b) c
theorem xor3_take_succ (a b c : List UInt8) (k : Nat) (ha : k < a.length) (hb : k < b.length) (hc : k < c.length) :
    xor3 (a.take (k + 1)) (b.take (k + 1)) (c.take (k + 1)) = xor3 (a.take k) (b.take k) (c.take k) ++ [a[k] ^^^ b[k] ^^^ c[k]] := by
  rw [List.take_succ_eq_append_getElem ha, List.take_succ_eq_append_getElem hb, List.take_succ_eq_append_getElem hc]
  have hl : ∀ l : List UInt8, k < l.length → (l.take k).length = k := fun l h => by rw [List.length_take]; omega
  unfold xor3 xorL
  rw [List.zipWith_append (by rw [hl a ha, hl b hb]), List.zipWith_append (by rw [List.length_zipWith, hl a ha, hl b hb, hl c hc]; omega)]
  rfl
theorem xor3_length (a b c : List UInt8) (hb : b.length = a.length) (hc : c.length = a.length) : (xor3 a b c).length = a.length := by
  unfold xor3 xorL; rw [List.length_zipWith, List.length_zipWith]; omega
theorem crc_xor3 (a b c : List UInt8) (hb : b.length = a.length) (hc : c.length = a.length) : crc (xor3 a b c) = crc a ^^^ crc b ^^^ crc c :=
  crc_xors a b c _ hb hc (xor3_length a b c hb hc) (by unfold xor3; rw [num_xorL _ _ (by unfold xorL; rw [List.length_zipWith]; omega), num_xorL _ _ hb.symm])

theorem wpList_min3 {ops : Array Oper} {rest : List Oper} {o : Oper} {a : Act} {w : World} {Q : Exit → Act → World → Prop} (hgd : o.guard = none) (x y z : Operand) (ts : Array TypeId)
    (ho : o.op = .call { callee := .builtin .min, args := #[x, y, z], argTypes := ts }) (X Y Z N : Int) (hx : a.eval x = .int .i64 X) (hy : a.eval y = .int .i64 Y) (hz : a.eval z = .int .i64 Z)
    (hN : (if Z < (if Y < X then Y else X) then Z else (if Y < X then Y else X)) = N)
    (h : wpList Tryd.prog ops Q rest (a.put o.dst (.int .i64 N)) w) : wpList Tryd.prog ops Q (o :: rest) a w := by
  refine wpList_plain hgd fun K hK => ?_
  subst hN
  unfold Oper.wp execOp
  simp only [ho, resolve, invoke, builtin, Sem.run_bind, Sem.run_pure, Result.andThen_ok, List.map_toArray, List.map_cons, List.map_nil, hx, hy, hz, run_min_int3]
  exact hK _ _ h

section
variable {L : World → Prop} (D : Dig L)
include D

set_option maxRecDepth 100000 in
set_option maxHeartbeats 4000000 in
theorem xorsD (a b c : ByteArray) (n : Nat) (w : World) (hL : L w) (hn : (if (c.size : Int) < (if (b.size : Int) < (a.size : Int) then (b.size : Int) else (a.size : Int)) then (c.size : Int) else (if (b.size : Int) < (a.size : Int) then (b.size : Int) else (a.size : Int))) = (n : Int))
    (ha : n ≤ a.size) (hb : n ≤ b.size) (hc : n ≤ c.size) (hn2 : n ≤ 2000) :
    Calls Tryd.prog 7 #[.string a, .string b, .string c] w fun e w' => e = .returned (.bool true) ∧ Below w.heap.size w w' := by
  have HSm := Lib.hid (fun w (hL : L w) => smallD D w hL)
  obtain ⟨i0, hi0, hz0, hz1, hz2⟩ := info_parts info5
  obtain ⟨la, hla⟩ : ∃ l, a.data.toList = l := ⟨_, rfl⟩
  obtain ⟨lb, hlb⟩ : ∃ l, b.data.toList = l := ⟨_, rfl⟩
  obtain ⟨lc, hlc⟩ : ∃ l, c.data.toList = l := ⟨_, rfl⟩
  have ea : bs la = a := by rw [← hla, bs_data]
  have eb : bs lb = b := by rw [← hlb, bs_data]
  have ec : bs lc = c := by rw [← hlc, bs_data]
  have sa : a.size = la.length := by rw [← ea, bs_size]
  have sb : b.size = lb.length := by rw [← eb, bs_size]
  have sc : c.size = lc.length := by rw [← ec, bs_size]
  have HGA : Hid (∀ k (h : k < a.size) (h' : k < la.length), a[k] = la[k]) := by subst ea; exact fun k h _ => bs_get la k h
  have HGB : Hid (∀ k (h : k < b.size) (h' : k < lb.length), b[k] = lb[k]) := by subst eb; exact fun k h _ => bs_get lb k h
  have HGC : Hid (∀ k (h : k < c.size) (h' : k < lc.length), c[k] = lc[k]) := by subst ec; exact fun k h _ => bs_get lc k h
  have HCA := Lib.hid (fun w => D.crc0 (la.take n) w (by rw [List.length_take]; omega))
  have HCB := Lib.hid (fun w => D.crc0 (lb.take n) w (by rw [List.length_take]; omega))
  have HCC := Lib.hid (fun w => D.crc0 (lc.take n) w (by rw [List.length_take]; omega))
  have HCX := Lib.hid (fun w => D.crc0 (xor3 (la.take n) (lb.take n) (lc.take n)) w (by rw [xor3_length _ _ _ (by rw [List.length_take, List.length_take]; omega) (by rw [List.length_take, List.length_take]; omega), List.length_take]; omega))
  have hx3 := crc_xor3 (la.take n) (lb.take n) (lc.take n) (by rw [List.length_take, List.length_take]; omega) (by rw [List.length_take, List.length_take]; omega)
  rw [← bs_take, ea] at HCA
  rw [← bs_take, eb] at HCB
  rw [← bs_take, ec] at HCC
  rw [hx3] at HCX
  clear hx3
  have la32 := crc_lt (la.take n)
  have lb32 := crc_lt (lb.take n)
  have lc32 := crc_lt (lc.take n)
  obtain ⟨ca, hca⟩ : ∃ x, crc (la.take n) = x := ⟨_, rfl⟩
  obtain ⟨cb, hcb⟩ : ∃ x, crc (lb.take n) = x := ⟨_, rfl⟩
  obtain ⟨cc, hcc⟩ : ∃ x, crc (lc.take n) = x := ⟨_, rfl⟩
  rw [hca] at HCA HCX la32
  rw [hcb] at HCB HCX lb32
  rw [hcc] at HCC HCX lc32
  clear hca hcb hcc
  have x1 := bits_xor_i64_nat ca cb (by omega) (by omega)
  have hab : ca ^^^ cb < 2 ^ 32 := Nat.xor_lt_two_pow (by omega) (by omega)
  have x2 := bits_xor_i64_nat (ca ^^^ cb) cc (by omega) (by omega)
  obtain ⟨cab, hcab⟩ : ∃ x, ca ^^^ cb = x := ⟨_, rfl⟩
  rw [hcab] at x1 x2 HCX
  obtain ⟨cx, hcx⟩ : ∃ x, cab ^^^ cc = x := ⟨_, rfl⟩
  rw [hcx] at x2 HCX
  clear hcab hcx hab la32 lb32 lc32
  have XX := Lib.hid (And.intro x1 x2); clear x1 x2
  have HSA := Lib.hid sa; have HSB := Lib.hid sb; have HSC := Lib.hid sc
  clear hla hlb hlc ea eb ec sa sb sc
  go_enter Tryd.func7, Tryd.ntmps7
  go_wp2_with fail
  refine (HSm.out _ hL).mono ?_; rintro e w1 ⟨rfl, b1⟩
  go_wp2_with (refine wpList_min3 rfl _ _ _ _ rfl _ _ _ (n : Int) rfl rfl rfl hn ?_)
  clear hn
  go_loopw [9, 10] (fun x i wl => ∃ k : Nat, k ≤ n ∧ i = .int .i64 k ∧ wl.ownsRow w.heap.size 5 1 x k (cl (xor3 (la.take k) (lb.take k) (lc.take k))) ∧ Below w.heap.size w wl) (fun _ i _ => n - (intOf i).toNat)
  case atStart => exact ⟨0, by omega, rfl, World.ownsRow_nil _ _ _ _, b1⟩
  case round =>
    obtain ⟨k, hk, rfl, hown, hB⟩ := hrel
    have hbs := hB.size
    by_cases hlt : k < n
    · have ka : k < a.size := by omega
      have kb : k < b.size := by omega
      have kc : k < c.size := by omega
      have HT := Lib.hid (xor3_take_succ la lb lc k (by rw [← HSA.out]; exact ka) (by rw [← HSB.out]; exact kb) (by rw [← HSC.out]; exact kc))
      rw [← HGA.out k ka, ← HGB.out k kb, ← HGC.out k kc] at HT
      have y1 := bits_xor_u8 a[k] b[k]
      have y2 := bits_xor_u8 (a[k] ^^^ b[k]) c[k]
      obtain ⟨va, hva⟩ : ∃ v, a[k] = v := ⟨_, rfl⟩
      obtain ⟨vb, hvb⟩ : ∃ v, b[k] = v := ⟨_, rfl⟩
      obtain ⟨vc, hvc⟩ : ∃ v, c[k] = v := ⟨_, rfl⟩
      rw [hva, hvb] at y1 y2
      rw [hvc] at y2
      rw [hva, hvb, hvc] at HT
      obtain ⟨u1, hu1⟩ : ∃ v, va ^^^ vb = v := ⟨_, rfl⟩
      rw [hu1] at y1 y2 HT
      obtain ⟨u2, hu2⟩ : ∃ v, u1 ^^^ vc = v := ⟨_, rfl⟩
      rw [hu2] at y2 HT
      clear hu1 hu2
      have q0 : (0 : Int) ≤ k := by omega
      have qa : (k : Int) < a.size := by omega
      have qb : (k : Int) < b.size := by omega
      have qc : (k : Int) < c.size := by omega
      go_wp2_with fail
      go_region_law (first
        | (refine step_append_lies _ (by rfl) _ _ _ (by rfl) w.heap.size 5 i0 (.int .u8 0) 1 1 Tryd.underlying30 hi0 hz0 hz1 hz2 rfl (by omega) _ _ _ (by rfl) ((hown.alloc _).drew) ⟨wr.heap.size, 0, none⟩ 1 1 [.int .u8 (u2.toNat : Nat)] (by rfl) (by rfl) (World.news_of_block (cs := #[.int .u8 (u2.toNat : Nat)]) (t := 5) (fr := (0, 0)) (heap_alloc_new wr _)) (by simp [Value.oneCell']) (by omega) (by unfold maxLen; omega) (by omega) (by simp; omega) (wr.heap.size + 1) (by simp) ?_; intro gg cap w3 hown3 hgrow3 hat3 hlt3))
      all_goals
        clear y1 y2 hva hvb hvc
        go_wp2_with fail
        go_roundw
        case rel => exact ⟨k + 1, by omega, by go_num, by rw [HT.out, cl_append]; exact hown3, ((hB.alloc hbs _).drew).grown hgrow3 (by simp; omega) (fun k hk => (hown.lt k hk).1)⟩
        case measure => simp [intOf]; omega
    · obtain rfl : k = n := by omega
      have hcv := conv_any hown
      have hcv2 := conv_any hown.drew
      obtain ⟨x1, x2⟩ := XX.out
      obtain ⟨sx, hsx⟩ : ∃ s, bs (xor3 (la.take k) (lb.take k) (lc.take k)) = s := ⟨_, rfl⟩
      rw [hsx] at hcv hcv2 HCX
      have q0 : (0 : Int) ≤ k := by omega
      have qa : (k : Int) ≤ a.size := by omega
      have qb : (k : Int) ≤ b.size := by omega
      have qc : (k : Int) ≤ c.size := by omega
      have HQX : Hid (∀ w, Calls Tryd.prog 16 #[.string sx] w fun e w' => e = .returned (.int .i64 (cx : Nat)) ∧ w' = w) := fun w => (HCX.out w).mono fun _ _ h => ⟨h.1, h.2.symm⟩
      have HQA : Hid (∀ w, Calls Tryd.prog 16 #[.string (a.extract 0 k)] w fun e w' => e = .returned (.int .i64 (ca : Nat)) ∧ w' = w) := fun w => (HCA.out w).mono fun _ _ h => ⟨h.1, h.2.symm⟩
      have HQB : Hid (∀ w, Calls Tryd.prog 16 #[.string (b.extract 0 k)] w fun e w' => e = .returned (.int .i64 (cb : Nat)) ∧ w' = w) := fun w => (HCB.out w).mono fun _ _ h => ⟨h.1, h.2.symm⟩
      have HQC : Hid (∀ w, Calls Tryd.prog 16 #[.string (c.extract 0 k)] w fun e w' => e = .returned (.int .i64 (cc : Nat)) ∧ w' = w) := fun w => (HCC.out w).mono fun _ _ h => ⟨h.1, h.2.symm⟩
      have hown3 : ∀ m, (wr.drewN m).ownsRow w.heap.size 5 1 u9 k (cl (xor3 (la.take k) (lb.take k) (lc.take k))) := fun m => hown
      have hcv3 : ∀ m, (convert 30 9 u9).run Tryd.prog (wr.drewN m) = .ok (.string sx) (wr.drewN m) := fun m => by
        have := conv_any (hown3 m); rw [hsx] at this; exact this
      clear hcv hcv2 hown3 hsx
      go_wp2_with fail
      go_quiet (first
        | (with_reducible exact Calls.quiet_of_same (HQX.out _))
        | (with_reducible exact Calls.quiet_of_same (HQA.out _))
        | (with_reducible exact Calls.quiet_of_same (HQB.out _))
        | (with_reducible exact Calls.quiet_of_same (HQC.out _)))
      go_wp2_with fail
      go_ret
      exact ⟨by simp, ⟨hB.os, hB.tape, hB.output, hB.size, hB.block⟩⟩
end
end Go.Proofs.YtcekmedfphmpcaaDoor
