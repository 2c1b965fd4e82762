/-
  Contracts of wire.Num, Int, Text, Nums, Texts and of the reference's.
-/
import Derived.Test.YtebepofbngdccaaApp
import Derived.Laws.Bits64
import Derived.Laws.DeepNot64
namespace Go.Proofs.Ytebepofbngdccaa
set_option linter.unusedVariables false
set_option linter.unusedSimpArgs false
open Go.RowKit

theorem bits_or_u64_nat (a b : Nat) (ha : a < 18446744073709551616) (hb : b < 18446744073709551616) : bits .or .u64 (a : Int) (b : Int) = ((a ||| b : Nat) : Int) := by
  have hx : a ||| b < 2 ^ 64 := Nat.or_lt_two_pow (by omega) (by omega)
  have h1 : (BitVec.ofInt 64 (a : Int)).toNat = a := by
    rw [BitVec.ofInt_natCast, BitVec.toNat_ofNat]; exact Nat.mod_eq_of_lt (by omega)
  have h2 : (BitVec.ofInt 64 (b : Int)).toNat = b := by
    rw [BitVec.ofInt_natCast, BitVec.toNat_ofNat]; exact Nat.mod_eq_of_lt (by omega)
  show IntKind.u64.wrap ((BitVec.ofInt 64 (a : Int) ||| BitVec.ofInt 64 (b : Int)).toNat : Int) = _
  rw [BitVec.toNat_or, h1, h2, IntKind.wrap_u64]
  omega
theorem bits_and1_u64 (a : Nat) (ha : a < 18446744073709551616) : bits .and .u64 (a : Int) 1 = ((a % 2 : Nat) : Int) := by
  have h1 : (BitVec.ofInt 64 (a : Int)).toNat = a := by
    rw [BitVec.ofInt_natCast, BitVec.toNat_ofNat]; exact Nat.mod_eq_of_lt (by omega)
  show IntKind.u64.wrap ((BitVec.ofInt 64 (a : Int) &&& BitVec.ofInt 64 1).toNat : Int) = _
  rw [BitVec.toNat_and, h1, IntKind.wrap_u64]
  have : (BitVec.ofInt 64 1).toNat = 1 := by decide
  rw [this, Nat.and_one_is_mod]
  omega
theorem bits_not_u64 (a : Nat) (ha : a < 18446744073709551616) : bits .xor .u64 IntKind.u64.max (a : Int) = 18446744073709551615 - (a : Int) := by
  have hm : IntKind.u64.max = ((18446744073709551615 : Nat) : Int) := by decide
  rw [hm, bits_xor_u64_nat _ _ (by decide) ha]
  have h : (18446744073709551615 : Nat) ^^^ a = 18446744073709551615 - a := by
    have e : (BitVec.allOnes 64 ^^^ BitVec.ofNat 64 a).toNat = (~~~ (BitVec.ofNat 64 a)).toNat := by rw [BitVec.allOnes_xor]
    rw [BitVec.toNat_xor, BitVec.toNat_not, BitVec.toNat_ofNat, Nat.mod_eq_of_lt (by omega)] at e
    simpa using e
  rw [h]; omega

theorem zig_neg (n : Int) (h0 : -9223372036854775808 ≤ n) (hn : n < 0) : bits BinOp.xor IntKind.u64 IntKind.u64.max (IntKind.u64.wrap (IntKind.u64.wrap n * 2)) = ((zig n : Nat) : Int) := by
  have e : IntKind.u64.wrap (IntKind.u64.wrap n * 2) = (((2 * (n + 9223372036854775808)).toNat : Nat) : Int) := by
    rw [IntKind.wrap_u64, IntKind.wrap_u64]; omega
  rw [e, bits_not_u64 _ (by omega)]
  unfold zig
  rw [if_pos hn]; omega
theorem zig_pos (n : Int) (hn : ¬ n < 0) : n * 2 = ((zig n : Nat) : Int) := by unfold zig; rw [if_neg hn]; omega

set_option maxRecDepth 100000 in
theorem fold_any (n : Int) (w : World) (h0 : -9223372036854775808 ≤ n) (h1 : n ≤ 9223372036854775807) :
    Calls Try.prog 45 #[.int .i64 n] w fun e w' => e = .returned (.int .u64 (zig n)) ∧ w = w' := by
  by_cases hn : n < 0
  · go_enter Try.func45, Try.ntmps45
    go_wp2
    go_ret
    exact ⟨by rw [← zig_neg n h0 hn]; rfl, rfl⟩
  · go_enter Try.func45, Try.ntmps45
    go_wp2
    go_ret
    exact ⟨by rw [← zig_pos n (by omega)]; rfl, rfl⟩

set_option maxRecDepth 100000 in
theorem unfold_any (m : Nat) (w : World) (hm : m < 18446744073709551616) :
    Calls Try.prog 50 #[.int .u64 m] w fun e w' => e = .returned (.int .i64 (zag m)) ∧ w = w' := by
  have ha := bits_and1_u64 m hm
  have hx := i64_not (m / 2) (by omega)
  have HX : Hid (bits .xor .i64 (-1) ((m : Int) / 2) = zag m ∨ ¬ m % 2 = 1) := by
    by_cases h : m % 2 = 1
    · left; unfold zag; rw [if_pos h]; rw [show ((m : Int) / 2) = ((m / 2 : Nat) : Int) from rfl, hx]; omega
    · exact .inr h
  clear hx
  by_cases h : m % 2 = 1
  · have hb : (((m % 2 : Nat) : Int) == 1) = true := by rw [h]; rfl
    have H := Lib.hid h; clear h
    go_enter Try.func50, Try.ntmps50
    go_wp2
    go_ret
    rcases HX.out with hx | hx
    · exact ⟨by rw [← hx]; rfl, rfl⟩
    · exact absurd H.out hx
  · have hb : (((m % 2 : Nat) : Int) == 1) = false := by simp; omega
    have HZ : Hid (zag m = (m : Int) / 2) := by unfold zag; rw [if_neg h]; rfl
    have H := Lib.hid h; clear h HX
    go_enter Try.func50, Try.ntmps50
    go_wp2
    go_ret
    exact ⟨by rw [HZ.out]; rfl, rfl⟩

def num0 (n : Int) : Nat := if n < 0 then (-(n + 1)).toNat else n.toNat
theorem num0_le {n : Int} (h0 : -9223372036854775808 ≤ n) (h1 : n ≤ 9223372036854775807) : num0 n ≤ 9223372036854775807 := by unfold num0; split <;> omega
set_option maxRecDepth 100000 in
theorem number_any (n : Int) (w : World) (h0 : -9223372036854775808 ≤ n) (h1 : n ≤ 9223372036854775807) :
    Calls Try.prog 42 #[.int .i64 n] w fun e w' => e = .returned (.int .i64 (num0 n)) ∧ w = w' := by
  by_cases hn : n < 0
  · have HZ : Hid ((num0 n : Int) = -(n + 1)) := by unfold num0; rw [if_pos hn]; exact Int.toNat_of_nonneg (by omega)
    go_enter Try.func42, Try.ntmps42
    go_wp2
    go_ret
    exact ⟨by rw [HZ.out]; rfl, rfl⟩
  · have HZ : Hid ((num0 n : Int) = n) := by unfold num0; rw [if_neg hn]; exact Int.toNat_of_nonneg (by omega)
    go_enter Try.func42, Try.ntmps42
    go_wp2
    go_ret
    exact ⟨by rw [HZ.out]; rfl, rfl⟩

set_option maxRecDepth 100000 in
theorem wnum_neg (n : Int) (w : World) (h : n < 0) :
    Calls Try.prog 11 #[.int .i64 n] w fun e w' => e = .returned (.string (bs [])) ∧ Below w.heap.size w w' := by
  go_enter Try.func11, Try.ntmps11
  go_wp2
  go_ret
  exact ⟨rfl, Below.refl _ _⟩

set_option maxRecDepth 100000 in
theorem wnum (n : Nat) (w : World) (h1 : n ≤ 9223372036854775807) :
    Calls Try.prog 11 #[.int .i64 n] w fun e w' => e = .returned (.string (bs (enc n))) ∧ Below w.heap.size w w' := by
  have hh : n < 18446744073709551616 := by omega
  go_enter Try.func11, Try.ntmps11
  go_wp2_with (go_at_call 43; refine (app_any w.heap.size 0 _ [] n w hh (by omega) (Nat.le_refl _) (World.ownsRow_nil _ _ _ _)).mono ?_; rintro e w2 ⟨v', rfl, ho, hB2⟩; have hcv := conv_own (enc_pos n) ho)
  go_ret
  exact ⟨rfl, hB2⟩
set_option maxRecDepth 100000 in
theorem wint (n : Int) (w : World) (h0 : -9223372036854775808 ≤ n) (h1 : n ≤ 9223372036854775807) :
    Calls Try.prog 13 #[.int .i64 n] w fun e w' => e = .returned (.string (bs (enc (zig n)))) ∧ Below w.heap.size w w' := by
  have hh := zig_lt h0 h1
  go_enter Try.func13, Try.ntmps13
  go_wp2_with fail
  refine (fold_any n _ h0 h1).mono ?_; rintro e w' ⟨rfl, rfl⟩
  go_wp2_with fail
  refine (app_any w.heap.size 0 _ [] (zig n) w hh (by omega) (Nat.le_refl _) (World.ownsRow_nil _ _ _ _)).mono ?_; rintro e w2 ⟨v', rfl, ho, hB2⟩; have hcv := conv_own (enc_pos (zig n)) ho
  go_wp2_with fail
  go_ret
  exact ⟨rfl, hB2⟩

set_option maxRecDepth 100000 in
theorem wtext (s : List UInt8) (w : World) (hs : s.length ≤ 1000000) :
    Calls Try.prog 15 #[.string (bs s)] w fun e w' => e = .returned (.string (bs (enc s.length ++ s))) ∧ Below w.heap.size w w' := by
  have hl : (enc s.length).length ≤ 10 := enc_le10 (by omega)
  have hadd := fun w => run_string_add_sum (P := Try.prog) (w := w) (bs (enc s.length)) (bs s) (by rw [bs_size, bs_size]; omega)
  rw [← bs_append]
  go_enter Try.func15, Try.ntmps15
  go_wp2_with fail
  rw [bs_size]
  refine (wnum s.length w (by omega)).mono ?_; rintro e w2 ⟨rfl, hB2⟩
  go_wp2_with fail
  go_ret
  exact ⟨rfl, hB2⟩

/-- A slice value that reads as xs, in memory below block B. -/
def Row (w : World) (B : Nat) (v : Value) (xs : List Value) : Prop :=
  ∃ A cap, v = .slice A xs.length cap ∧ (0 < xs.length → ∃ b off, A = some ⟨b, off, none⟩ ∧ b < B ∧ ∀ k, k < xs.length → w.cell? ⟨b, off + k, none⟩ = xs[k]?)
theorem Row.below {w w' : World} {B : Nat} {v : Value} {xs : List Value} (h : Row w B v xs) (hb : Below B w w') : Row w' B v xs := by
  obtain ⟨A, cap, hv, hA⟩ := h
  refine ⟨A, cap, hv, fun h0 => ?_⟩
  obtain ⟨b, off, ha, hB, hc⟩ := hA h0
  exact ⟨b, off, ha, hB, fun k hk => (hb.cell (p := ⟨b, off + k, none⟩) hB).trans (hc k hk)⟩
theorem Row.mono {w : World} {B B' : Nat} {v : Value} {xs : List Value} (h : Row w B v xs) (hb : B ≤ B') : Row w B' v xs := by
  obtain ⟨A, cap, hv, hA⟩ := h
  refine ⟨A, cap, hv, fun h0 => ?_⟩
  obtain ⟨b, off, ha, hB, hc⟩ := hA h0
  exact ⟨b, off, ha, by omega, hc⟩
theorem Row.of_own {w : World} {base : Nat} {e : TypeId} {v : Value} {n : Nat} {xs : List Value} (h : w.ownsRow base e 1 v n xs) : Row w w.heap.size v xs := by
  have hn : n = xs.length := by have := h.1; omega
  subst hn
  have hs : ∃ A cap, v = .slice A xs.length cap := by
    rcases h.2 with ⟨rfl, h0⟩ | ⟨g, cap, cur, rfl, _⟩
    · exact ⟨none, 0, by rw [h0]⟩
    · exact ⟨_, _, rfl⟩
  obtain ⟨A, cap, rfl⟩ := hs
  refine ⟨A, cap, rfl, fun h0 => ?_⟩
  obtain ⟨g, cap', hv, hb, hlt⟩ := h.form h0
  injection hv with hA _ hc
  subst hA; subst hc
  refine ⟨g, 0, rfl, hlt, fun k hk => ?_⟩
  rw [Nat.zero_add]
  exact h.cellAt k (by omega)

def iv (zs : List Int) : List Value := zs.map (.int .i64)
def sv (ss : List (List UInt8)) : List Value := ss.map fun s => .string (bs s)
theorem iv_length (zs : List Int) : (iv zs).length = zs.length := by simp [iv]
theorem sv_length (ss : List (List UInt8)) : (sv ss).length = ss.length := by simp [sv]
theorem iv_at (zs : List Int) (k : Nat) (h : k < zs.length) : (iv zs)[k]? = some (.int .i64 zs[k]) := by simp [iv, h]
theorem sv_at (ss : List (List UInt8)) (k : Nat) (h : k < ss.length) : (sv ss)[k]? = some (.string (bs ss[k])) := by simp [sv, h]
def inI (n : Int) : Prop := -9223372036854775808 ≤ n ∧ n ≤ 9223372036854775807

def encI (n : Int) : List UInt8 := enc (zig n)
def encT (s : List UInt8) : List UInt8 := enc s.length ++ s
def encNums (zs : List Int) : List UInt8 := enc zs.length ++ zs.flatMap encI
def encTexts (ss : List (List UInt8)) : List UInt8 := enc ss.length ++ ss.flatMap encT

theorem flat_take {α : Type} (f : α → List UInt8) (l : List α) (k : Nat) (h : k < l.length) : (l.take (k + 1)).flatMap f = (l.take k).flatMap f ++ f l[k] := by
  rw [List.take_succ_eq_append_getElem h, List.flatMap_append]; simp
theorem flat_len {α : Type} (f : α → List UInt8) (c : Nat) (l : List α) (h : ∀ x ∈ l, (f x).length ≤ c) : (l.flatMap f).length ≤ c * l.length := by
  induction l with
  | nil => simp
  | cons x l ih =>
    have h1 := h x (by simp)
    have h2 := ih fun y hy => h y (by simp [hy])
    simp only [List.flatMap_cons, List.length_append, List.length_cons, Nat.mul_add, Nat.mul_one]; omega

theorem encI_len (n : Int) (h : inI n) : (encI n).length ≤ 10 := enc_le10 (zig_lt h.1 h.2)
theorem encT_len (s : List UInt8) (h : s.length ≤ 400) : (encT s).length ≤ 410 := by
  have := enc_le10 (m := s.length) (by omega)
  unfold encT; rw [List.length_append]; omega

set_option maxRecDepth 100000 in
theorem wnums (v : Value) (zs : List Int) (w : World) (hr : Row w w.heap.size v (iv zs)) (hz : ∀ z ∈ zs, inI z) (hn : zs.length ≤ 1000) :
    Calls Try.prog 17 #[v] w fun e w' => e = .returned (.string (bs (encNums zs))) ∧ Below w.heap.size w w' := by
  obtain ⟨A, cap, rfl, hA⟩ := hr
  rw [iv_length] at hA
  rw [iv_length]
  have hl0 : (enc zs.length).length ≤ 10 := enc_le10 (by omega)
  go_enter Try.func17, Try.ntmps17
  go_wp2_with fail
  refine (app_any w.heap.size 0 _ [] zs.length w (by omega) (by omega) (Nat.le_refl _) (World.ownsRow_nil _ _ _ _)).mono ?_; rintro e w2 ⟨v', rfl, ho, hB2⟩
  go_wp2_with fail
  go_loopw [3, 12] (fun b i wr => ∃ k : Nat, k ≤ zs.length ∧ i = .int .i64 k ∧ 
      wr.ownsRow w.heap.size 5 1 b (enc zs.length ++ (zs.take k).flatMap encI).length (cl (enc zs.length ++ (zs.take k).flatMap encI)) ∧ Below w.heap.size w wr) (fun _ i _ => zs.length - (intOf i).toNat)
  case atStart => exact ⟨0, by omega, rfl, by simpa using ho, hB2⟩
  case round =>
    obtain ⟨k, hk, rfl, hown, hB⟩ := hrel
    have hbs : w.heap.size ≤ wr.heap.size := hB.size
    by_cases hlt : k < zs.length
    · obtain ⟨b, off, rfl, hb, hc⟩ := hA (by omega)
      have hz1 : inI zs[k] := hz _ (by simp)
      have hlen : (enc zs.length ++ (zs.take k).flatMap encI).length ≤ 20000 := by
        have := flat_len encI 10 (zs.take k) (fun x hx => encI_len x (hz x (List.mem_of_mem_take hx)))
        rw [List.length_take] at this
        rw [List.length_append]; omega
      have HT := Lib.hid (flat_take encI zs k hlt)
      have hcell : wr.cell? ⟨b, off + k, none⟩ = some (.int .i64 zs[k]) := by
        rw [← iv_at zs k hlt, ← hc k hlt]; exact hB.cell (p := ⟨b, off + k, none⟩) hb
      clear hc hA
      obtain ⟨L, hL⟩ : ∃ L, enc zs.length ++ (zs.take k).flatMap encI = L := ⟨_, rfl⟩
      rw [hL] at hown hlen
      have HL := Lib.hid hL; clear hL
      go_wp2_with fail
      refine (fold_any zs[k] _ hz1.1 hz1.2).mono ?_; rintro e w' ⟨rfl, rfl⟩
      go_wp2_with fail
      refine (app_any w.heap.size L.length _ (cl L) (zig zs[k]) _ (zig_lt hz1.1 hz1.2) (by omega) hbs hown).mono ?_; rintro e w3 ⟨v3, rfl, ho3, hB3⟩
      go_wp2_with fail
      go_roundw
      case rel => exact ⟨k + 1, by omega, by go_num, by rw [HT.out, ← List.append_assoc, HL.out, cl_append, List.length_append]; exact ho3, hB.trans hB3⟩
      case measure => simp [intOf]; omega
    · obtain rfl : k = zs.length := by omega
      rw [List.take_length] at hown
      have hcv := conv_own (by have := enc_pos zs.length; rw [List.length_append]; omega) hown
      clear hown
      go_wp2_with fail
      go_ret
      exact ⟨rfl, hB⟩

theorem strCells_bs (s : List UInt8) : Lib.strCells (bs s) = cl s := by simp [Lib.strCells, cl, bs]
theorem texts_step {w : World} {base : Nat} {v : Value} {p f g L s : List UInt8} (ht : f = g ++ encT s) (hl : p ++ g = L)
    (h : w.ownsRow base 5 1 v (L.length + (enc s.length).length + (bs s).size) (cl L ++ cl (enc s.length) ++ Lib.strCells (bs s))) :
    w.ownsRow base 5 1 v (p ++ f).length (cl (p ++ f)) := by
  subst hl
  rw [ht, encT]
  rw [bs_size, strCells_bs] at h
  have e1 : (p ++ (g ++ (enc s.length ++ s))).length = (p ++ g).length + (enc s.length).length + s.length := by simp only [List.length_append]; omega
  have e2 : cl (p ++ (g ++ (enc s.length ++ s))) = cl (p ++ g) ++ cl (enc s.length) ++ cl s := by simp only [cl_append, List.append_assoc]
  rw [e1, e2]; exact h
set_option maxRecDepth 100000 in
theorem wtexts (v : Value) (ss : List (List UInt8)) (w : World) (hr : Row w w.heap.size v (sv ss)) (hz : ∀ s ∈ ss, s.length ≤ 400) (hn : ss.length ≤ 400) :
    Calls Try.prog 19 #[v] w fun e w' => e = .returned (.string (bs (encTexts ss))) ∧ Below w.heap.size w w' := by
  obtain ⟨A, cap, rfl, hA⟩ := hr
  obtain ⟨i0, hi0, hz0, hz1', hz2⟩ := info_parts info5
  rw [sv_length] at hA
  rw [sv_length]
  have hl0 : (enc ss.length).length ≤ 10 := enc_le10 (by omega)
  go_enter Try.func19, Try.ntmps19
  go_wp2_with fail
  refine (app_any w.heap.size 0 _ [] ss.length w (by omega) (by omega) (Nat.le_refl _) (World.ownsRow_nil _ _ _ _)).mono ?_; rintro e w2 ⟨v', rfl, ho, hB2⟩
  go_wp2_with fail
  go_loopw [3, 12] (fun b i wr => ∃ k : Nat, k ≤ ss.length ∧ i = .int .i64 k ∧ 
      wr.ownsRow w.heap.size 5 1 b (enc ss.length ++ (ss.take k).flatMap encT).length (cl (enc ss.length ++ (ss.take k).flatMap encT)) ∧ Below w.heap.size w wr) (fun _ i _ => ss.length - (intOf i).toNat)
  case atStart => exact ⟨0, by omega, rfl, by simpa using ho, hB2⟩
  case round =>
    obtain ⟨k, hk, rfl, hown, hB⟩ := hrel
    have hbs : w.heap.size ≤ wr.heap.size := hB.size
    by_cases hlt : k < ss.length
    · obtain ⟨b, off, rfl, hb, hc⟩ := hA (by omega)
      have hz1 : ss[k].length ≤ 400 := hz _ (by simp)
      have hlen : (enc ss.length ++ (ss.take k).flatMap encT).length ≤ 170000 := by
        have := flat_len encT 410 (ss.take k) (fun x hx => encT_len x (hz x (List.mem_of_mem_take hx)))
        rw [List.length_take] at this
        rw [List.length_append]; omega
      have HT := Lib.hid (flat_take encT ss k hlt)
      have hcell : wr.cell? ⟨b, off + k, none⟩ = some (.string (bs ss[k])) := by
        rw [← sv_at ss k hlt, ← hc k hlt]; exact hB.cell (p := ⟨b, off + k, none⟩) hb
      clear hc hA
      obtain ⟨L, hL⟩ : ∃ L, enc ss.length ++ (ss.take k).flatMap encT = L := ⟨_, rfl⟩
      rw [hL] at hown hlen
      have HL := Lib.hid hL; clear hL
      have hel : (enc ss[k].length).length ≤ 10 := enc_le10 (by omega)
      have hsz : (bs ss[k]).size ≤ 400 := by rw [bs_size]; exact hz1
      go_wp2_with fail
      rw [bs_size]
      refine (app_any w.heap.size L.length _ (cl L) ss[k].length _ (by omega) (by omega) hbs hown).mono ?_; rintro e w3 ⟨v3, rfl, ho3, hB3⟩
      go_wp2_with (at_builtin; refine Lib.wpList_append_own_string _ rfl _ _ 53 9 rfl w.heap.size 5 i0 Try.underlying53 Try.underlying9 hi0 hz0 hz1' hz2 _ _ _ rfl ho3 (bs ss[k]) rfl (by rw [bs_size]; unfold maxLen; omega) (by rw [bs_size]; omega) (Nat.le_trans hbs hB3.size) ?_; intro v4 w4 ho4 hg4 hnil4)
      go_roundw
      case rel => exact ⟨k + 1, by omega, by go_num, texts_step HT.out HL.out ho4, (hB.trans hB3).grown hg4 (Nat.le_trans hbs hB3.size) (fun k hk => (ho3.lt k hk).1)⟩
      case measure => simp [intOf]; omega
    · obtain rfl : k = ss.length := by omega
      rw [List.take_length] at hown
      have hcv := conv_own (by have := enc_pos ss.length; rw [List.length_append]; omega) hown
      clear hown
      go_wp2_with fail
      go_ret
      exact ⟨rfl, hB⟩
set_option maxRecDepth 100000 in
theorem rnum_neg (n : Int) (w : World) (h : n < 0) :
    Calls Try.prog 12 #[.int .i64 n] w fun e w' => e = .returned (.string (bs [])) ∧ Below w.heap.size w w' := by
  go_enter Try.func12, Try.ntmps12
  go_wp2
  go_ret
  exact ⟨rfl, Below.refl _ _⟩

set_option maxRecDepth 100000 in
theorem rnum (n : Nat) (w : World) (h1 : n ≤ 9223372036854775807) :
    Calls Try.prog 12 #[.int .i64 n] w fun e w' => e = .returned (.string (bs (enc n))) ∧ Below w.heap.size w w' := by
  go_enter Try.func12, Try.ntmps12
  go_wp2_with fail
  refine (groups_any n w (by omega)).mono ?_; rintro e w2 ⟨rfl, hB2⟩
  go_wp2_with fail
  go_ret
  exact ⟨rfl, hB2⟩

theorem zig_int_neg {n : Int} (h : n < 0) : ((zig n : Nat) : Int) = 2 * -(n + 1) + 1 := by unfold zig; rw [if_pos h]; omega
theorem zig_int_pos {n : Int} (h : 0 ≤ n) : ((zig n : Nat) : Int) = 2 * n := by unfold zig; rw [if_neg (by omega)]; omega

set_option maxRecDepth 100000 in
theorem rint (n : Int) (w : World) (h0 : -9223372036854775808 ≤ n) (h1 : n ≤ 9223372036854775807) :
    Calls Try.prog 14 #[.int .i64 n] w fun e w' => e = .returned (.string (bs (enc (zig n)))) ∧ Below w.heap.size w w' := by
  have hh := zig_lt h0 h1
  by_cases hn : n < 0
  · have hz := Lib.hid (zig_int_neg hn)
    go_enter Try.func14, Try.ntmps14
    go_wp2_with fail
    rw [← hz.out]
    refine (groups_any (zig n) w hh).mono ?_; rintro e w2 ⟨rfl, hB2⟩
    go_wp2_with fail
    go_ret
    exact ⟨rfl, hB2⟩
  · have hz := Lib.hid (zig_int_pos (n := n) (by omega))
    go_enter Try.func14, Try.ntmps14
    go_wp2_with fail
    rw [← hz.out]
    refine (groups_any (zig n) w hh).mono ?_; rintro e w2 ⟨rfl, hB2⟩
    go_wp2_with fail
    go_ret
    exact ⟨rfl, hB2⟩

set_option maxRecDepth 100000 in
theorem rtext (s : List UInt8) (w : World) (hs : s.length ≤ 1000000) :
    Calls Try.prog 16 #[.string (bs s)] w fun e w' => e = .returned (.string (bs (enc s.length ++ s))) ∧ Below w.heap.size w w' := by
  have hl : (enc s.length).length ≤ 10 := enc_le10 (by omega)
  have hadd := fun w => run_string_add_sum (P := Try.prog) (w := w) (bs (enc s.length)) (bs s) (by rw [bs_size, bs_size]; omega)
  rw [← bs_append]
  go_enter Try.func16, Try.ntmps16
  go_wp2_with fail
  rw [bs_size]
  refine (rnum s.length w (by omega)).mono ?_; rintro e w2 ⟨rfl, hB2⟩
  go_wp2_with fail
  go_ret
  exact ⟨rfl, hB2⟩

set_option maxRecDepth 100000 in
theorem rnums (v : Value) (zs : List Int) (w : World) (hr : Row w w.heap.size v (iv zs)) (hz : ∀ z ∈ zs, inI z) (hn : zs.length ≤ 1000) :
    Calls Try.prog 18 #[v] w fun e w' => e = .returned (.string (bs (encNums zs))) ∧ Below w.heap.size w w' := by
  obtain ⟨A, cap, rfl, hA⟩ := hr
  rw [iv_length] at hA
  rw [iv_length]
  have hl0 : (enc zs.length).length ≤ 10 := enc_le10 (by omega)
  go_enter Try.func18, Try.ntmps18
  go_wp2_with fail
  refine (rnum zs.length w (by omega)).mono ?_; rintro e w2 ⟨rfl, hB2⟩
  go_wp2_with fail
  go_loopw [3, 4] (fun b i wr => ∃ k : Nat, k ≤ zs.length ∧ i = .int .i64 k ∧ 
      b = .string (bs (enc zs.length ++ (zs.take k).flatMap encI)) ∧ Below w.heap.size w wr) (fun _ i _ => zs.length - (intOf i).toNat)
  case atStart => exact ⟨0, by omega, rfl, by simp, hB2⟩
  case round =>
    obtain ⟨k, hk, rfl, rfl, hB⟩ := hrel
    have hbs : w.heap.size ≤ wr.heap.size := hB.size
    by_cases hlt : k < zs.length
    · obtain ⟨b, off, rfl, hb, hc⟩ := hA (by omega)
      have hz1 : inI zs[k] := hz _ (by simp)
      have hlen : (enc zs.length ++ (zs.take k).flatMap encI).length ≤ 20000 := by
        have := flat_len encI 10 (zs.take k) (fun x hx => encI_len x (hz x (List.mem_of_mem_take hx)))
        rw [List.length_take] at this
        rw [List.length_append]; omega
      have HT := Lib.hid (flat_take encI zs k hlt)
      have hcell : wr.cell? ⟨b, off + k, none⟩ = some (.int .i64 zs[k]) := by
        rw [← iv_at zs k hlt, ← hc k hlt]; exact hB.cell (p := ⟨b, off + k, none⟩) hb
      clear hc hA
      have hel := encI_len zs[k] hz1
      obtain ⟨L, hL⟩ : ∃ L, enc zs.length ++ (zs.take k).flatMap encI = L := ⟨_, rfl⟩
      rw [hL] at hlen
      rw [hL]
      have HL := Lib.hid hL; clear hL
      have hadd := fun w => run_string_add_sum (P := Try.prog) (w := w) (bs L) (bs (enc (zig zs[k]))) (by rw [bs_size, bs_size]; unfold encI at hel; omega)
      go_wp2_with fail
      refine (rint zs[k] _ hz1.1 hz1.2).mono ?_; rintro e w3 ⟨rfl, hB3⟩
      go_wp2_with fail
      go_roundw
      case rel => exact ⟨k + 1, by omega, by go_num, by rw [HT.out, ← List.append_assoc, HL.out, ← bs_append]; rfl, hB.trans (hB3.mono hbs)⟩
      case measure => simp [intOf]; omega
    · obtain rfl : k = zs.length := by omega
      rw [List.take_length]
      go_wp2_with fail
      go_ret
      exact ⟨rfl, hB⟩

set_option maxRecDepth 100000 in
theorem rtexts (v : Value) (ss : List (List UInt8)) (w : World) (hr : Row w w.heap.size v (sv ss)) (hz : ∀ s ∈ ss, s.length ≤ 400) (hn : ss.length ≤ 400) :
    Calls Try.prog 20 #[v] w fun e w' => e = .returned (.string (bs (encTexts ss))) ∧ Below w.heap.size w w' := by
  obtain ⟨A, cap, rfl, hA⟩ := hr
  rw [sv_length] at hA
  rw [sv_length]
  have hl0 : (enc ss.length).length ≤ 10 := enc_le10 (by omega)
  go_enter Try.func20, Try.ntmps20
  go_wp2_with fail
  refine (rnum ss.length w (by omega)).mono ?_; rintro e w2 ⟨rfl, hB2⟩
  go_wp2_with fail
  go_loopw [3, 4] (fun b i wr => ∃ k : Nat, k ≤ ss.length ∧ i = .int .i64 k ∧ 
      b = .string (bs (enc ss.length ++ (ss.take k).flatMap encT)) ∧ Below w.heap.size w wr) (fun _ i _ => ss.length - (intOf i).toNat)
  case atStart => exact ⟨0, by omega, rfl, by simp, hB2⟩
  case round =>
    obtain ⟨k, hk, rfl, rfl, hB⟩ := hrel
    have hbs : w.heap.size ≤ wr.heap.size := hB.size
    by_cases hlt : k < ss.length
    · obtain ⟨b, off, rfl, hb, hc⟩ := hA (by omega)
      have hz1 : ss[k].length ≤ 400 := hz _ (by simp)
      have hlen : (enc ss.length ++ (ss.take k).flatMap encT).length ≤ 170000 := by
        have := flat_len encT 410 (ss.take k) (fun x hx => encT_len x (hz x (List.mem_of_mem_take hx)))
        rw [List.length_take] at this
        rw [List.length_append]; omega
      have HT := Lib.hid (flat_take encT ss k hlt)
      have hcell : wr.cell? ⟨b, off + k, none⟩ = some (.string (bs ss[k])) := by
        rw [← sv_at ss k hlt, ← hc k hlt]; exact hB.cell (p := ⟨b, off + k, none⟩) hb
      clear hc hA
      have hel := encT_len ss[k] hz1
      obtain ⟨L, hL⟩ : ∃ L, enc ss.length ++ (ss.take k).flatMap encT = L := ⟨_, rfl⟩
      rw [hL] at hlen
      rw [hL]
      have HL := Lib.hid hL; clear hL
      have hadd := fun w => run_string_add_sum (P := Try.prog) (w := w) (bs L) (bs (enc ss[k].length ++ ss[k])) (by rw [bs_size, bs_size]; unfold encT at hel; omega)
      go_wp2_with fail
      refine (rtext ss[k] _ (by omega)).mono ?_; rintro e w3 ⟨rfl, hB3⟩
      go_wp2_with fail
      go_roundw
      case rel => exact ⟨k + 1, by omega, by go_num, by rw [HT.out, ← List.append_assoc, HL.out, ← bs_append]; rfl, hB.trans (hB3.mono hbs)⟩
      case measure => simp [intOf]; omega
    · obtain rfl : k = ss.length := by omega
      rw [List.take_length]
      go_wp2_with fail
      go_ret
      exact ⟨rfl, hB⟩
end Go.Proofs.Ytebepofbngdccaa
