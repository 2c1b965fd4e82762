/-
  Contract of the reference's round.
-/
import Derived.Test.YtcekmedfphmpcaaDoorKecRef
namespace Go.Proofs.YtcekmedfphmpcaaDoor
set_option linter.unusedVariables false
set_option linter.unusedSimpArgs false
open Go.RowKit

theorem info35 : (Tryd.prog.info? 36).map (fun i => (i.zero, i.size, i.bytes)) = some (some (.int .u64 0), 1, 8) := by kernel_rfl

def lanes (a : List Nat) : Prop := a.length = 25 ∧ ∀ x ∈ a, x < 18446744073709551616
theorem lat_lt64 {a : List Nat} (h : ∀ x ∈ a, x < 18446744073709551616) (i : Nat) : lat a i < 18446744073709551616 := by
  unfold lat
  rw [List.getD_eq_getElem?_getD]
  cases hi : a[i]? with
  | none => simp
  | some x => exact h x (List.mem_of_getElem? hi)
theorem xor64 {a b : Nat} (ha : a < 18446744073709551616) (hb : b < 18446744073709551616) : a ^^^ b < 18446744073709551616 := Nat.xor_lt_two_pow (n := 64) (by omega) (by omega)
theorem par_lt {a : List Nat} (h : ∀ x ∈ a, x < 18446744073709551616) (k : Nat) : par a k < 18446744073709551616 := by
  unfold par
  exact xor64 (xor64 (xor64 (xor64 (lat_lt64 h _) (lat_lt64 h _)) (lat_lt64 h _)) (lat_lt64 h _)) (lat_lt64 h _)
theorem range_succ_map {α : Type} (f : Nat → α) (k : Nat) : (List.range (k + 1)).map f = (List.range k).map f ++ [f k] := by rw [List.range_succ, List.map_append]; rfl
theorem uv_append (a b : List Nat) : uv (a ++ b) = uv a ++ uv b := by simp [uv]
theorem lat_map (f : Nat → Nat) (n k : Nat) (h : k < n) : lat ((List.range n).map f) k = f k := by simp [lat, h, List.getD_eq_getElem?_getD]

/-- The equations of five lanes' exclusive or. -/
theorem par_eqs {a : List Nat} (h : ∀ x ∈ a, x < 18446744073709551616) (k : Nat) : ∃ b1 b2 b3 : Nat,
    bits .xor .u64 ((lat a k : Nat) : Int) ((lat a (k + 5) : Nat) : Int) = (b1 : Int) ∧ bits .xor .u64 (b1 : Int) ((lat a (k + 10) : Nat) : Int) = (b2 : Int) ∧
    bits .xor .u64 (b2 : Int) ((lat a (k + 15) : Nat) : Int) = (b3 : Int) ∧ bits .xor .u64 (b3 : Int) ((lat a (k + 20) : Nat) : Int) = ((par a k : Nat) : Int) := by
  have l := lat_lt64 h
  refine ⟨_, _, _, bits_xor_u64_nat _ _ (l _) (l _), bits_xor_u64_nat _ _ (xor64 (l _) (l _)) (l _), bits_xor_u64_nat _ _ (xor64 (xor64 (l _) (l _)) (l _)) (l _), ?_⟩
  exact bits_xor_u64_nat _ _ (xor64 (xor64 (xor64 (l _) (l _)) (l _)) (l _)) (l _)

theorem mk25 (w : World) : (Instr.makeSlice 41 (.int .i64 25) (.int .i64 25)).run Tryd.prog w = .ok (.slice (some ⟨w.heap.size, 0, none⟩) 25 25) (w.alloc (.cells #[.int .u64 0, .int .u64 0, .int .u64 0, .int .u64 0, .int .u64 0, .int .u64 0, .int .u64 0, .int .u64 0, .int .u64 0, .int .u64 0, .int .u64 0, .int .u64 0, .int .u64 0, .int .u64 0, .int .u64 0, .int .u64 0, .int .u64 0, .int .u64 0, .int .u64 0, .int .u64 0, .int .u64 0, .int .u64 0, .int .u64 0, .int .u64 0, .int .u64 0] 36)) := by kernel_rfl
def zero25 : Array Value := #[.int .u64 0, .int .u64 0, .int .u64 0, .int .u64 0, .int .u64 0, .int .u64 0, .int .u64 0, .int .u64 0, .int .u64 0, .int .u64 0, .int .u64 0, .int .u64 0, .int .u64 0, .int .u64 0, .int .u64 0, .int .u64 0, .int .u64 0, .int .u64 0, .int .u64 0, .int .u64 0, .int .u64 0, .int .u64 0, .int .u64 0, .int .u64 0, .int .u64 0]

/-- Which lanes of the second step are laid behind x and y. -/
def doneAt (x y j : Nat) : Prop := srcOf j % 5 < x ∨ (srcOf j % 5 = x ∧ srcOf j / 5 < y)
structure BAt (w : World) (g : Nat) (a P : List Nat) (x y : Nat) : Prop where
  blk : ∃ C : Array Value, Blk w g 36 C ∧ C.size = 25 ∧ ∀ j, j < 25 → doneAt x y j → C[j]? = some (.int .u64 (rho a P (srcOf j) : Nat))

theorem src_inv : ∀ x, x < 5 → ∀ y, y < 5 → srcOf (y + 5 * ((2 * x + 3 * y) % 5)) = x + 5 * y := by decide +kernel
theorem src_back : ∀ j, j < 25 → (srcOf j / 5) + 5 * ((2 * (srcOf j % 5) + 3 * (srcOf j / 5)) % 5) = j ∧ srcOf j < 25 := by decide +kernel
theorem BAt.step {w : World} {g : Nat} {a P : List Nat} {x y j : Nat} {C : Array Value} (hb : Blk w g 36 C) (hC : C.size = 25) (hd : ∀ j, j < 25 → doneAt x y j → C[j]? = some (.int .u64 (rho a P (srcOf j) : Nat)))
    (hx : x < 5) (hy : y < 5) (hj : j = y + 5 * ((2 * x + 3 * y) % 5)) {v : Nat} (hv : v = rho a P (x + 5 * y)) : BAt (w.setCell ⟨g, j, none⟩ (.int .u64 (v : Nat))) g a P x (y + 1) := by
  have hj25 : j < 25 := by omega
  have hsrc : srcOf j = x + 5 * y := by rw [hj]; exact src_inv x hx y hy
  refine ⟨C.setIfInBounds j (.int .u64 (v : Nat)), ?_, by simp [hC], fun j' hj' hdn => ?_⟩
  · unfold Blk at hb ⊢
    simp [World.setCell, Array.getElem?_modify, hb]
  · by_cases e : j' = j
    · subst e
      rw [Array.getElem?_setIfInBounds_self_of_lt (by omega), hv, hsrc]
    · rw [Array.getElem?_setIfInBounds_ne (Ne.symm e)]
      refine hd j' hj' ?_
      rcases hdn with h | ⟨h, h2⟩
      · exact .inl h
      · refine .inr ⟨h, ?_⟩
        by_cases e2 : srcOf j' / 5 = y
        · exfalso
          have hb := (src_back j' hj').1
          rw [h, e2] at hb
          exact e (by rw [hj, ← hb])
        · omega
theorem BAt.turn {w : World} {g : Nat} {a P : List Nat} {x : Nat} (h : BAt w g a P x 5) : BAt w g a P (x + 1) 0 := by
  obtain ⟨C, hb, hC, hd⟩ := h
  refine ⟨C, hb, hC, fun j hj hdn => hd j hj ?_⟩
  have := (src_back j hj).2
  rcases hdn with h | ⟨_, h2⟩
  · by_cases e : srcOf j % 5 = x
    · exact .inr ⟨e, by omega⟩
    · exact .inl (by omega)
  · omega
theorem BAt.below {w w' : World} {B g : Nat} {a P : List Nat} {x y : Nat} (h : BAt w g a P x y) (hb : Below B w w') (hg : g < B) : BAt w' g a P x y := by
  obtain ⟨C, hk, hC, hd⟩ := h
  exact ⟨C, hk.below hb hg, hC, hd⟩
theorem BAt.lt {w : World} {g : Nat} {a P : List Nat} {x y : Nat} (h : BAt w g a P x y) : g < w.heap.size := by obtain ⟨C, hk, _⟩ := h; exact hk.lt
theorem Blk.free {w : World} {g : Nat} {t : TypeId} {cs : Array Value} (h : Blk w g t cs) (i : Nat) : w.frozen? ⟨g, i, none⟩ = false := by unfold Blk at h; simp [World.frozen?, h]
theorem theta_at (a P : List Nat) (x y : Nat) (hx : x < 5) : theta a P (x + 5 * y) = lat a (x + 5 * y) ^^^ lat P ((x + 4) % 5) ^^^ rol (lat P ((x + 1) % 5)) 1 := by
  unfold theta; rw [show (x + 5 * y) % 5 = x by omega]
theorem left1R (x : Nat) (w : World) (hx : x < 18446744073709551616) :
    Calls Tryd.prog 33 #[.int .u64 x, .int .u64 1] w fun e w' => e = .returned (.int .u64 (rol x 1 : Nat)) ∧ w = w' := leftR x 1 w hx (by omega)
theorem turns_lt (i : Nat) (h : i < 25) : lat turns i < 64 := by
  have : ∀ i, i < 25 → lat turns i < 64 := by decide +kernel
  exact this i h

theorem rho_lt {a P : List Nat} (ha : ∀ x ∈ a, x < 18446744073709551616) (hP : ∀ x ∈ P, x < 18446744073709551616) (i : Nat) (hi : i < 25) : rho a P i < 18446744073709551616 := by
  unfold rho theta
  exact rol_lt (xor64 (xor64 (lat_lt64 ha _) (lat_lt64 hP _)) (rol_lt (lat_lt64 hP _) (by omega))) (turns_lt i hi)
theorem bL_lt {a P : List Nat} (ha : ∀ x ∈ a, x < 18446744073709551616) (hP : ∀ x ∈ P, x < 18446744073709551616) : ∀ x ∈ bL a P, x < 18446744073709551616 := fun x hx => by
  obtain ⟨j, hj, rfl⟩ := List.mem_map.1 hx
  exact rho_lt ha hP _ (src_back j (by simpa using hj)).2
theorem BAt.all {w : World} {g : Nat} {a P : List Nat} (h : BAt w g a P 5 0) (j : Nat) (hj : j < 25) : w.cell? ⟨g, j, none⟩ = some (.int .u64 (lat (bL a P) j : Nat)) := by
  obtain ⟨C, hk, hC, hd⟩ := h
  rw [hk.cell, hd j hj (.inl (by omega))]
  unfold bL; rw [lat_map _ _ _ hj]
theorem chi_at (B : List Nat) (x y : Nat) (hx : x < 5) : chi B (x + 5 * y) = lat B (x + 5 * y) ^^^ ((18446744073709551615 - lat B ((x + 1) % 5 + 5 * y)) &&& lat B ((x + 2) % 5 + 5 * y)) := by
  unfold chi; rw [show (x + 5 * y) % 5 = x by omega, show (x + 5 * y) / 5 = y by omega]
theorem chi_eqs {n0 n1 n2 : Nat} (h0 : n0 < 18446744073709551616) (h1 : n1 < 18446744073709551616) (h2 : n2 < 18446744073709551616) : ∃ v : Nat,
    bits .and .u64 (18446744073709551615 - (n1 : Int)) (n2 : Int) = (v : Int) ∧ bits .xor .u64 (n0 : Int) (v : Int) = ((n0 ^^^ ((18446744073709551615 - n1) &&& n2) : Nat) : Int) := by
  refine ⟨(18446744073709551615 - n1) &&& n2, ?_, ?_⟩
  · rw [← bits_and_u64_nat _ _ (by omega) h2]; congr 1; omega
  · exact bits_xor_u64_nat _ _ h0 (Nat.lt_of_le_of_lt Nat.and_le_right h2)

theorem chi_lt {B : List Nat} (h : ∀ x ∈ B, x < 18446744073709551616) (i : Nat) : chi B i < 18446744073709551616 := by
  unfold chi
  exact xor64 (lat_lt64 h _) (Nat.lt_of_le_of_lt Nat.and_le_right (lat_lt64 h _))

theorem own_mono {w : World} {base base' : Nat} {e : TypeId} {v : Value} {n : Nat} {xs : List Value} (h : w.ownsRow base e 1 v n xs) (hb : base' ≤ base) : w.ownsRow base' e 1 v n xs :=
  ⟨h.1, h.2.imp id fun ⟨g, cap, cur, a, b, r⟩ => ⟨g, cap, cur, a, Nat.le_trans hb b, r⟩⟩

def RoundPost (r : List Nat) (w : World) (e : Ending) (w' : World) : Prop := ∃ v, e = .returned v ∧ w'.ownsRow w.heap.size 36 1 v 25 (uv r) ∧ Below w.heap.size w w'

set_option maxRecDepth 100000 in
set_option maxHeartbeats 4000000 in
theorem roundR (va : Value) (a : List Nat) (c : Nat) (w : World) (hr : Row w w.heap.size va (uv a)) (ha : lanes a) (hc : c < 18446744073709551616) :
    Calls Tryd.prog 27 #[va, .int .u64 c] w (RoundPost (roundL a c) w) := by
  have hmk := mk25
  obtain ⟨i0, hi0, hz0, hz1, hz2⟩ := info_parts info35
  obtain ⟨A, cap, rfl, hA⟩ := hr
  obtain ⟨ha25, hal⟩ := ha
  rw [uv_length, ha25] at hA
  rw [uv_length, ha25]
  obtain ⟨b, off, rfl, hb, hcl⟩ := hA (by omega)
  have hcell : ∀ i, i < 25 → w.cell? ⟨b, off + i, none⟩ = some (.int .u64 (lat a i : Nat)) := fun i hi => by rw [hcl i hi, uv_at a i (by omega)]
  have HC := Lib.hid hcell; clear hcell hcl hA
  have HAL := Lib.hid hal; clear hal
  have HCc := Lib.hid hc; clear hc
  go_enter Tryd.func27, Tryd.ntmps27
  go_wp2_with fail
  go_loopw [5, 6] (fun p i wr => ∃ k : Nat, k ≤ 5 ∧ i = .int .i64 k ∧ wr.ownsRow w.heap.size 36 1 p k (uv ((List.range k).map (par a))) ∧ Below w.heap.size w wr) (fun _ i _ => 5 - (intOf i).toNat)
  case atStart => exact ⟨0, by omega, rfl, World.ownsRow_nil _ _ _ _, Below.refl _ _⟩
  case round =>
    obtain ⟨k, hk, rfl, hown, hB⟩ := hrel
    have hbs := hB.size
    by_cases hlt : k < 5
    · obtain ⟨b1, b2, b3, x1, x2, x3, x4⟩ := par_eqs HAL.out k
      have c0 := (hB.cell (p := ⟨b, off + k, none⟩) hb).trans (HC.out k (by omega))
      have c1 := (hB.cell (p := ⟨b, off + (k + 5), none⟩) hb).trans (HC.out (k + 5) (by omega))
      have c2 := (hB.cell (p := ⟨b, off + (k + 10), none⟩) hb).trans (HC.out (k + 10) (by omega))
      have c3 := (hB.cell (p := ⟨b, off + (k + 15), none⟩) hb).trans (HC.out (k + 15) (by omega))
      have c4 := (hB.cell (p := ⟨b, off + (k + 20), none⟩) hb).trans (HC.out (k + 20) (by omega))
      have HR := Lib.hid (range_succ_map (par a) k)
      obtain ⟨l0, h0⟩ : ∃ n, lat a k = n := ⟨_, rfl⟩
      obtain ⟨l1, h1⟩ : ∃ n, lat a (k + 5) = n := ⟨_, rfl⟩
      obtain ⟨l2, h2⟩ : ∃ n, lat a (k + 10) = n := ⟨_, rfl⟩
      obtain ⟨l3, h3⟩ : ∃ n, lat a (k + 15) = n := ⟨_, rfl⟩
      obtain ⟨l4, h4⟩ : ∃ n, lat a (k + 20) = n := ⟨_, rfl⟩
      rw [h0] at x1 c0
      rw [h1] at x1 c1
      rw [h2] at x2 c2
      rw [h3] at x3 c3
      rw [h4] at x4 c4
      clear h0 h1 h2 h3 h4
      obtain ⟨pk, hpk⟩ : ∃ n, par a k = n := ⟨_, rfl⟩
      rw [hpk] at x4 HR
      clear hpk
      have q0 : (0 : Int) ≤ k := by omega
      have q1 : IntKind.i64.wrap ((k : Int) + 5) = k + 5 := IntWalk.i64_in _ (by omega)
      have q2 : IntKind.i64.wrap ((k : Int) + 10) = k + 10 := IntWalk.i64_in _ (by omega)
      have q3 : IntKind.i64.wrap ((k : Int) + 15) = k + 15 := IntWalk.i64_in _ (by omega)
      have q4 : IntKind.i64.wrap ((k : Int) + 20) = k + 20 := IntWalk.i64_in _ (by omega)
      have r0 : (k : Int) < 25 := by omega
      have r1 : (k : Int) + 5 < 25 := by omega
      have r2 : (k : Int) + 10 < 25 := by omega
      have r3 : (k : Int) + 15 < 25 := by omega
      have r4 : (k : Int) + 20 < 25 := by omega
      have s1 : ((k : Int) + 5).toNat = k + 5 := by omega
      have s2 : ((k : Int) + 10).toNat = k + 10 := by omega
      have s3 : ((k : Int) + 15).toNat = k + 15 := by omega
      have s4 : ((k : Int) + 20).toNat = k + 20 := by omega
      have t1 : (0 : Int) ≤ (k : Int) + 5 := by omega
      have t2 : (0 : Int) ≤ (k : Int) + 10 := by omega
      have t3 : (0 : Int) ≤ (k : Int) + 15 := by omega
      have t4 : (0 : Int) ≤ (k : Int) + 20 := by omega
      go_wp2_with fail
      first | (go_region_held3 (fun w' => w'.cell? ⟨b, off + k, none⟩ = some (.int .u64 l0) ∧ w'.cell? ⟨b, off + (k + 5), none⟩ = some (.int .u64 l1) ∧ w'.cell? ⟨b, off + (k + 10), none⟩ = some (.int .u64 l2) ∧ w'.cell? ⟨b, off + (k + 15), none⟩ = some (.int .u64 l3) ∧ w'.cell? ⟨b, off + (k + 20), none⟩ = some (.int .u64 l4))
          (first | go_keep | (go_split_ands; refine ⟨?_, ?_, ?_, ?_, ?_⟩ <;> (rw [hgrow3.cell_far _ (by simp; omega) (own_ne hown hb)]; assumption)))
          ((refine step_append_lies _ (by rfl) _ _ _ (by rfl) w.heap.size 36 i0 (.int .u64 0) 1 8 Tryd.underlying41 hi0 hz0 hz1 hz2 rfl (by omega) _ _ _ (by rfl) ((hown.alloc _).drew) ⟨wr.heap.size, 0, none⟩ 1 1 [.int .u64 pk] (by rfl) (by rfl) (World.news_of_block (cs := #[.int .u64 pk]) (t := 36) (fr := (0, 0)) (heap_alloc_new wr _)) (by simp [Value.oneCell']) (by omega) (by unfold maxLen; omega) (by omega) (by simp; omega) (wr.heap.size + 1) (by simp) ?_; intro gg cap w3 hown3 hgrow3 hat3 hlt3))) | fail
      clear x1 x2 x3 x4 q1 q2 q3 q4 s1 s2 s3 s4
      go_wp2_with fail
      go_roundw
      case rel => exact ⟨k + 1, by omega, by go_num, by rw [HR.out, uv_append]; exact hown3, ((hB.alloc hbs _).drew).grown hgrow3 (by simp; omega) (fun k hk => (hown.lt k hk).1)⟩
      case measure => simp [intOf]; omega
    · obtain rfl : k = 5 := by omega
      rw [show (((5 : Nat) : Int)) = 5 from rfl]
      obtain ⟨w1, rfl⟩ : ∃ w1 : World, w1 = wr := ⟨_, rfl⟩
      obtain ⟨P, hP⟩ : ∃ P, (List.range 5).map (par a) = P := ⟨_, rfl⟩
      have hPl : P.length = 5 := by rw [← hP]; simp
      have hPlt : ∀ x ∈ P, x < 18446744073709551616 := fun x hx => by
        rw [← hP] at hx
        obtain ⟨j, _, rfl⟩ := List.mem_map.1 hx
        exact par_lt HAL.out j
      rw [hP] at hown
      have HP := Lib.hid hP; clear hP
      have HPL := Lib.hid hPlt; clear hPlt
      have hrow := Row.of_own hown
      obtain ⟨A5, cap5, rfl, hA5⟩ := hrow
      rw [uv_length, hPl] at hA5
      rw [uv_length, hPl]
      obtain ⟨b5, off5, rfl, hb5, hc5⟩ := hA5 (by omega)
      have hcell5 : ∀ i, i < 5 → w1.cell? ⟨b5, off5 + i, none⟩ = some (.int .u64 (lat P i : Nat)) := fun i hi => by rw [hc5 i hi, uv_at P i (by omega)]
      have HC5 := Lib.hid hcell5; clear hcell5 hc5 hA5 hown
      have hg0 := Blk.new w1 36 zero25
      have hB2 := hB.alloc hbs (.cells zero25 36)
      unfold zero25 at hg0 hB2
      have hat0 : BAt (w1.alloc (.cells zero25 36)) w1.heap.size a P 0 0 := ⟨zero25, Blk.new w1 36 zero25, rfl, fun j _ hd => by rcases hd with h | ⟨_, h⟩ <;> omega⟩
      unfold zero25 at hat0
      clear hg0
      have hBn := below_new w1 (.cells zero25 36)
      unfold zero25 at hBn
      obtain ⟨g, hg⟩ : ∃ g, w1.heap.size = g := ⟨_, rfl⟩
      have hbg : b < g := by omega
      rw [hg] at hat0 hBn hb5 hbs
      go_wp2_with fail
      have HGG := Lib.hid hg; clear hg
      go_loopw [8] (fun i wl => ∃ x : Nat, x ≤ 5 ∧ i = .int .i64 x ∧ BAt wl g a P x 0 ∧ Below g w1 wl) (fun i _ => 5 - (intOf i).toNat)
      case atStart => exact ⟨0, by omega, rfl, hat0, hBn⟩
      case round =>
        obtain ⟨x, hx, rfl, hat, hBl⟩ := hrel
        by_cases hx5 : x < 5
        · have hdx : decide ((x : Int) < 5) = true := by rw [decide_eq_true_iff]; omega
          go_wp2_with fail
          obtain ⟨w2, rfl⟩ : ∃ w2 : World, w2 = wr := ⟨_, rfl⟩
          go_loopw [9] (fun j wl => ∃ y : Nat, y ≤ 5 ∧ j = .int .i64 y ∧ BAt wl g a P x y ∧ Below g w1 wl) (fun j _ => 5 - (intOf j).toNat)
          case atStart => exact ⟨0, by omega, rfl, hat, hBl⟩
          case round =>
            obtain ⟨y, hy, rfl, hat, hBl⟩ := hrel
            by_cases hy5 : y < 5
            · have ca := (hBl.cell (p := ⟨b, off + (x + 5 * y), none⟩) hbg).trans ((hB.cell (p := ⟨b, off + (x + 5 * y), none⟩) hb).trans (HC.out (x + 5 * y) (by omega)))
              have cp4 := (hBl.cell (p := ⟨b5, off5 + (x + 4) % 5, none⟩) hb5).trans (HC5.out ((x + 4) % 5) (by omega))
              have cp1 := (hBl.cell (p := ⟨b5, off5 + (x + 1) % 5, none⟩) hb5).trans (HC5.out ((x + 1) % 5) (by omega))
              have hla := lat_lt64 HAL.out (x + 5 * y)
              have hl4 := lat_lt64 HPL.out ((x + 4) % 5)
              have hl1 := lat_lt64 HPL.out ((x + 1) % 5)
              have hth := theta_at a P x y hx5
              obtain ⟨va, hva⟩ : ∃ n, lat a (x + 5 * y) = n := ⟨_, rfl⟩
              obtain ⟨v4, hv4⟩ : ∃ n, lat P ((x + 4) % 5) = n := ⟨_, rfl⟩
              obtain ⟨v1, hv1⟩ : ∃ n, lat P ((x + 1) % 5) = n := ⟨_, rfl⟩
              rw [hva] at ca hla hth
              rw [hv4] at cp4 hl4 hth
              rw [hv1] at cp1 hl1 hth
              clear hva hv4 hv1
              have hr1 := rol_lt (n := 1) hl1 (by omega)
              have x1 := bits_xor_u64_nat va v4 hla hl4
              have x2 := bits_xor_u64_nat (va ^^^ v4) (rol v1 1) (xor64 hla hl4) hr1
              have hthlt : theta a P (x + 5 * y) < 18446744073709551616 := by rw [hth]; exact xor64 (xor64 hla hl4) hr1
              rw [← hth] at x2
              obtain ⟨u1, hu1⟩ : ∃ n, va ^^^ v4 = n := ⟨_, rfl⟩
              rw [hu1] at x1 x2
              have hlc := leftR (theta a P (x + 5 * y)) (lat turns (x + 5 * y))
              have hrho : rho a P (x + 5 * y) = rol (theta a P (x + 5 * y)) (lat turns (x + 5 * y)) := rfl
              rw [← hrho] at hlc
              obtain ⟨th, hthn⟩ : ∃ n, theta a P (x + 5 * y) = n := ⟨_, rfl⟩
              rw [hthn] at x2 hthlt hlc
              have HLC := Lib.hid (fun w => hlc w hthlt (turns_lt _ (by omega)))
              have HL1 := Lib.hid (fun w => left1R v1 w hl1)
              have HT := Lib.hid (fun w => turnR (x + 5 * y) w (by omega))
              clear hu1 hth hthn hrho hlc hr1 hla hl4 hl1 hthlt
              obtain ⟨r1, hr1⟩ : ∃ n, rol v1 1 = n := ⟨_, rfl⟩
              rw [hr1] at x2 HL1
              clear hr1
              have q0 : (0 : Int) ≤ x := by omega
              have q1 : IntKind.i64.wrap (5 * (y : Int)) = 5 * y := IntWalk.i64_in _ (by omega)
              have q2 : IntKind.i64.wrap ((x : Int) + 5 * y) = x + 5 * y := IntWalk.i64_in _ (by omega)
              have q3 : (0 : Int) ≤ (x : Int) + 5 * y := by omega
              have q4 : (x : Int) + 5 * y < 25 := by omega
              have q5 : ((x : Int) + 5 * y).toNat = x + 5 * y := by omega
              have q6 : IntKind.i64.wrap ((x : Int) + 4) = x + 4 := IntWalk.i64_in _ (by omega)
              have q7 : ((x : Int) + 4).tmod 5 = (x + 4) % 5 := Int.tmod_eq_emod_of_nonneg (by omega)
              have q8 : IntKind.i64.wrap (((x : Int) + 4) % 5) = (x + 4) % 5 := IntWalk.i64_in _ (by omega)
              have q9 : (0 : Int) ≤ ((x : Int) + 4) % 5 := by omega
              have q10 : ((x : Int) + 4) % 5 < 5 := by omega
              have q11 : (((x : Int) + 4) % 5).toNat = (x + 4) % 5 := by omega
              have q12 : IntKind.i64.wrap ((x : Int) + 1) = x + 1 := IntWalk.i64_in _ (by omega)
              have q13 : ((x : Int) + 1).tmod 5 = (x + 1) % 5 := Int.tmod_eq_emod_of_nonneg (by omega)
              have q14 : IntKind.i64.wrap (((x : Int) + 1) % 5) = (x + 1) % 5 := IntWalk.i64_in _ (by omega)
              have q15 : (0 : Int) ≤ ((x : Int) + 1) % 5 := by omega
              have q16 : ((x : Int) + 1) % 5 < 5 := by omega
              have q17 : (((x : Int) + 1) % 5).toNat = (x + 1) % 5 := by omega
              go_wp2_with fail
              first | (go_region_held3 (fun w' => w'.cell? ⟨b, off + (x + 5 * y), none⟩ = some (.int .u64 va) ∧ w'.cell? ⟨b5, off5 + (x + 4) % 5, none⟩ = some (.int .u64 v4) ∧ w'.cell? ⟨b5, off5 + (x + 1) % 5, none⟩ = some (.int .u64 v1))
                  (first | go_keep)
                  (first | (go_at_call 33; refine (HL1.out _).mono ?_; rintro e w' ⟨rfl, rfl⟩))) | fail
              clear q6 q7 q8 q12 q13 q14 x1 x2
              go_wp2_with fail
              refine (HT.out _).mono ?_; rintro e w4 ⟨rfl, hB4⟩
              have hB4' := below_drew hB4
              clear hB4
              obtain ⟨C, hblk, hC, hd⟩ := hat
              have hgl := hblk.lt
              have hblk4 := hblk.below hB4' hgl
              obtain ⟨cj, hcj0⟩ : ∃ v, C[y + 5 * ((2 * x + 3 * y) % 5)]? = some v := ⟨_, Array.getElem?_eq_getElem (by omega)⟩
              have hcj : w4.cell? ⟨g, y + 5 * ((2 * x + 3 * y) % 5), none⟩ = some cj := by rw [hblk4.cell]; exact hcj0
              have hfj := hblk4.free (y + 5 * ((2 * x + 3 * y) % 5))
              clear hcj0
              have HD := Lib.hid hd; clear hd
              have HBK := Lib.hid hblk4; clear hblk4 hblk
              go_wp2_with fail
              refine (HLC.out _).mono ?_; rintro e w' ⟨rfl, rfl⟩
              go_wp2_with fail
              go_roundw
              case rel =>
                exact ⟨y + 1, by omega, by go_num, BAt.step HBK.out hC HD.out hx5 hy5 rfl rfl, (hBl.trans (hB4'.mono (by omega))).setCell (Nat.le_refl _) _⟩
              case measure => simp [intOf]; omega
            · obtain rfl : y = 5 := by omega
              go_wp2_with fail
              go_roundw
              case rel => exact ⟨x + 1, by omega, by go_num, hat.turn, hBl⟩
              case measure => simp [intOf]; omega
        · obtain rfl : x = 5 := by omega
          rw [show (((5 : Nat) : Int)) = 5 from rfl]
          have hall := fun j hj => hat.all (j := j) hj
          have hBlt := bL_lt HAL.out HPL.out
          obtain ⟨w3, rfl⟩ : ∃ w3 : World, w3 = wr := ⟨_, rfl⟩
          have hg3 := hat.lt
          have hB3 := hB.trans (hBl.mono hbs)
          obtain ⟨B, hBB⟩ : ∃ B, bL a P = B := ⟨_, rfl⟩
          rw [hBB] at hBlt
          simp only [hBB] at hall
          have HBB := Lib.hid hBB; clear hBB
          have HALL := Lib.hid hall; clear hall hat
          have HBL := Lib.hid hBlt; clear hBlt
          go_wp2_with fail
          go_loopw [11, 12] (fun o i wl => ∃ y : Nat, y ≤ 5 ∧ i = .int .i64 y ∧ wl.ownsRow w3.heap.size 36 1 o (5 * y) (uv ((List.range (5 * y)).map (chi B))) ∧ Below w3.heap.size w3 wl) (fun _ i _ => 5 - (intOf i).toNat)
          case atStart => exact ⟨0, by omega, rfl, World.ownsRow_nil _ _ _ _, Below.refl _ _⟩
          case round =>
            obtain ⟨y, hy, rfl, hown, hBw⟩ := hrel
            by_cases hy5 : y < 5
            · have hdy : decide ((y : Int) < 5) = true := by rw [decide_eq_true_iff]; omega
              go_wp2_with fail
              obtain ⟨w4, rfl⟩ : ∃ w4 : World, w4 = wr := ⟨_, rfl⟩
              go_loopw [11, 13] (fun o i wl => ∃ x : Nat, x ≤ 5 ∧ i = .int .i64 x ∧ wl.ownsRow w3.heap.size 36 1 o (x + 5 * y) (uv ((List.range (x + 5 * y)).map (chi B))) ∧ Below w3.heap.size w3 wl) (fun _ i _ => 5 - (intOf i).toNat)
              case atStart => exact ⟨0, by omega, rfl, by rw [Nat.zero_add]; exact hown, hBw⟩
              case round =>
                obtain ⟨x, hx, rfl, hown, hBw⟩ := hrel
                have hbw := hBw.size
                by_cases hx5 : x < 5
                · have c0 := (hBw.cell (p := ⟨g, x + 5 * y, none⟩) hg3).trans (HALL.out (x + 5 * y) (by omega))
                  have c1 := (hBw.cell (p := ⟨g, (x + 1) % 5 + 5 * y, none⟩) hg3).trans (HALL.out ((x + 1) % 5 + 5 * y) (by omega))
                  have c2 := (hBw.cell (p := ⟨g, (x + 2) % 5 + 5 * y, none⟩) hg3).trans (HALL.out ((x + 2) % 5 + 5 * y) (by omega))
                  have hl0 := lat_lt64 HBL.out (x + 5 * y)
                  have hl1 := lat_lt64 HBL.out ((x + 1) % 5 + 5 * y)
                  have hl2 := lat_lt64 HBL.out ((x + 2) % 5 + 5 * y)
                  have hch := chi_at B x y hx5
                  have HR := Lib.hid (range_succ_map (chi B) (x + 5 * y))
                  obtain ⟨n0, hn0⟩ : ∃ n, lat B (x + 5 * y) = n := ⟨_, rfl⟩
                  obtain ⟨n1, hn1⟩ : ∃ n, lat B ((x + 1) % 5 + 5 * y) = n := ⟨_, rfl⟩
                  obtain ⟨n2, hn2⟩ : ∃ n, lat B ((x + 2) % 5 + 5 * y) = n := ⟨_, rfl⟩
                  rw [hn0] at c0 hl0 hch
                  rw [hn1] at c1 hl1 hch
                  rw [hn2] at c2 hl2 hch
                  clear hn0 hn1 hn2
                  obtain ⟨v, x1, x2⟩ := chi_eqs hl0 hl1 hl2
                  rw [← hch] at x2
                  obtain ⟨ch, hchn⟩ : ∃ n, chi B (x + 5 * y) = n := ⟨_, rfl⟩
                  rw [hchn] at x2 HR
                  clear hch hchn hl0 hl2
                  have q0 : (0 : Int) ≤ x := by omega
                  have q1 : IntKind.i64.wrap (5 * (y : Int)) = 5 * y := IntWalk.i64_in _ (by omega)
                  have q2 : IntKind.i64.wrap ((x : Int) + 5 * y) = x + 5 * y := IntWalk.i64_in _ (by omega)
                  have q3 : (0 : Int) ≤ (x : Int) + 5 * y := by omega
                  have q4 : (x : Int) + 5 * y < 25 := by omega
                  have q5 : ((x : Int) + 5 * y).toNat = x + 5 * y := by omega
                  have q6 : IntKind.i64.wrap ((x : Int) + 2) = x + 2 := IntWalk.i64_in _ (by omega)
                  have q7 : ((x : Int) + 2).tmod 5 = (x + 2) % 5 := Int.tmod_eq_emod_of_nonneg (by omega)
                  have q8 : IntKind.i64.wrap (((x : Int) + 2) % 5) = (x + 2) % 5 := IntWalk.i64_in _ (by omega)
                  have q8b : IntKind.i64.wrap (((x : Int) + 2) % 5 + 5 * y) = (x + 2) % 5 + 5 * y := IntWalk.i64_in _ (by omega)
                  have q9 : (0 : Int) ≤ ((x : Int) + 2) % 5 + 5 * y := by omega
                  have q10 : ((x : Int) + 2) % 5 + 5 * y < 25 := by omega
                  have q11 : (((x : Int) + 2) % 5 + 5 * y).toNat = (x + 2) % 5 + 5 * y := by omega
                  have q12 : (((x : Int) + 1) % 5 + 5 * y).toNat = (x + 1) % 5 + 5 * y := by omega
                  go_wp2_with fail
                  first | (go_region_held3 (fun w' => w'.cell? ⟨g, x + 5 * y, none⟩ = some (.int .u64 n0) ∧ w'.cell? ⟨g, (x + 2) % 5 + 5 * y, none⟩ = some (.int .u64 n2))
                      (first | go_keep | (go_split_ands; refine ⟨?_, ?_⟩ <;> (rw [hgrow3.cell_far _ (by simp; omega) (own_ne hown hg3)]; assumption)))
                      ((refine step_append_lies _ (by rfl) _ _ _ (by rfl) w3.heap.size 36 i0 (.int .u64 0) 1 8 Tryd.underlying41 hi0 hz0 hz1 hz2 rfl (by omega) _ _ _ (by rfl) ((hown.alloc _).drew) ⟨wr.heap.size, 0, none⟩ 1 1 [.int .u64 ch] (by rfl) (by rfl) (World.news_of_block (cs := #[.int .u64 ch]) (t := 36) (fr := (0, 0)) (heap_alloc_new wr _)) (by simp [Value.oneCell']) (by omega) (by unfold maxLen; omega) (by omega) (by simp; omega) (wr.heap.size + 1) (by simp) ?_; intro gg cap w6 hown3 hgrow3 hat3 hlt3))) | fail
                  clear x1 x2 q1 q2 q6 q7 q8 q8b
                  go_wp2_with fail
                  go_roundw
                  case rel => exact ⟨x + 1, by omega, by go_num, by rw [show x + 1 + 5 * y = x + 5 * y + 1 by omega, HR.out, uv_append]; exact hown3, ((hBw.alloc hbw _).drew).grown hgrow3 (by simp; omega) (fun k hk => (hown.lt k hk).1)⟩
                  case measure => simp [intOf]; omega
                · obtain rfl : x = 5 := by omega
                  go_wp2_with fail
                  go_roundw
                  case rel => exact ⟨y + 1, by omega, by go_num, by rw [show 5 * (y + 1) = 5 + 5 * y by omega]; exact hown, hBw⟩
                  case measure => simp [intOf]; omega
            · obtain rfl : y = 5 := by omega
              have hown : wr.ownsRow w3.heap.size 36 1 u11 25 (uv (chiL B)) := hown
              obtain ⟨go, cap', hv, hbo, hlo⟩ := hown.form (by omega)
              subst hv
              have hB0 := chi_lt HBL.out 0
              have hx0 := bits_xor_u64_nat (chi B 0) c hB0 HCc.out
              have c0 : wr.cell? ⟨go, 0, none⟩ = some (.int .u64 (chi B 0 : Nat)) := by
                rw [hown.cellAt 0 (by omega), uv_at _ _ (by simp [chiL])]
                unfold chiL; rw [lat_map _ _ _ (by omega)]
              have f0 := hown.frozenAt 0
              obtain ⟨hst, hgst⟩ := hown.stored 0 (.int .u64 (chi B 0 ^^^ c : Nat))
              have HST := Lib.hid hst; clear hst
              have HGS := Lib.hid hgst; clear hgst
              have HRR : Hid (uv (roundL a c) = (uv (chiL B)).set 0 (.int .u64 (chi B 0 ^^^ c : Nat))) := by
                show _ = _
                unfold roundL
                rw [show parL a = P from HP.out, HBB.out]
                simp [uv, List.map_set]
              obtain ⟨ch, hch⟩ : ∃ n, chi B 0 = n := ⟨_, rfl⟩
              obtain ⟨cx, hcx⟩ : ∃ n, ch ^^^ c = n := ⟨_, rfl⟩
              rw [hch] at hx0 c0 HST HGS HRR
              rw [hcx] at hx0 HST HGS HRR
              clear hch hcx hB0
              go_wp2_with fail
              go_ret
              refine ⟨_, rfl, ?_, ?_⟩
              · rw [HRR.out]; exact own_mono HST.out hB3.size
              · exact (hB3.trans (hBw.mono hB3.size)).setCell (Nat.le_trans hB3.size hbo) _
end Go.Proofs.YtcekmedfphmpcaaDoor
