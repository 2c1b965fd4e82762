/-
  Contract of the reference's Sum.
-/
import Derived.Test.YtcekmedfphmpcaaDoorOwnB
import Derived.Test.YtcekmedfphmpcaaDoorKecRef
import Derived.Test.YtcekmedfphmpcaaDoorRound
namespace Go.Proofs.YtcekmedfphmpcaaDoor
set_option linter.unusedVariables false
set_option linter.unusedSimpArgs false
open Go.RowKit

def slen : Value → Nat | .slice _ n _ => n | _ => 0
theorem OwnB.form {w : World} {base : Nat} {v : Value} {l : List UInt8} (h : OwnB w base v l) (h0 : 0 < l.length) : ∃ g cap, v = .slice (some ⟨g, 0, none⟩) l.length cap ∧ base ≤ g ∧ g < w.heap.size := by
  rcases h with ⟨_, rfl⟩ | ⟨g, cap, cur, fz, rfl, hb, hg, _⟩
  · simp at h0
  · exact ⟨g, cap, rfl, hb, (Array.getElem?_eq_some_iff.1 hg).1⟩
theorem OwnB.cellAt {w : World} {base g cap : Nat} {l : List UInt8} (h : OwnB w base (.slice (some ⟨g, 0, none⟩) l.length cap) l) (k : Nat) (hk : k < l.length) : w.cell? ⟨g, k, none⟩ = some (.int .u8 l[k].toNat) ∧ w.frozen? ⟨g, k, none⟩ = false := by
  rcases h with ⟨h, _⟩ | ⟨g', cap', cur, fz, hv, hb, hg, hfz, hlc, _, hcs, htake⟩
  · simp at h
  · simp only [Value.slice.injEq, Option.some.injEq, Addr.mk.injEq, and_true, true_and] at hv
    obtain ⟨rfl, rfl⟩ := hv
    constructor
    · rw [cell_of_row w g k cur _ fz hg]
      have : (cl l)[k]? = some (.int .u8 l[k].toNat) := by simp [cl, hk]
      rw [← htake, List.getElem?_take, if_pos hk] at this
      simpa using this
    · simp only [World.frozen?, hg]
      rcases hfz with rfl | h2
      · simp
      · simp; omega
theorem OwnB.stored {w : World} {base g cap : Nat} {l : List UInt8} (h : OwnB w base (.slice (some ⟨g, 0, none⟩) l.length cap) l) (k : Nat) (hk : k < l.length) (u : UInt8) : OwnB (w.setCell ⟨g, k, none⟩ (.int .u8 u.toNat)) base (.slice (some ⟨g, 0, none⟩) l.length cap) (l.set k u) := by
  rcases h with ⟨h, _⟩ | ⟨g', cap', cur, fz, hv, hb, hg, hfz, hlc, hcm, hcs, htake⟩
  · simp at h
  · simp only [Value.slice.injEq, Option.some.injEq, Addr.mk.injEq, and_true, true_and] at hv
    obtain ⟨rfl, rfl⟩ := hv
    refine .inr ⟨g, cap, cur.setIfInBounds k (.int .u8 u.toNat), fz, by simp, hb, ?_, by simpa using hfz, by simpa using hlc, hcm, by simpa using hcs, ?_⟩
    · simp [World.setCell, Array.getElem?_modify, hg]
    · rw [List.length_set, Array.toList_setIfInBounds, List.take_set, htake]
      simp [cl, List.map_set]

/-- The padded string. -/
def zs (l : List UInt8) : Nat := (136 - (l.length + 1) % 136) % 136
def padA (l : List UInt8) (z : Nat) : List UInt8 := l ++ [6] ++ List.replicate z 0
def padB (l : List UInt8) : List UInt8 := (padA l (zs l)).set (l.length + zs l) (UInt8.ofNat (lat (nl (padA l (zs l))) (l.length + zs l) + 128))
theorem padA_length (l : List UInt8) (z : Nat) : (padA l z).length = l.length + 1 + z := by simp [padA]; omega
theorem padB_length (l : List UInt8) : (padB l).length = l.length + 1 + zs l := by unfold padB; rw [List.length_set, padA_length]
theorem padB_mod (l : List UInt8) : (padB l).length % 136 = 0 := by rw [padB_length]; unfold zs; omega
theorem padA_succ (l : List UInt8) (z : Nat) : padA l (z + 1) = padA l z ++ [0] := by unfold padA; rw [List.replicate_succ', List.append_assoc, List.append_assoc, List.append_assoc]
theorem padA_last (l : List UInt8) (z : Nat) : lat (nl (padA l z)) (l.length + z) ≤ 6 := by
  unfold padA lat nl
  rw [List.getD_eq_getElem?_getD, List.getElem?_map]
  by_cases hz : z = 0
  · subst hz; simp
  · rw [List.getElem?_append_right (by simp; omega)]
    simp only [List.length_append, List.length_singleton]
    rw [List.getElem?_replicate]
    split <;> simp
theorem padB_nl (l : List UInt8) : nl (padB l) = padded (nl l) := by
  have h6 := padA_last l (zs l)
  have e : nl (padA l (zs l)) = nl l ++ [6] ++ List.replicate ((136 - ((nl l).length + 1) % 136) % 136) 0 := by
    rw [nl_length]; simp [padA, nl, zs]
  unfold padB padded
  simp only
  rw [← e]
  have hlen : (nl (padA l (zs l))).length - 1 = l.length + zs l := by rw [nl_length, padA_length]; omega
  rw [hlen]
  have e2 : ∀ (m : List UInt8) (i : Nat) (b : UInt8), nl (m.set i b) = (nl m).set i b.toNat := fun m i b => by simp [nl, List.map_set]
  rw [e2, u8_of (by omega)]

theorem conv_pad (w : World) (l : List UInt8) (hl : l.length ≤ 100000) : ∃ v w', (convert 9 30 (.string (bs l))).run Tryd.prog w = .ok v w' ∧ OwnB w' w.heap.size v l ∧ Below w.heap.size w w' := conv_bytes w l (by unfold maxLen; omega)

/-- The state with the first i lanes of a block taken in. -/
def takeIn (A L : List Nat) (p i : Nat) : List Nat := (List.range 25).map fun j => if j < i then lat A j ^^^ laneOf L (p + 8 * j) else lat A j
theorem takeIn_zero {A : List Nat} (h : A.length = 25) (L : List Nat) (p : Nat) : takeIn A L p 0 = A := by
  apply List.ext_getElem
  · simp [takeIn, h]
  · intro j h1 h2
    simp [takeIn, lat, List.getD_eq_getElem?_getD, h2]
theorem lat_takeIn (A L : List Nat) (p i j : Nat) (hj : j < 25) : lat (takeIn A L p i) j = if j < i then lat A j ^^^ laneOf L (p + 8 * j) else lat A j := lat_map _ _ _ hj
theorem takeIn_succ (A L : List Nat) (p i : Nat) (hi : i < 25) : takeIn A L p (i + 1) = (takeIn A L p i).set i (lat (takeIn A L p i) i ^^^ laneOf L (p + 8 * i)) := by
  apply List.ext_getElem
  · simp [takeIn]
  · intro j h1 h2
    have hj : j < 25 := by simpa [takeIn] using h1
    rw [List.getElem_set]
    have e1 : ∀ n, (takeIn A L p n)[j]'(by simp [takeIn]; exact hj) = if j < n then lat A j ^^^ laneOf L (p + 8 * j) else lat A j := fun n => by simp [takeIn]
    by_cases e : i = j
    · subst e
      rw [if_pos rfl, e1, if_pos (by omega), lat_takeIn _ _ _ _ _ hi, if_neg (by omega)]
    · rw [if_neg e, e1, e1]
      by_cases hlt : j < i
      · rw [if_pos (by omega), if_pos hlt]
      · rw [if_neg (by omega), if_neg hlt]
theorem absorb_takeIn (A L : List Nat) (p : Nat) : absorb A L p = permL (takeIn A L p 17) := rfl
theorem laneOf_lt (l : List UInt8) (p : Nat) : laneOf (nl l) p < 18446744073709551616 := by
  unfold laneOf
  have h := le8_lt (((nl l).drop p).take 8) (fun x hx => by
    have hx2 := List.mem_of_mem_drop (List.mem_of_mem_take hx)
    obtain ⟨c, _, rfl⟩ := List.mem_map.1 hx2
    exact c.toNat_lt)
  have h2 : (256 : Nat) ^ (((nl l).drop p).take 8).length ≤ 256 ^ 8 := Nat.pow_le_pow_right (by omega) (by simp; omega)
  omega
theorem lanes_takeIn {A : List Nat} (h : lanes A) (l : List UInt8) (p i : Nat) : lanes (takeIn A (nl l) p i) := by
  refine ⟨by simp [takeIn], fun x hx => ?_⟩
  obtain ⟨j, _, rfl⟩ := List.mem_map.1 hx
  split
  · exact xor64 (lat_lt64 h.2 _) (laneOf_lt l _)
  · exact lat_lt64 h.2 _
theorem lanes_round {A : List Nat} (h : lanes A) {c : Nat} (hc : c < 18446744073709551616) : lanes (roundL A c) := by
  have hP : ∀ x ∈ parL A, x < 18446744073709551616 := fun x hx => by
    obtain ⟨j, _, rfl⟩ := List.mem_map.1 hx
    exact par_lt h.2 j
  have hB := bL_lt h.2 hP
  refine ⟨roundL_length A c, fun x hx => ?_⟩
  rcases List.mem_or_eq_of_mem_set hx with h1 | h1
  · obtain ⟨j, _, rfl⟩ := List.mem_map.1 h1
    exact chi_lt hB j
  · rw [h1]; exact xor64 (chi_lt hB 0) hc
theorem consts_lt (r : Nat) : lat consts r < 18446744073709551616 := lat_lt64 (by decide +kernel) r
theorem consts_take (A : List Nat) (r : Nat) (h : r < 24) : (consts.take (r + 1)).foldl roundL A = roundL ((consts.take r).foldl roundL A) (lat consts r) := by
  have hr : r < consts.length := h
  rw [List.take_succ_eq_append_getElem hr, List.foldl_append]
  have e : consts[r] = lat consts r := by simp [lat, List.getD_eq_getElem?_getD, hr]
  rw [e]; rfl
theorem range_foldl_succ {α : Type} (f : α → Nat → α) (a : α) (k : Nat) : (List.range (k + 1)).foldl f a = f ((List.range k).foldl f a) k := by rw [List.range_succ, List.foldl_append]; rfl

/-- The bytes that are laid out behind i lanes and k bytes of the next one. -/
def outB (A : List Nat) (i k X : Nat) : List UInt8 := (((A.take i).flatMap bytes8) ++ (List.range k).map fun k => X / 256 ^ k % 256).map UInt8.ofNat
theorem outB_length {A : List Nat} (h : A.length = 25) (i k X : Nat) (hi : i ≤ 25) : (outB A i k X).length = 8 * i + k := by
  unfold outB
  rw [List.length_map, List.length_append, flat_bytes8, List.length_take, List.length_map, List.length_range, h]; omega
theorem outB_succ (A : List Nat) (i k X : Nat) : outB A i (k + 1) X = outB A i k X ++ [UInt8.ofNat (X / 256 ^ k % 256)] := by
  unfold outB; rw [range_succ_map, ← List.append_assoc, List.map_append]; rfl
theorem outB_turn {A : List Nat} (h : A.length = 25) (i X : Nat) (hi : i < 25) : outB A i 8 (lat A i) = outB A (i + 1) 0 X := by
  unfold outB
  have e : A[i]'(by omega) = lat A i := by simp [lat, List.getD_eq_getElem?_getD, h, hi]
  rw [List.take_succ_eq_append_getElem (by omega), List.flatMap_append, e]
  simp [bytes8]
theorem outB_zero (A : List Nat) (i X Y : Nat) : outB A i 0 X = outB A i 0 Y := rfl
theorem outB_end (A : List Nat) (X : Nat) (l : List Nat) (h : A = sponge (padded l)) : outB A 4 0 X = (sumN l).map UInt8.ofNat := by
  unfold outB sumN; rw [← h]; simp

def SumPost (l : List UInt8) (w : World) (e : Ending) (w' : World) : Prop := e = .returned (.string (bs ((sumN (nl l)).map UInt8.ofNat))) ∧ Below w.heap.size w w'

set_option maxRecDepth 100000 in
set_option maxHeartbeats 4000000 in
theorem sumR (l : List UInt8) (w : World) (hl : l.length ≤ 100000) :
    Calls Tryd.prog 13 #[.string (bs l)] w (SumPost l w) := by
  have hmk := mk25
  obtain ⟨j0, hj0, hy0, hy1, hy2⟩ := info_parts info5
  obtain ⟨v0, w0, hcv, hown0, hB0⟩ := conv_pad w l hl
  obtain ⟨s, hS⟩ : ∃ s, bs l = s := ⟨_, rfl⟩
  rw [hS] at hcv
  rw [hS]
  have HS := Lib.hid hS; clear hS
  have hlt0 := hB0.size
  go_enter Tryd.func13, Tryd.ntmps13
  go_wp2_with (at_builtin; refine wpList_append1 rfl _ _ rfl rfl w.heap.size _ l rfl (hown0.below (below_new w0 _) (fun k hk => (hown0.lt k hk).2)) ⟨w0.heap.size, 0, none⟩ 1 6 rfl (cell_one_new _ _ _ 0 _ rfl) (by omega) (by simp; omega) ?_; intro v1 w1 hown1 hg1)
  have hB1 := (hB0.alloc hlt0 _).grown hg1 (by simp; omega) (fun k hk => (hown0.lt k hk).1)
  clear hcv hg1
  go_loopw [3] (fun b wr => ∃ z : Nat, z ≤ zs l ∧ OwnB wr w.heap.size b (padA l z) ∧ Below w.heap.size w wr) (fun b _ => l.length + 1 + zs l - slen b)
  case atStart => exact ⟨0, by omega, by simpa [padA] using hown1, hB1⟩
  case round =>
    obtain ⟨z, hz, hown, hB⟩ := hrel
    have hbs := hB.size
    obtain ⟨g, cap, rfl, hgb, hgl⟩ := hown.form (by rw [padA_length]; omega)
    obtain ⟨N, hN⟩ : ∃ N, (padA l z).length = N := ⟨_, rfl⟩
    have hN2 : N = l.length + 1 + z := by rw [← hN, padA_length]
    rw [hN] at hown
    rw [hN]
    have HN := Lib.hid hN; clear hN
    have hZ : zs l = (136 - (l.length + 1) % 136) % 136 := rfl
    have hNle : N ≤ 200000 := by omega
    by_cases hlt : z < zs l
    · have hne : (((N : Int) % 136) != 0) = true := by simp; omega
      have HM : Hid (l.length + 1 + zs l - (N + 1) < l.length + 1 + zs l - N) := by show _ < _; omega
      have HZ := Lib.hid hZ; clear hZ
      have HN2 := Lib.hid hN2; clear hN2
      go_wp2_with (at_builtin; refine wpList_append1 rfl _ _ rfl rfl w.heap.size _ (padA l z) rfl (hown.below (below_new wr _) (fun k hk => (hown.lt k hk).2)) ⟨wr.heap.size, 0, none⟩ 1 0 rfl (cell_one_new _ _ _ 0 _ rfl) (by rw [HN.out]; omega) (by simp; omega) ?_; intro v' w3 hown3 hg3)
      obtain ⟨g', cap', rfl, _, _⟩ := hown3.form (by simp)
      have hlen3 : (padA l z ++ [0]).length = N + 1 := by rw [List.length_append, HN.out]; rfl
      go_roundw
      case rel => exact ⟨z + 1, by omega, by rw [padA_succ]; exact hown3, (hB.alloc hbs _).grown hg3 (by simp; omega) (fun k hk => (hown.lt k hk).1)⟩
      case measure => simp only [slen]; rw [hlen3]; exact HM.out
    · obtain rfl : z = zs l := by omega
      have heq : (((N : Int) % 136) != 0) = false := by simp; omega
      have HZ := Lib.hid hZ; clear hZ
      have HN2 := Lib.hid hN2; clear hN2
      have hN1 : 1 ≤ N := by have := HN2.out; omega
      obtain ⟨hcell, hfro⟩ := OwnB.cellAt (by rw [HN.out]; exact hown) (N - 1) (by rw [HN.out]; omega)
      have hlast : lat (nl (padA l (zs l))) (N - 1) ≤ 6 := by have h := padA_last l (zs l); rw [show l.length + zs l = N - 1 by have := HN2.out; omega] at h; exact h
      have hpb : padB l = (padA l (zs l)).set (N - 1) (UInt8.ofNat (lat (nl (padA l (zs l))) (N - 1) + 128)) := by
        unfold padB; rw [show l.length + zs l = N - 1 by have := HN2.out; omega]
      have hxl : lat (nl (padA l (zs l))) (N - 1) = ((padA l (zs l))[N - 1]'(by rw [HN.out]; omega)).toNat := by
        simp [lat, nl, List.getD_eq_getElem?_getD, List.getElem?_eq_getElem (show N - 1 < (padA l (zs l)).length by rw [HN.out]; omega)]
      rw [hxl] at hlast hpb
      obtain ⟨x, hx⟩ : ∃ x, (padA l (zs l))[N - 1]'(by rw [HN.out]; omega) = x := ⟨_, rfl⟩
      rw [hx] at hlast hpb hcell
      clear hxl hx
      obtain ⟨y, hyy⟩ : ∃ y, UInt8.ofNat (x.toNat + 128) = y := ⟨_, rfl⟩
      have hyv : ((x.toNat : Int) + 128) % 256 = (y.toNat : Int) := by rw [← hyy, u8_of (by omega)]; omega
      rw [hyy] at hpb
      have hst := OwnB.stored (by rw [HN.out]; exact hown) (N - 1) (by rw [HN.out]; omega) y
      rw [← hpb, HN.out] at hst
      have hrow := hst.row
      have HPN : Hid ((padB l).length = N) := by show _ = _; rw [padB_length]; have := HN2.out; omega
      clear hlast hyy hpb
      obtain ⟨w1, rfl⟩ : ∃ w1 : World, w1 = wr := ⟨_, rfl⟩
      have hBs := hB.setCell (p := ⟨g, N - 1, none⟩) hgb (.int .u8 y.toNat)
      have hsz1 : (w1.setCell ⟨g, N - 1, none⟩ (.int .u8 y.toNat)).heap.size = w1.heap.size := by simp [World.setCell]
      have HRW := Lib.hid hrow; clear hrow hst
      have hown5 := World.ownsRow_lit (base := w1.heap.size) (e := 36) (size := 1) (w1.setCell ⟨g, N - 1, none⟩ (.int .u8 y.toNat)) zero25 25 (by rw [hsz1]; exact Nat.le_refl _) (by unfold maxLen; omega) rfl
      rw [hsz1] at hown5
      have hz25 : zero25.toList = uv (List.replicate 25 0) := rfl
      rw [hz25] at hown5
      have hB5 : Below w.heap.size w ((w1.setCell ⟨g, N - 1, none⟩ (.int .u8 y.toNat)).alloc (.cells zero25 36)) := hBs.alloc (by rw [hsz1]; exact hbs) _
      have hS5 : Below w1.heap.size (w1.setCell ⟨g, N - 1, none⟩ (.int .u8 y.toNat)) ((w1.setCell ⟨g, N - 1, none⟩ (.int .u8 y.toNat)).alloc (.cells zero25 36)) := (Below.refl _ _).alloc (by rw [hsz1]; exact Nat.le_refl _) _
      obtain ⟨wS, hwS⟩ : ∃ wS, w1.setCell ⟨g, N - 1, none⟩ (.int .u8 y.toNat) = wS := ⟨_, rfl⟩
      rw [hwS] at hown5 hB5 hS5 hsz1 HRW
      unfold zero25 at hown5 hB5 hS5
      have hmod : ∃ q, N = 136 * q := ⟨N / 136, by have := padB_mod l; rw [HPN.out] at this; omega⟩
      have HW := Lib.hid hwS
      have HO5 := Lib.hid hown5; clear hown5
      go_wp2_with fail
      clear hwS hBs hyv hcell hfro heq
      obtain ⟨B5, hB55⟩ : ∃ B, w1.heap.size = B := ⟨_, rfl⟩
      rw [hB55] at HO5 hS5 hgl hbs
      rw [hB55]
      have HSZ : Hid (wS.heap.size = B5) := hsz1.trans hB55
      clear hB55 hsz1
      go_loopw [4, 5] (fun va i wl => ∃ (k : Nat) (A : List Nat), 136 * k ≤ N ∧ i = .int .i64 ((136 * k : Nat) : Int) ∧ wl.ownsRow B5 36 1 va 25 (uv A) ∧ A = (List.range k).foldl (fun a k => absorb a (nl (padB l)) (136 * k)) (List.replicate 25 0) ∧ lanes A ∧ Below B5 wS wl ∧ Below w.heap.size w wl) (fun _ i _ => N - (intOf i).toNat)
      case atStart => exact ⟨0, List.replicate 25 0, by omega, rfl, HO5.out, rfl, ⟨by simp, fun x hx => by have := List.eq_of_mem_replicate hx; omega⟩, hS5, hB5⟩
      case round =>
        obtain ⟨k, A, hk, rfl, hownA, hAk, hAl, hSw, hBw⟩ := hrel
        have HAK := Lib.hid hAk; clear hAk
        have HAL := Lib.hid hAl; clear hAl
        obtain ⟨p, hp⟩ : ∃ p, 136 * k = p := ⟨_, rfl⟩
        rw [hp] at hk
        rw [hp]
        have hdiv : p < N → p + 136 ≤ N := by obtain ⟨q, hq⟩ := hmod; intro h; omega
        have HPK := Lib.hid hp; clear hp
        by_cases hlt : p < N
        · have hp136 := hdiv hlt
          clear hdiv
          obtain ⟨ga, capa, rfl, hga, hgal⟩ := hownA.form (by omega)
          go_wp2_with fail
          obtain ⟨w2, rfl⟩ : ∃ w2 : World, w2 = wr := ⟨_, rfl⟩
          go_loopw [6] (fun i wl => ∃ n : Nat, n ≤ 17 ∧ i = .int .i64 n ∧ wl.ownsRow B5 36 1 (.slice (some ⟨ga, 0, none⟩) 25 capa) 25 (uv (takeIn A (nl (padB l)) p n)) ∧ Below B5 wS wl ∧ Below w.heap.size w wl) (fun i _ => 17 - (intOf i).toNat)
          case atStart => exact ⟨0, by omega, rfl, by rw [takeIn_zero HAL.out.1]; exact hownA, hSw, hBw⟩
          case round =>
            obtain ⟨n, hn, rfl, hown, hSw, hBw⟩ := hrel
            by_cases hn17 : n < 17
            · have hform : wr.ownsRow B5 36 1 (.slice (some ⟨ga, 0, none⟩) 25 capa) 25 (uv (takeIn A (nl (padB l)) p n)) := hown
              have ca : wr.cell? ⟨ga, n, none⟩ = some (.int .u64 (lat (takeIn A (nl (padB l)) p n) n : Nat)) := by
                rw [hown.cellAt n (by omega), uv_at _ _ (by simp [takeIn]; omega)]
              have fa := hown.frozenAt n
              have hal := lat_lt64 (lanes_takeIn HAL.out (padB l) p n).2 n
              have hll := laneOf_lt (padB l) (p + 8 * n)
              have hlane := fun (w' : World) (h : Below B5 wS w') => laneR (.slice (some ⟨g, 0, none⟩) N cap) (padB l) (p + 8 * n) w' (((HRW.out.mono (by rw [HSZ.out]; exact Nat.le_refl _)).below h).mono (Nat.le_trans (by rw [← HSZ.out]; exact Nat.le_refl _) h.size)) (by rw [HPN.out]; omega) (by rw [HPN.out]; omega)
              have HLN : Hid (∀ w', Below B5 wS w' → Calls Tryd.prog 26 #[.slice (some ⟨g, 0, none⟩) N cap, .int .i64 ((p : Int) + 8 * n)] w' fun e w'' => e = .returned (.int .u64 (laneOf (nl (padB l)) (p + 8 * n) : Nat)) ∧ w' = w'') := fun w' h => by
                have h2 := hlane w' h
                rw [show ((p + 8 * n : Nat) : Int) = (p : Int) + 8 * n by omega] at h2
                exact h2
              have hxor := bits_xor_u64_nat _ _ hal hll
              obtain ⟨hst, _⟩ := hown.stored n (.int .u64 (lat (takeIn A (nl (padB l)) p n) n ^^^ laneOf (nl (padB l)) (p + 8 * n) : Nat))
              have HTS := Lib.hid (takeIn_succ A (nl (padB l)) p n (by omega))
              obtain ⟨va, hva⟩ : ∃ m, lat (takeIn A (nl (padB l)) p n) n = m := ⟨_, rfl⟩
              obtain ⟨vl, hvl⟩ : ∃ m, laneOf (nl (padB l)) (p + 8 * n) = m := ⟨_, rfl⟩
              rw [hva] at ca hxor hst HTS
              rw [hvl] at hxor hst HTS HLN
              obtain ⟨vx, hvx⟩ : ∃ m, va ^^^ vl = m := ⟨_, rfl⟩
              rw [hvx] at hxor hst HTS
              have HST : Hid ((wr.setCell ⟨ga, n, none⟩ (.int .u64 (vx : Nat))).ownsRow B5 36 1 (.slice (some ⟨ga, 0, none⟩) 25 capa) 25 (uv (takeIn A (nl (padB l)) p (n + 1)))) := by
                have e : uv (takeIn A (nl (padB l)) p (n + 1)) = (uv (takeIn A (nl (padB l)) p n)).set n (.int .u64 (vx : Nat)) := by rw [HTS.out]; simp [uv, List.map_set]
                rw [e]; exact hst
              clear hst hva hvl hvx hal hll hlane hform
              have HOW := Lib.hid hown; clear hown
              have q0 : (0 : Int) ≤ n := by omega
              have q1 : (n : Int) < 25 := by omega
              have q2 : IntKind.i64.wrap (8 * (n : Int)) = 8 * n := IntWalk.i64_in _ (by omega)
              have q3 : IntKind.i64.wrap ((p : Int) + 8 * n) = p + 8 * n := IntWalk.i64_in _ (by omega)
              go_wp2_with fail
              go_region_law (first
                | (go_simp; go_at_call 26; refine (HLN.out _ ?_).mono ?_; (first | exact hSw | exact hSw.drew); rintro e w' ⟨rfl, rfl⟩))
              all_goals
                clear q2 q3 hxor
                go_wp2_with fail
                go_roundw
                case rel => exact ⟨n + 1, by omega, by go_num, HST.out, by first | exact hSw.setCell hga _ | exact (hSw.setCell hga _).drew | exact hSw.drew.setCell hga _, by first | exact hBw.setCell (Nat.le_trans hbs hga) _ | exact (hBw.setCell (Nat.le_trans hbs hga) _).drew | exact hBw.drew.setCell (Nat.le_trans hbs hga) _⟩
                case measure => simp [intOf]; omega
            · obtain rfl : n = 17 := by omega
              rw [show (((17 : Nat) : Int)) = 17 from rfl]
              go_wp2_with fail
              obtain ⟨w3, rfl⟩ : ∃ w3 : World, w3 = wr := ⟨_, rfl⟩
              go_loopw [4, 7] (fun va i wl => ∃ (r : Nat) (A' : List Nat), r ≤ 24 ∧ i = .int .i64 r ∧ wl.ownsRow B5 36 1 va 25 (uv A') ∧ A' = (consts.take r).foldl roundL (takeIn A (nl (padB l)) p 17) ∧ lanes A' ∧ Below B5 wS wl ∧ Below w.heap.size w wl) (fun _ i _ => 24 - (intOf i).toNat)
              case atStart => exact ⟨0, _, by omega, rfl, hown, rfl, lanes_takeIn HAL.out (padB l) p 17, hSw, hBw⟩
              case round =>
                obtain ⟨r, A', hr, rfl, hown, hA', hAl', hSw, hBw⟩ := hrel
                have HA' := Lib.hid hA'; clear hA'
                have HAL' := Lib.hid hAl'; clear hAl'
                by_cases hr24 : r < 24
                · have hrowA := Row.of_own hown
                  have hb5 := hSw.size
                  go_wp2_with fail
                  refine (constantR r _ hr24).mono ?_; rintro e w4 ⟨rfl, hB4⟩
                  have hrow4 := (hrowA.below hB4).mono hB4.size
                  have hcl := consts_lt r
                  obtain ⟨c, hc⟩ : ∃ c, lat consts r = c := ⟨_, rfl⟩
                  rw [hc] at hcl
                  rw [hc]
                  have HCc := Lib.hid hc; clear hc
                  have HCL := Lib.hid hcl; clear hcl
                  go_wp2_with fail
                  refine (roundR _ A' c _ hrow4 HAL'.out HCL.out).mono ?_; rintro e w5 ⟨v5, rfl, ho5, hB5'⟩
                  have hs4 := hSw.trans (hB4.mono (Nat.le_trans (by rw [← HSZ.out]; exact Nat.le_refl _) hb5))
                  have hs5 := hs4.trans (hB5'.mono (Nat.le_trans (by rw [← HSZ.out]; exact Nat.le_refl _) hs4.size))
                  have hw4 := hBw.trans (hB4.mono hBw.size)
                  have hw5 := hw4.trans (hB5'.mono hw4.size)
                  go_wp2_with fail
                  go_roundw
                  case rel => exact ⟨r + 1, roundL A' c, by omega, by go_num, own_mono ho5 (Nat.le_trans (by rw [← HSZ.out]; exact Nat.le_refl _) hs4.size), by rw [consts_take _ _ hr24, ← HA'.out, HCc.out], lanes_round HAL'.out HCL.out, hs5, hw5⟩
                  case measure => simp [intOf]; omega
                · obtain rfl : r = 24 := by omega
                  have HK1 : Hid (A' = (List.range (k + 1)).foldl (fun a k => absorb a (nl (padB l)) (136 * k)) (List.replicate 25 0)) := by
                    show _ = _
                    rw [range_foldl_succ, ← HAK.out, HPK.out, absorb_takeIn, HA'.out]; rfl
                  go_wp2_with fail
                  go_roundw
                  case rel => exact ⟨k + 1, A', by have := HPK.out; omega, by have := HPK.out; congr 1; omega, hown, HK1.out, HAL'.out, hSw, hBw⟩
                  case measure => simp [intOf]; omega
        · have hpN : p = N := by omega
          have HSP : Hid (A = sponge (padded (nl l))) := by
            show _ = _
            unfold sponge
            rw [← padB_nl, nl_length, HPN.out, HAK.out]
            have : N / 136 = k := by have := HPK.out; omega
            rw [this]
          obtain ⟨ga, capa, rfl, hga, hgal⟩ := hownA.form (by omega)
          clear hpN hdiv
          go_wp2_with fail
          obtain ⟨w2, rfl⟩ : ∃ w2 : World, w2 = wr := ⟨_, rfl⟩
          have hAget : ∀ i, i < 4 → w2.cell? ⟨ga, i, none⟩ = some (.int .u64 (lat A i : Nat)) := fun i hi => by
            rw [hownA.cellAt i (by omega), uv_at A i (by rw [HAL.out.1]; omega)]
          have HAG := Lib.hid hAget; clear hAget
          have hw2 := hBw.size
          clear hownA
          go_loopw [8, 9] (fun o i wl => ∃ j : Nat, j ≤ 4 ∧ i = .int .i64 j ∧ wl.ownsRow w2.heap.size 5 1 o (8 * j) (cl (outB A j 0 0)) ∧ Below w2.heap.size w2 wl) (fun _ i _ => 4 - (intOf i).toNat)
          case atStart => exact ⟨0, by omega, rfl, World.ownsRow_nil _ _ _ _, Below.refl _ _⟩
          case round =>
            obtain ⟨j, hj, rfl, hown, hBj⟩ := hrel
            by_cases hj4 : j < 4
            · have hdj : decide ((j : Int) < 4) = true := by rw [decide_eq_true_iff]; omega
              have cA := (hBj.cell (p := ⟨ga, j, none⟩) hgal).trans (HAG.out j hj4)
              have hlx := lat_lt64 HAL.out.2 j
              have HTN := Lib.hid (outB_turn HAL.out.1 j 0 (by omega))
              obtain ⟨X, hX⟩ : ∃ X, lat A j = X := ⟨_, rfl⟩
              rw [hX] at cA hlx HTN
              clear hX
              have hzX : outB A j 0 0 = outB A j 0 X := outB_zero A j 0 X
              rw [hzX] at hown
              clear hzX
              go_wp2_with fail
              obtain ⟨w3, rfl⟩ : ∃ w3 : World, w3 = wr := ⟨_, rfl⟩
              go_loopw [8, 10, 11] (fun o x i wl => ∃ k : Nat, k ≤ 8 ∧ i = .int .i64 k ∧ x = .int .u64 ((X / 256 ^ k : Nat) : Int) ∧ wl.ownsRow w2.heap.size 5 1 o (8 * j + k) (cl (outB A j k X)) ∧ Below w2.heap.size w2 wl) (fun _ _ i _ => 8 - (intOf i).toNat)
              case atStart => exact ⟨0, by omega, rfl, by simp, hown, hBj⟩
              case round =>
                obtain ⟨k, hk, rfl, rfl, hown, hBj⟩ := hrel
                have hbj := hBj.size
                by_cases hk8 : k < 8
                · have hdv : X / 256 ^ k / 256 = X / 256 ^ (k + 1) := by rw [Nat.pow_succ, Nat.div_div_eq_div_mul]
                  have HOB := Lib.hid (outB_succ A j k X)
                  have hxk : X / 256 ^ k < 18446744073709551616 := Nat.lt_of_le_of_lt (Nat.div_le_self _ _) hlx
                  obtain ⟨xk, hxk2⟩ : ∃ n, X / 256 ^ k = n := ⟨_, rfl⟩
                  rw [hxk2] at hdv hxk HOB
                  rw [hxk2]
                  have HDV := Lib.hid hdv; clear hdv hxk2
                  go_wp2_with (at_builtin; refine wpList_append_own _ rfl _ _ 30 rfl w2.heap.size 5 j0 (.int .u8 0) 1 1 Tryd.underlying30 hj0 hy0 hy1 hy2 rfl (by decide) _ _ _ rfl (hown.alloc _) ⟨wr.heap.size, 0, none⟩ 1 1 [.int .u8 ((xk : Int) % 256)] rfl rfl (cell_one_new _ _ _) (fun x hx => by simp at hx; subst hx; rfl) (by unfold maxLen; omega) (by omega) (by simp; omega) ?_; intro v' w6 hown3 hgrow3 hnil3)
                  go_roundw
                  case rel =>
                    refine ⟨k + 1, by omega, by go_num, by rw [← HDV.out]; rfl, ?_, (hBj.alloc hbj _).grown hgrow3 (by simp; omega) (fun k hk => (hown.lt k hk).1)⟩
                    rw [HOB.out, cl_append]
                    have e : cl [UInt8.ofNat (xk % 256)] = [.int .u8 ((xk : Int) % 256)] := by
                      simp only [cl, List.map_cons, List.map_nil]; rw [u8_of (by omega)]; rfl
                    rw [e]; exact hown3
                  case measure => simp [intOf]; omega
                · obtain rfl : k = 8 := by omega
                  have hown8 : wr.ownsRow w2.heap.size 5 1 u8 (8 * (j + 1)) (cl (outB A (j + 1) 0 0)) := by rw [← HTN.out]; exact hown
                  clear hown
                  go_wp2_with fail
                  go_roundw
                  case rel => exact ⟨j + 1, by omega, by go_num, hown8, hBj⟩
                  case measure => simp [intOf]; omega
            · obtain rfl : j = 4 := by omega
              have HE := Lib.hid (outB_end A 0 (nl l) HSP.out)
              have hcv := conv_any hown
              go_wp2_with fail
              go_ret
              exact ⟨by rw [← HE.out]; rfl, hBw.trans (hBj.mono hw2)⟩
end Go.Proofs.YtcekmedfphmpcaaDoor
