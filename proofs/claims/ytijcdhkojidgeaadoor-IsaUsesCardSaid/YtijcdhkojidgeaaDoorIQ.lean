/-
  The reference's Has; the law's exchange of two registers in a list.
-/
import Derived.Test.YtijcdhkojidgeaaDoorIP
namespace Go.Proofs.YtijcdhkojidgeaaDoor
set_option linter.unusedVariables false
set_option linter.unusedSimpArgs false
open Go.RowKit

theorem IRow.bd {w : World} {v : Value} {l : List Nat} (h : IRow w v l) : l.length ≤ maxLen := by
  obtain ⟨A, cap, rfl, h1, h2, _⟩ := h; omega

set_option maxHeartbeats 1000000 in
theorem hasLP (v : Value) (l : List Nat) (n : Nat) (w : World) (hv : IRow w v l) :
    Calls Tryd.prog 24 #[v, .int .i64 n] w fun e w' => e = .returned (.bool (l.contains n)) ∧ w = w' := by
  obtain ⟨A, cap, rfl, h1, h2, hA⟩ := hv
  unfold maxLen at h2
  obtain ⟨r, hr⟩ : ∃ r, l.contains n = r := ⟨_, rfl⟩
  rw [hr]
  have HR := Lib.hid hr; clear hr
  have HA := Lib.hid hA; clear hA
  go_enter Tryd.func24, Tryd.ntmps24
  go_wp2_with fail
  go_loop [5] (fun i => ∃ k : Nat, k ≤ l.length ∧ i = .int .i64 k ∧ ∀ j (h : j < l.length), j < k → l[j] ≠ n) (fun i => l.length - (intOf i).toNat)
  case atStart => exact ⟨0, by omega, rfl, fun j _ h => by omega⟩
  case round =>
    obtain ⟨k, hk, rfl, hn⟩ := hrel
    have HN := Lib.hid hn; clear hn
    by_cases hlt : k < l.length
    · obtain ⟨g, rfl, hg, hc⟩ := HA.out (by omega)
      have c1 := hc k hlt
      obtain ⟨x, hx⟩ : ∃ x, l[k] = x := ⟨_, rfl⟩
      rw [hx] at c1
      have HX := Lib.hid hx
      have hkI : (k : Int) < l.length := by omega
      clear hx hc
      by_cases e : x = n
      · have he : ((x : Int) == n) = true := by simp [e]
        have HV : Hid (r = true) := Lib.hid (by rw [← HR.out, List.contains_iff_mem, ← e, ← HX.out]; exact List.getElem_mem hlt)
        clear e
        go_wp2_with fail
        go_ret
        exact ⟨by rw [HV.out]; rfl, rfl⟩
      · have he : ((x : Int) == n) = false := by simp; omega
        have HE := Lib.hid e; clear e
        go_wp2_with fail
        go_round
        case rel => exact ⟨k + 1, by omega, by go_num, fun j h hj => by
          by_cases e2 : j = k
          · subst e2; rw [HX.out]; exact HE.out
          · exact HN.out j h (by omega)⟩
        case measure => simp [intOf]; omega
    · obtain rfl : k = l.length := by omega
      have HV : Hid (r = false) := Lib.hid (by
        rw [← HR.out, Bool.eq_false_iff]
        intro h
        rw [List.contains_iff_mem] at h
        obtain ⟨j, hj, he⟩ := List.getElem_of_mem h
        exact HN.out j hj hj he)
      go_wp2_with fail
      go_ret
      exact ⟨by rw [HV.out]; rfl, rfl⟩

/-- A register after the exchange of two. -/
def mapI (r x y : Int) : Int := if r = x then y else if r = y then x else r
theorem mappedP (r x y : Int) (w : World) :
    Calls Tryd.prog 25 #[.int .i64 r, .int .i64 x, .int .i64 y] w fun e w' => e = .returned (.int .i64 (mapI r x y)) ∧ w = w' := by
  by_cases h1 : r = x
  · have HM : Hid (mapI r x y = y) := Lib.hid (by unfold mapI; rw [if_pos h1])
    have h1' : (r == x) = true := beq_iff_eq.2 h1
    clear h1
    go_enter Tryd.func25, Tryd.ntmps25
    go_wp2_with fail
    go_ret
    exact ⟨by rw [HM.out]; rfl, rfl⟩
  · have h1' : (r == x) = false := beq_eq_false_iff_ne.2 h1
    by_cases h2 : r = y
    · have HM : Hid (mapI r x y = x) := Lib.hid (by unfold mapI; rw [if_neg h1, if_pos h2])
      have h2' : (r == y) = true := beq_iff_eq.2 h2
      clear h2
      go_enter Tryd.func25, Tryd.ntmps25
      go_wp2_with fail
      go_ret
      exact ⟨by rw [HM.out]; rfl, rfl⟩
    · have HM : Hid (mapI r x y = r) := Lib.hid (by unfold mapI; rw [if_neg h1, if_neg h2])
      have h2' : (r == y) = false := beq_eq_false_iff_ne.2 h2
      go_enter Tryd.func25, Tryd.ntmps25
      go_wp2_with fail
      go_ret
      exact ⟨by rw [HM.out]; rfl, rfl⟩

/-- How often an element of the first j goes to register r. -/
def rowsTo (l : List Nat) (x y : Int) (r j : Nat) : List Nat := ((l.take j).filter fun (e : Nat) => mapI (e : Int) x y == (r : Int)).map fun _ => r
def swapK (l : List Nat) (x y : Int) (k : Nat) : List Nat := (List.range k).flatMap fun r => rowsTo l x y r l.length
/-- A list after the exchange of two registers, in ascending order. -/
def swapL (l : List Nat) (x y : Int) : List Nat := swapK l x y 16
theorem swapK_succ (l : List Nat) (x y : Int) (k : Nat) : swapK l x y (k + 1) = swapK l x y k ++ rowsTo l x y k l.length := by
  unfold swapK; rw [List.range_succ, List.flatMap_append]; simp
theorem rowsTo_yes {l : List Nat} {x y : Int} {r j : Nat} (hj : j < l.length) (h : (mapI (l[j] : Nat) x y == (r : Nat)) = true) : rowsTo l x y r (j + 1) = rowsTo l x y r j ++ [r] := by
  unfold rowsTo; rw [List.take_succ_eq_append_getElem hj, List.filter_append, List.map_append]; simp only [List.filter_cons, h, if_true, List.filter_nil, List.map_cons, List.map_nil]
theorem rowsTo_no {l : List Nat} {x y : Int} {r j : Nat} (hj : j < l.length) (h : (mapI (l[j] : Nat) x y == (r : Nat)) = false) : rowsTo l x y r (j + 1) = rowsTo l x y r j := by
  unfold rowsTo; rw [List.take_succ_eq_append_getElem hj, List.filter_append, List.map_append]; simp [List.filter_cons, h]
theorem rowsTo_len (l : List Nat) (x y : Int) (r j : Nat) : (rowsTo l x y r j).length ≤ l.length := by
  unfold rowsTo
  rw [List.length_map]
  exact Nat.le_trans (List.length_filter_le _ _) (by rw [List.length_take]; omega)
theorem swapK_len (l : List Nat) (x y : Int) (k : Nat) : (swapK l x y k).length ≤ k * l.length := by
  induction k with
  | zero => simp [swapK]
  | succ k ih =>
    rw [swapK_succ, List.length_append, Nat.succ_mul]
    have := rowsTo_len l x y k l.length
    omega

def SwRel (l : List Nat) (x y : Int) (w : World) (u i : Value) (wl : World) : Prop := ∃ k : Nat, i = .int .i64 k ∧ k ≤ 16 ∧ OwnN wl w.heap.size u (swapK l x y k) ∧ Below w.heap.size w wl
def SwRel2 (l : List Nat) (x y : Int) (k : Nat) (w : World) (u i : Value) (wl : World) : Prop := ∃ j : Nat, i = .int .i64 j ∧ j ≤ l.length ∧ OwnN wl w.heap.size u (swapK l x y k ++ rowsTo l x y k j) ∧ Below w.heap.size w wl

set_option maxRecDepth 100000 in
set_option maxHeartbeats 4000000 in
theorem swappedP (v : Value) (l : List Nat) (x y : Int) (w : World) (hv : IRow w v l) (h3 : l.length ≤ 16) :
    Calls Tryd.prog 26 #[v, .int .i64 x, .int .i64 y] w (RowPost (swapL l x y) w) := by
  obtain ⟨A, cap, rfl, h1, h2, hA⟩ := hv
  obtain ⟨i0, hi, hz0, hz1, hz2⟩ := info_parts infoI
  have HA := Lib.hid hA; clear hA h1 h2
  go_enter Tryd.func26, Tryd.ntmps26
  go_wp2_with fail
  go_loopw [7, 8] (fun u i wl => SwRel l x y w u i wl) (fun _ i _ => 16 - (intOf i).toNat)
  case atStart => exact ⟨0, rfl, by omega, OwnN.nil _ _, Below.refl _ _⟩
  case round =>
    obtain ⟨k, rfl, hk, ho, hB⟩ := hrel
    by_cases hlt : k < 16
    · have HS0 : Hid (SwRel2 l x y k w u7 (.int .i64 0) wr) := Lib.hid ⟨0, rfl, Nat.zero_le _, by rw [show rowsTo l x y k 0 = [] by unfold rowsTo; simp, List.append_nil]; exact ho, hB⟩
      clear ho hB
      obtain ⟨wo, hwo⟩ : ∃ wo : World, wo = wr := ⟨_, rfl⟩
      obtain ⟨uo, huo⟩ : ∃ uo : Value, uo = u7 := ⟨_, rfl⟩
      rw [← hwo, ← huo] at HS0 ⊢
      clear hwo huo
      have hk16 : decide ((k : Int) < 16) = true := decide_eq_true (by omega)
      have hk16' : decide (k < 16) = true := decide_eq_true hlt
      go_wp2_with fail
      go_loopw [7, 9] (fun u i wl => SwRel2 l x y k w u i wl) (fun _ i _ => l.length - (intOf i).toNat)
      case atStart => exact HS0.out
      case round =>
        clear HS0
        obtain ⟨j, rfl, hj, ho, hB⟩ := hrel
        have hsz := hB.size
        by_cases hjl : j < l.length
        · obtain ⟨g, rfl, hg, hc⟩ := HA.out (by omega)
          have c1 := (hB.cell (p := ⟨g, j, none⟩) hg).trans (hc j hjl)
          have hyes := fun h => rowsTo_yes (l := l) (x := x) (y := y) (r := k) hjl h
          have hno := fun h => rowsTo_no (l := l) (x := x) (y := y) (r := k) hjl h
          obtain ⟨z, hz⟩ : ∃ z, l[j] = z := ⟨_, rfl⟩
          rw [hz] at c1 hyes hno
          have HM := Lib.hid (mappedP z x y wr)
          obtain ⟨q, hq⟩ : ∃ q, mapI z x y = q := ⟨_, rfl⟩
          rw [hq] at HM hyes hno
          have hjI : (j : Int) < l.length := by omega
          clear hz hc hq
          cases he : (q == (k : Nat))
          · have HN := Lib.hid (hno he)
            have HOW := Lib.hid ho
            have HBR := Lib.hid hB
            clear ho hB hyes hno
            go_wp2_with fail
            refine HM.out.mono ?_; rintro e w' ⟨rfl, rfl⟩
            go_wp2_with fail
            go_roundw
            case rel => exact ⟨j + 1, by go_num, by omega, by rw [HN.out]; exact HOW.out, HBR.out⟩
            case measure => simp [intOf]; omega
          · have HY := Lib.hid (hyes he)
            have hl1 := swapK_len l x y k
            have hl2 := rowsTo_len l x y k j
            have hl3 : k * l.length ≤ 16 * 16 := Nat.mul_le_mul (by omega) h3
            have hlen : (swapK l x y k ++ rowsTo l x y k j).length ≤ 300 := by rw [List.length_append]; omega
            obtain ⟨L, hL⟩ : ∃ L, swapK l x y k ++ rowsTo l x y k j = L := ⟨_, rfl⟩
            rw [hL] at hlen ho
            have HY2 : Hid (swapK l x y k ++ rowsTo l x y k (j + 1) = L ++ [k]) := Lib.hid (by rw [HY.out, ← List.append_assoc, hL])
            clear hL
            have ho3 := ho.below (below_new wr (.cells #[.int .i64 (k : Nat)] 3))
            have hB3 := hB.alloc hsz (.cells #[.int .i64 (k : Nat)] 3)
            obtain ⟨v', w4, hrun, ho4, hg4, _, _⟩ := run_append_own_at (P := Tryd.prog) (wr.alloc (.cells #[.int .i64 (k : Nat)] 3)) w.heap.size 34 34 3 i0 (.int .i64 0) 1 8 Tryd.underlying34 hi hz0 hz1 hz2 rfl (by decide) _ _ _ ho3 ⟨wr.heap.size, 0, none⟩ 1 1 [.int .i64 (k : Nat)] rfl (fun j u hu => by
              cases j with
              | zero =>
                simp at hu
                subst hu
                exact blk_cell (block_new wr _) 0
              | succ j => simp at hu) (fun u hu => by rw [List.mem_singleton.1 hu]; rfl) (by unfold maxLen; omega) (by omega) (by simp; omega)
            obtain ⟨g', cap', rfl⟩ := own_succ ho4
            have HO4 : Hid (OwnN w4 w.heap.size (.slice (some ⟨g', 0, none⟩) (L.length + 1) cap') (swapK l x y k ++ rowsTo l x y k (j + 1))) := Lib.hid (by
              unfold OwnN
              rw [HY2.out, nv_append, List.length_append]
              exact ho4)
            have HB4 := Lib.hid (hB3.grown hg4 (by simp; omega) (fun j hj => (ho3.lt j hj).1))
            have HRUN := Lib.hid hrun
            clear ho hB ho3 hB3 hl1 hl2 hl3 hlen hrun ho4 hg4 hyes hno
            go_wp2_with fail
            refine HM.out.mono ?_; rintro e w' ⟨rfl, rfl⟩
            go_wp2_with (at_builtin; refine Lib.wpList_append_run_sl _ rfl _ _ 34 rfl _ _ rfl rfl HRUN.out ?_)
            go_roundw
            case rel => exact ⟨j + 1, by go_num, by omega, HO4.out, HB4.out⟩
            case measure => simp [intOf]; omega
        · obtain rfl : j = l.length := by omega
          have HOW : Hid (OwnN wr w.heap.size u7 (swapK l x y (k + 1))) := Lib.hid (by rw [swapK_succ]; exact ho)
          have HBR := Lib.hid hB
          clear ho hB
          go_wp2_with fail
          go_roundw
          case rel => exact ⟨k + 1, by go_num, by omega, HOW.out, HBR.out⟩
          case measure => simp [intOf]; omega
    · obtain rfl : k = 16 := by omega
      have HF : Hid (RowPost (swapL l x y) w (.returned u7) wr) := Lib.hid ⟨_, rfl, ho.row, hB⟩
      clear ho hB
      go_wp2_with fail
      go_ret
      exact HF.out
end Go.Proofs.YtijcdhkojidgeaaDoor
