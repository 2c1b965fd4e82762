/-
  The reference's Has; the law's exchange of two registers in a list.
-/
import Derived.Test.YtmnhnighlgpjmaaDoorIP
namespace Go.Proofs.YtmnhnighlgpjmaaDoor
set_option linter.unusedVariables false
set_option linter.unusedSimpArgs false
open Go.RowKit

theorem IRow.bd {w : World} {v : Value} {l : List Nat} (h : IRow w v l) : l.length ≤ maxLen := by
  obtain ⟨A, cap, rfl, h1, h2, _⟩ := h; omega

set_option maxHeartbeats 1000000 in
theorem hasLP (v : Value) (l : List Nat) (n : Nat) (w : World) (hv : IRow w v l) :
    Calls Tryd.prog 33 #[v, .int .i64 n] w fun e w' => e = .returned (.bool (l.contains n)) ∧ w = w' := by
  obtain ⟨A, cap, rfl, h1, h2, hA⟩ := hv
  unfold maxLen at h2
  obtain ⟨r, hr⟩ : ∃ r, l.contains n = r := ⟨_, rfl⟩
  rw [hr]
  have HR := Lib.hid hr; clear hr
  have HA := Lib.hid hA; clear hA
  go_enter Tryd.func33, Tryd.ntmps33
  go_wp2_with fail
  go_loop [5] (fun i => ∃ k : Nat, k ≤ l.length ∧ i = .int .i64 k ∧ ∀ j (h : j < l.length), j < k → l[j] ≠ n) (fun i => l.length - (intOf i).toNat)
  case atStart => exact ⟨0, by omega, rfl, fun j _ h => by omega⟩
  case round =>
    obtain ⟨k, hk, rfl, hn⟩ := hrel
    have HN := Lib.hid hn; clear hn
    by_cases hlt : k < l.length
    · obtain ⟨g, rfl, hg, hc⟩ := HA.out (by omega)
      have c1 := hc k hlt
      obtain ⟨x, hx⟩ : ∃ x, l[k] = x := ⟨_, rfl⟩
      rw [hx] at c1
      have HX := Lib.hid hx
      have hkI : (k : Int) < l.length := by omega
      clear hx hc
      by_cases e : x = n
      · have he : ((x : Int) == n) = true := by simp [e]
        have HV : Hid (r = true) := Lib.hid (by rw [← HR.out, List.contains_iff_mem, ← e, ← HX.out]; exact List.getElem_mem hlt)
        clear e
        go_wp2_with fail
        go_ret
        exact ⟨by rw [HV.out]; rfl, rfl⟩
      · have he : ((x : Int) == n) = false := by simp; omega
        have HE := Lib.hid e; clear e
        go_wp2_with fail
        go_round
        case rel => exact ⟨k + 1, by omega, by go_num, fun j h hj => by
          by_cases e2 : j = k
          · subst e2; rw [HX.out]; exact HE.out
          · exact HN.out j h (by omega)⟩
        case measure => simp [intOf]; omega
    · obtain rfl : k = l.length := by omega
      have HV : Hid (r = false) := Lib.hid (by
        rw [← HR.out, Bool.eq_false_iff]
        intro h
        rw [List.contains_iff_mem] at h
        obtain ⟨j, hj, he⟩ := List.getElem_of_mem h
        exact HN.out j hj hj he)
      go_wp2_with fail
      go_ret
      exact ⟨by rw [HV.out]; rfl, rfl⟩

/-- A register after the exchange of two. -/
def mapI (r x y : Int) : Int := if r = x then y else if r = y then x else r
/-- How often an element of the first j goes to register r. -/
def rowsTo (l : List Nat) (x y : Int) (r j : Nat) : List Nat := ((l.take j).filter fun (e : Nat) => mapI (e : Int) x y == (r : Int)).map fun _ => r
def swapK (l : List Nat) (x y : Int) (k : Nat) : List Nat := (List.range k).flatMap fun r => rowsTo l x y r l.length
/-- A list after the exchange of two registers, in ascending order. -/
def swapL (l : List Nat) (x y : Int) : List Nat := swapK l x y 16
theorem swapK_succ (l : List Nat) (x y : Int) (k : Nat) : swapK l x y (k + 1) = swapK l x y k ++ rowsTo l x y k l.length := by
  unfold swapK; rw [List.range_succ, List.flatMap_append]; simp
theorem rowsTo_yes {l : List Nat} {x y : Int} {r j : Nat} (hj : j < l.length) (h : (mapI (l[j] : Nat) x y == (r : Nat)) = true) : rowsTo l x y r (j + 1) = rowsTo l x y r j ++ [r] := by
  unfold rowsTo; rw [List.take_succ_eq_append_getElem hj, List.filter_append, List.map_append]; simp only [List.filter_cons, h, if_true, List.filter_nil, List.map_cons, List.map_nil]
theorem rowsTo_no {l : List Nat} {x y : Int} {r j : Nat} (hj : j < l.length) (h : (mapI (l[j] : Nat) x y == (r : Nat)) = false) : rowsTo l x y r (j + 1) = rowsTo l x y r j := by
  unfold rowsTo; rw [List.take_succ_eq_append_getElem hj, List.filter_append, List.map_append]; simp [List.filter_cons, h]
theorem rowsTo_len (l : List Nat) (x y : Int) (r j : Nat) : (rowsTo l x y r j).length ≤ l.length := by
  unfold rowsTo
  rw [List.length_map]
  exact Nat.le_trans (List.length_filter_le _ _) (by rw [List.length_take]; omega)
theorem swapK_len (l : List Nat) (x y : Int) (k : Nat) : (swapK l x y k).length ≤ k * l.length := by
  induction k with
  | zero => simp [swapK]
  | succ k ih =>
    rw [swapK_succ, List.length_append, Nat.succ_mul]
    have := rowsTo_len l x y k l.length
    omega

def SwRel (l : List Nat) (x y : Int) (w : World) (u i : Value) (wl : World) : Prop := ∃ k : Nat, i = .int .i64 k ∧ k ≤ 16 ∧ OwnN wl w.heap.size u (swapK l x y k) ∧ Below w.heap.size w wl
def SwRel2 (l : List Nat) (x y : Int) (k : Nat) (w : World) (u i : Value) (wl : World) : Prop := ∃ j : Nat, i = .int .i64 j ∧ j ≤ l.length ∧ OwnN wl w.heap.size u (swapK l x y k ++ rowsTo l x y k j) ∧ Below w.heap.size w wl

end Go.Proofs.YtmnhnighlgpjmaaDoor
