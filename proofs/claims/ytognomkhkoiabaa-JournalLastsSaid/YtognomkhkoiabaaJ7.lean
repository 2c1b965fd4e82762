/-
  The reference of package journal: whether two lists of rows are equal.
-/
import Derived.Test.YtognomkhkoiabaaJ1
namespace Go.Proofs.Ytognomkhkoiabaa
set_option linter.unusedVariables false
set_option linter.unusedSimpArgs false
open Go.RowKit

theorem str_ne {a b : ByteArray} (h : a ≠ b) : (a.toList == b.toList) = false := by
  rw [beq_eq_false_iff_ne]
  intro e
  apply h
  rw [Lib.toList_data, Lib.toList_data] at e
  exact ByteArray.ext (Array.ext' e)
def SmRel (w0 : World) (a b : List ByteArray) (i : Value) (wl : World) : Prop := ∃ k : Nat, i = .int .i64 k ∧ k ≤ a.length ∧ (∀ j, j < k → a[j]? = b[j]?) ∧ Below w0.heap.size w0 wl
set_option maxRecDepth 100000 in
set_option maxHeartbeats 4000000 in
theorem sameP (a b : List ByteArray) (u v : Value) (w : World) (hu : Row w w.heap.size u (sv a)) (hv : Row w w.heap.size v (sv b)) (hla : a.length ≤ 1000000000000) (hlb : b.length ≤ 1000000000000) :
    Calls Try.prog 19 #[u, v] w fun e w' => e = .returned (.bool (decide (a = b))) ∧ Below w.heap.size w w' := by
  obtain ⟨A, ca, rfl, hA⟩ := hu
  obtain ⟨C, cb, rfl, hC⟩ := hv
  rw [sv_length] at hA hC ⊢
  rw [sv_length]
  have HA := Lib.hid hA
  have HC := Lib.hid hC
  clear hA hC
  by_cases hl : a.length = b.length
  · have k1 : ((a.length : Int) == (b.length : Int)) = true := by rw [beq_iff_eq]; omega
    have k2 : ((a.length : Int) != (b.length : Int)) = false := by rw [bne, k1]; rfl
    have HL := Lib.hid hl
    obtain ⟨n, hn⟩ : ∃ n, b.length = n := ⟨_, rfl⟩
    rw [hn] at k1 k2
    have HN := Lib.hid hn
    rw [hn]
    clear hl hn
    go_enter Try.func19, Try.ntmps19
    go_wp2_with fail
    go_loopw [5] (fun i wr => SmRel w a b i wr) (fun i _ => a.length - (intOf i).toNat)
    case atStart => exact ⟨0, rfl, Nat.zero_le _, fun j hj => by omega, Below.refl _ _⟩
    case round =>
      obtain ⟨k, rfl, hk, heq, hb⟩ := hrel
      have HE := Lib.hid heq
      have HB := Lib.hid hb
      clear heq hb
      by_cases hlt : k < a.length
      · have hkb : k < b.length := by rw [← HL.out]; exact hlt
        have hkn : k < n := by rw [← HN.out]; exact hkb
        have q0 : (0 : Int) ≤ k := by omega
        have q1 : (k : Int) < a.length := by omega
        have q2 : (k : Int) < n := by omega
        obtain ⟨b1, o1, rfl, hb1, hc1⟩ := HA.out (by omega)
        obtain ⟨b2, o2, rfl, hb2, hc2⟩ := HC.out (by omega)
        have c1 : wr.cell? ⟨b1, o1 + k, none⟩ = some (.string a[k]) := by
          rw [← sv_get a k hlt, ← hc1 k hlt]; exact HB.out.cell (p := ⟨b1, o1 + k, none⟩) hb1
        have c2 : wr.cell? ⟨b2, o2 + k, none⟩ = some (.string b[k]) := by
          rw [← sv_get b k hkb, ← hc2 k hkb]; exact HB.out.cell (p := ⟨b2, o2 + k, none⟩) hb2
        have HX : Hid (a[k]? = some a[k]) := Lib.hid (List.getElem?_eq_getElem hlt)
        have HY : Hid (b[k]? = some b[k]) := Lib.hid (List.getElem?_eq_getElem hkb)
        clear hc1 hc2
        obtain ⟨x, hx⟩ : ∃ x, a[k] = x := ⟨_, rfl⟩
        obtain ⟨y, hy⟩ : ∃ y, b[k] = y := ⟨_, rfl⟩
        rw [hx] at c1 HX
        rw [hy] at c2 HY
        clear hx hy hkb
        by_cases hxy : x = y
        · subst hxy
          have HR : Hid (∀ wx, Below w.heap.size w wx → SmRel w a b (.int .i64 ((k : Int) + 1)) wx) := Lib.hid fun wx h => ⟨k + 1, by go_num, by omega, fun j hj => by
            rcases Nat.lt_or_ge j k with h | h
            · exact HE.out j h
            · obtain rfl : j = k := by omega
              rw [HX.out, HY.out], h⟩
          go_wp2_with fail
          go_quiet (fail)
          go_wp2_with fail
          go_roundw
          case rel => exact HR.out _ (by first | exact HB.out | exact HB.out.drew | exact (HB.out.trans ⟨rfl, rfl, rfl, Nat.le_refl _, fun _ _ => rfl⟩))
          case measure => simp [intOf]; omega
        · have hc := str_ne hxy
          have hne : Hid (decide (a = b) = false) := Lib.hid (decide_eq_false (fun h => hxy (by
            have h1 := HX.out
            rw [h, HY.out] at h1
            exact (Option.some.inj h1).symm)))
          clear hxy
          go_wp2_with fail
          go_quiet (fail)
          go_wp2_with fail
          go_ret
          exact ⟨by rw [hne.out]; rfl, by first | exact HB.out | exact HB.out.drew | exact (HB.out.trans ⟨rfl, rfl, rfl, Nat.le_refl _, fun _ _ => rfl⟩)⟩
      · obtain rfl : k = a.length := by omega
        have hdec : Hid (decide (a = b) = true) := Lib.hid (decide_eq_true (List.ext_getElem? fun j => by
          rcases Nat.lt_or_ge j a.length with h | h
          · exact HE.out j h
          · rw [List.getElem?_eq_none h, List.getElem?_eq_none (by rw [← HL.out]; exact h)]))
        go_wp2_with fail
        go_ret
        exact ⟨by rw [hdec.out]; rfl, HB.out⟩
  · have k1 : ((a.length : Int) == (b.length : Int)) = false := by rw [beq_eq_false_iff_ne]; omega
    have k2 : ((a.length : Int) != (b.length : Int)) = true := by rw [bne, k1]; rfl
    have hne : Hid (decide (a = b) = false) := Lib.hid (decide_eq_false (fun h => hl (by rw [h])))
    clear hl
    go_enter Try.func19, Try.ntmps19
    go_wp2_with fail
    go_ret
    exact ⟨by rw [hne.out]; rfl, Below.refl _ _⟩
end Go.Proofs.Ytognomkhkoiabaa
