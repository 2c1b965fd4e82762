/-
  The walk of the law WireBack.
-/
import Derived.Test.YtebepofbngdccaaVal
namespace Go.Proofs.Ytebepofbngdccaa
set_option linter.unusedVariables false
set_option linter.unusedSimpArgs false
open Go.RowKit

theorem flat_drop {α : Type} (f : α → List UInt8) (l : List α) (k : Nat) (h : k < l.length) : (l.drop k).flatMap f = f l[k] ++ (l.drop (k + 1)).flatMap f := by
  rw [List.drop_eq_getElem_cons h, List.flatMap_cons]

namespace wireBack

theorem total {xs : List Val} (h : xs.length ≤ 20) (hs : ∀ x ∈ xs, smallV x) (ho : ∀ x ∈ xs, okV x) : (xs.flatMap encV).length ≤ 3400000 := by
  have := flat_len encV 170000 xs (fun x hx => encV_len x (hs x hx) (ho x hx))
  omega
theorem total_take {xs : List Val} (h : xs.length ≤ 20) (hs : ∀ x ∈ xs, smallV x) (ho : ∀ x ∈ xs, okV x) (k : Nat) : ((xs.take k).flatMap encV).length ≤ 3400000 :=
  total (by rw [List.length_take]; omega) (fun x hx => hs x (List.mem_of_mem_take hx)) (fun x hx => ho x (List.mem_of_mem_take hx))
theorem total_drop {xs : List Val} (h : xs.length ≤ 20) (hs : ∀ x ∈ xs, smallV x) (ho : ∀ x ∈ xs, okV x) (k : Nat) : ((xs.drop k).flatMap encV).length ≤ 3400000 :=
  total (by rw [List.length_drop]; omega) (fun x hx => hs x (List.mem_of_mem_drop hx)) (fun x hx => ho x (List.mem_of_mem_drop hx))

set_option maxRecDepth 100000 in
set_option maxHeartbeats 4000000 in
theorem walk_main (w : World) (v : Value) (xs : List Val) (tl : List UInt8) (hr : VRow w w.heap.size v xs) (ho : ∀ x ∈ xs, okV x) (hm : xs.length ≤ 9223372036854775807) :
    Calls Try.prog 5 #[v, .string (bs tl)] w fun e w' => e = .returned (.bool true) ∧ Below w.heap.size w w' := by
  obtain ⟨tB, htB⟩ : ∃ s, bs tl = s := ⟨_, rfl⟩
  have hts : tB.size = tl.length := by rw [← htB, bs_size]
  rw [htB]
  have HTB := Lib.hid htB; clear htB
  have HTS := Lib.hid hts; clear hts
  have HO := Lib.hid ho; clear ho
  have HR := Lib.hid hr
  obtain ⟨A, cap, rfl, hA⟩ := hr
  have HA := Lib.hid hA; clear hA
  have hfew := fun (w' : World) (h : Below w.heap.size w w') => few_any _ xs w' (vrow_below HR.out h)
  have HF := Lib.hid hfew; clear hfew
  go_enter Try.func5, Try.ntmps5
  go_wp2_with fail
  refine (small_any _).mono ?_; rintro e w1 ⟨rfl, hB1⟩
  go_wp2_with fail
  refine (HF.out _ hB1).mono ?_; rintro e w2 ⟨b, rfl, hfacts, hB2⟩
  have c2 := hB1.trans (hB2.mono hB1.size)
  rcases b with _ | _
  · clear hfacts
    go_wp2_with fail
    go_ret
    exact ⟨rfl, c2⟩
  · obtain ⟨h20, hsm⟩ := hfacts rfl
    have HSM := Lib.hid hsm; clear hsm hfacts
    by_cases h4 : 400 < tB.size
    · go_wp2_with fail
      go_ret
      exact ⟨rfl, c2⟩
    · go_wp2_with fail
      go_loopw [6, 7] (fun s i wr => ∃ k : Nat, k ≤ xs.length ∧ i = .int .i64 k ∧ s = .string (bs ((xs.take k).flatMap encV)) ∧ Below w.heap.size w wr) (fun _ i _ => xs.length - (intOf i).toNat)
      case atStart => exact ⟨0, by omega, rfl, rfl, c2⟩
      case round =>
        obtain ⟨k, hk, rfl, rfl, hB⟩ := hrel
        have hbs := hB.size
        by_cases hlt : k < xs.length
        · obtain ⟨b, off, rfl, hb, hc⟩ := HA.out (by omega)
          obtain ⟨vL, vT, hv, c0, c1, c2, c3, c4⟩ := hc k hlt
          have HV := Lib.hid ((hv.below hB).mono hbs)
          have d0 := (hB.cell (p := ⟨b, off + k * 5, none⟩) hb).trans c0
          have d1 := (hB.cell (p := ⟨b, off + k * 5 + 1, none⟩) hb).trans c1
          have d2 := (hB.cell (p := ⟨b, off + k * 5 + 2, none⟩) hb).trans c2
          have d3 := (hB.cell (p := ⟨b, off + k * 5 + 3, none⟩) hb).trans c3
          have d4 := (hB.cell (p := ⟨b, off + k * 5 + 4, none⟩) hb).trans c4
          clear c0 c1 c2 c3 c4 hc hv
          have hso := HSM.out xs[k] (by simp)
          have hok := HO.out xs[k] (by simp)
          have hlen := encV_len xs[k] hso hok
          have hpre := total_take h20 HSM.out HO.out k
          have HFT := Lib.hid (flat_take encV xs k hlt)
          obtain ⟨x, hx⟩ : ∃ x, xs[k] = x := ⟨_, rfl⟩
          rw [hx] at HV d0 d1 d2 hso hok hlen HFT
          clear hx
          have HSO := Lib.hid hso; clear hso
          obtain ⟨L, hL⟩ : ∃ L, (xs.take k).flatMap encV = L := ⟨_, rfl⟩
          rw [hL] at hpre HFT
          rw [hL]
          have HL := Lib.hid hL; clear hL
          have hadd := fun w => run_string_add_sum (P := Try.prog) (w := w) (bs L) (bs (encV x)) (by rw [bs_size, bs_size]; omega)
          go_wp2_with fail
          refine (write_any x vL vT _ HV.out HSO.out hok).mono ?_; rintro e w4 ⟨rfl, hB4⟩
          go_wp2_with fail
          go_roundw
          case rel => exact ⟨k + 1, by omega, by go_num, by rw [HFT.out, ← bs_append], hB.trans (hB4.mono hbs)⟩
          case measure => simp [intOf]; omega
        · obtain rfl : k = xs.length := by omega
          rw [List.take_length]
          have hpre := total h20 HSM.out HO.out
          have hdrop := fun k => total_drop h20 HSM.out HO.out k
          have HD := Lib.hid hdrop; clear hdrop
          obtain ⟨L, hL⟩ : ∃ L, xs.flatMap encV = L := ⟨_, rfl⟩
          rw [hL] at hpre
          rw [hL]
          have hadd : ∀ w, _ := fun w => run_string_add_sum (P := Try.prog) (w := w) (bs L) tB (by rw [bs_size]; omega)
          have hcat : bs L ++ tB = bs (L ++ tl) := by rw [← HTB.out, bs_append]
          rw [hcat] at hadd
          have HL := Lib.hid hL; clear hL
          have HCAT := Lib.hid hcat; clear hcat
          go_wp2_with fail
          refine (wOpen (L ++ tl) _).mono ?_; rintro e w5 ⟨rfl, hw5⟩
          have hr5 : Rd w5 wr.heap.size 59 ⟨(xs.drop 0).flatMap encV ++ tl, false⟩ := by rw [hw5, List.drop_zero, HL.out]; exact Rd.opened _ _ _
          have hB5 : Below w.heap.size w w5 := by rw [hw5]; exact hB.alloc hbs _
          clear hw5
          obtain ⟨g, hg⟩ : ∃ g, wr.heap.size = g := ⟨_, rfl⟩
          rw [hg] at hr5 hbs
          rw [hg]
          clear hg
          go_wp2_with fail
          go_loopw [9] (fun i wr => ∃ k : Nat, k ≤ xs.length ∧ i = .int .i64 k ∧ Rd wr g 59 ⟨(xs.drop k).flatMap encV ++ tl, false⟩ ∧ Below w.heap.size w wr) (fun i _ => xs.length - (intOf i).toNat)
          case atStart => exact ⟨0, by omega, rfl, hr5, hB5⟩
          case round =>
            obtain ⟨k, hk, rfl, hRd, hB⟩ := hrel
            by_cases hlt : k < xs.length
            · obtain ⟨b, off, rfl, hb, hc⟩ := HA.out (by omega)
              obtain ⟨vL, vT, hv, c0, c1, c2, c3, c4⟩ := hc k hlt
              have HV := Lib.hid (hv.below hB)
              have d0 := (hB.cell (p := ⟨b, off + k * 5, none⟩) hb).trans c0
              have d1 := (hB.cell (p := ⟨b, off + k * 5 + 1, none⟩) hb).trans c1
              have d2 := (hB.cell (p := ⟨b, off + k * 5 + 2, none⟩) hb).trans c2
              have d3 := (hB.cell (p := ⟨b, off + k * 5 + 3, none⟩) hb).trans c3
              have d4 := (hB.cell (p := ⟨b, off + k * 5 + 4, none⟩) hb).trans c4
              clear c0 c1 c2 c3 c4 hc hv
              have hso := HSM.out xs[k] (by simp)
              have hok := HO.out xs[k] (by simp)
              have hall := HD.out k
              have hft := flat_drop encV xs k hlt
              obtain ⟨x, hx⟩ : ∃ x, xs[k] = x := ⟨_, rfl⟩
              rw [hx] at HV d0 d1 d2 hso hok hft
              clear hx
              rw [hft, List.append_assoc] at hRd
              have hlen : (encV x ++ ((xs.drop (k + 1)).flatMap encV ++ tl)).length ≤ 100000000 := by
                rw [← List.append_assoc, ← hft, List.length_append]
                have := HTS.out; omega
              have HLN := Lib.hid hlen; clear hlen hft hall
              have HSO := Lib.hid hso; clear hso
              have HRD := Lib.hid hRd; clear hRd
              go_wp2_with fail
              refine (equal_any g x _ vL vT _ HRD.out HLN.out w.heap.size hbs HV.out HSO.out hok).mono ?_; rintro e w6 ⟨rfl, hr6, hg6⟩
              go_wp2_with fail
              go_roundw
              case rel => exact ⟨k + 1, by omega, by go_num, hr6, hB.trans (Below.of_grown hg6 hB.size hbs)⟩
              case measure => simp [intOf]; omega
            · obtain rfl : k = xs.length := by omega
              rw [List.drop_length] at hRd
              have hleft := wLeft g _ _ hRd (by have := HTS.out; simp; omega)
              have hdone := wDone g _ _ hRd
              have e1 : (St.mk (([] : List Val).flatMap encV ++ tl) false).l.length = tB.size := HTS.out.symm
              have e2 : doneB (St.mk (([] : List Val).flatMap encV ++ tl) false) = tB.toList.isEmpty := by
                rw [← HTB.out, bs_empty]; simp [doneB]
              rw [e1] at hleft
              rw [e2] at hdone
              have HLF := Lib.hid hleft; clear hleft
              have HDN := Lib.hid hdone; clear hdone e1 e2
              go_wp2_with fail
              refine HLF.out.mono ?_; rintro e w' ⟨rfl, rfl⟩
              go_wp2_with fail
              refine HDN.out.mono ?_; rintro e w' ⟨rfl, rfl⟩
              go_wp2_with fail
              go_ret
              exact ⟨by simp, hB⟩

theorem walk (w : World) (v : Value) (xs : List Val) (s : ByteArray) (h : VRow w w.heap.size v xs ∧ (∀ x ∈ xs, okV x) ∧ xs.length ≤ maxLen) (hs : s.size ≤ maxLen) :
    Calls Try.prog 5 #[v, .string s] w fun e w' => e = .returned (.bool true) ∧ Below w.heap.size w w' := by
  rw [← bs_data s]
  exact walk_main w v xs _ h.1 h.2.1 (by have := h.2.2; unfold maxLen at this; omega)
end wireBack
end Go.Proofs.Ytebepofbngdccaa
