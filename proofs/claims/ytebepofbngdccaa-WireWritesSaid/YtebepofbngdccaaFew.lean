/-
  Contract of the law's few.
-/
import Derived.Test.YtebepofbngdccaaKind
import Derived.Test.YtebepofbngdccaaSame
import Derived.IntWalk
namespace Go.Proofs.Ytebepofbngdccaa
set_option linter.unusedVariables false
set_option linter.unusedSimpArgs false
open Go.RowKit

/-- A value to write. -/
structure Val where
  k : Int
  n : Int
  s : List UInt8
  zs : List Int
  ss : List (List UInt8)

/-- The struct's last two fields read as the lists. -/
structure VOk (w : World) (B : Nat) (vL vT : Value) (x : Val) : Prop where
  nums : Row w B vL (iv x.zs)
  texts : Row w B vT (sv x.ss)

/-- A slice of values. -/
def VRow (w : World) (B : Nat) (v : Value) (xs : List Val) : Prop :=
  ∃ A cap, v = .slice A xs.length cap ∧ (0 < xs.length → ∃ b off, A = some ⟨b, off, none⟩ ∧ b < B ∧ ∀ k (h : k < xs.length), ∃ vL vT, VOk w B vL vT xs[k] ∧
    w.cell? ⟨b, off + k * 5, none⟩ = some (.int .i64 xs[k].k) ∧ w.cell? ⟨b, off + k * 5 + 1, none⟩ = some (.int .i64 xs[k].n) ∧ w.cell? ⟨b, off + k * 5 + 2, none⟩ = some (.string (bs xs[k].s)) ∧
    w.cell? ⟨b, off + k * 5 + 3, none⟩ = some vL ∧ w.cell? ⟨b, off + k * 5 + 4, none⟩ = some vT)

def smallV (x : Val) : Prop := x.s.length ≤ 400 ∧ x.zs.length ≤ 400 ∧ x.ss.length ≤ 400 ∧ ∀ t ∈ x.ss, t.length ≤ 400

theorem few_next {xs : List Val} {k : Nat} {x : Val} (h : ∀ j (h : j < xs.length), j < k → smallV xs[j]) (hk : k < xs.length) (hx : xs[k] = x) (hs : smallV x) : ∀ j (h : j < xs.length), j < k + 1 → smallV xs[j] := by
  intro j hj hjk
  by_cases e : j = k
  · subst e; rw [hx]; exact hs
  · exact h j hj (by omega)
def FewPost (xs : List Val) (w : World) (e : Ending) (w' : World) : Prop :=
  ∃ b, e = .returned (.bool b) ∧ (b = true → xs.length ≤ 20 ∧ ∀ x ∈ xs, smallV x) ∧ Below w.heap.size w w'

def sizeV (x : Val) : Nat := x.s.length + x.zs.length + x.ss.length + (x.ss.map List.length).sum
def total (xs : List Val) : Nat := (xs.map sizeV).sum
def fewP (xs : List Val) : Prop := xs.length ≤ 20 ∧ (∀ x ∈ xs, smallV x) ∧ total xs ≤ 400
noncomputable def fewB (xs : List Val) : Bool := @decide (fewP xs) (Classical.propDecidable _)
theorem fewB_false {xs : List Val} (h : ¬ fewP xs) : fewB xs = false := by unfold fewB; exact @decide_eq_false _ (Classical.propDecidable _) h
theorem fewB_true {xs : List Val} (h : fewP xs) : fewB xs = true := by unfold fewB; exact @decide_eq_true _ (Classical.propDecidable _) h
theorem fewB_of {xs : List Val} (h : fewB xs = true) : fewP xs := by unfold fewB at h; exact @of_decide_eq_true _ (Classical.propDecidable _) h
def FewX (xs : List Val) (w : World) (e : Ending) (w' : World) : Prop := e = .returned (.bool (fewB xs)) ∧ Below w.heap.size w w'
theorem fewx_no {xs : List Val} {w w' : World} (hn : ¬ fewP xs) (h : Below w.heap.size w w') : FewX xs w (.returned (.bool false)) w' := ⟨by rw [fewB_false hn], h⟩
theorem fewx_small {xs : List Val} {w w' : World} {k : Nat} (hk : k < xs.length) (hn : ¬ smallV xs[k]) (h : Below w.heap.size w w') : FewX xs w (.returned (.bool false)) w' :=
  fewx_no (fun hp => hn (hp.2.1 _ (by simp))) h
theorem total_take_succ (xs : List Val) (k : Nat) (h : k < xs.length) : total (xs.take (k + 1)) = total (xs.take k) + sizeV xs[k] := by
  unfold total; rw [List.take_succ_eq_append_getElem h, List.map_append, List.sum_append]; simp
theorem lens_take_succ (ss : List (List UInt8)) (k : Nat) (h : k < ss.length) : ((ss.take (k + 1)).map List.length).sum = ((ss.take k).map List.length).sum + ss[k].length := by
  rw [List.take_succ_eq_append_getElem h, List.map_append, List.sum_append]; simp
theorem few_drew {B n : Nat} {w w' : World} (h : Below B w w') : Below B w (w'.drewN n) := h.trans ⟨rfl, rfl, rfl, Nat.le_refl _, fun _ _ => rfl⟩
theorem few_no {xs : List Val} {w w' : World} (h : Below w.heap.size w w') : FewPost xs w (.returned (.bool false)) w' := ⟨false, rfl, (fun h => by cases h), h⟩
set_option maxRecDepth 100000 in
set_option maxHeartbeats 4000000 in
theorem few_exact (v : Value) (xs : List Val) (w : World) (hr : VRow w w.heap.size v xs) :
    Calls Try.prog 10 #[v] w (FewX xs w) := by
  obtain ⟨A, cap, rfl, hA⟩ := hr
  by_cases h20 : 20 < xs.length
  · clear hA
    go_enter Try.func10, Try.ntmps10
    go_wp2_with fail
    go_ret
    exact fewx_no (fun hp => by have := hp.1; omega) (Below.refl _ _)
  · go_enter Try.func10, Try.ntmps10
    go_wp2_with fail
    go_loopw [3, 4] (fun m i wr => ∃ k N : Nat, k ≤ xs.length ∧ i = .int .i64 k ∧ m = .int .i64 N ∧ N ≤ k * 200000 ∧ N = total (xs.take k) ∧ (∀ j (h : j < xs.length), j < k → smallV xs[j]) ∧ Below w.heap.size w wr) (fun _ i _ => xs.length - (intOf i).toNat)
    case atStart => exact ⟨0, 0, by omega, rfl, rfl, by omega, rfl, fun j _ h => by omega, Below.refl _ _⟩
    case round =>
      obtain ⟨k, N, hk, rfl, rfl, hN, hNt, hsm, hB⟩ := hrel
      have HNT := Lib.hid hNt; clear hNt
      have HSM := Lib.hid hsm; clear hsm
      by_cases hlt : k < xs.length
      · obtain ⟨b, off, rfl, hb, hc⟩ := hA (by omega)
        obtain ⟨vL, vT, ⟨⟨AL, cL, hvL, hL⟩, ⟨AT, cT, hvT, hT⟩⟩, c0, c1, c2, c3, c4⟩ := hc k hlt
        rw [hvL] at c3
        rw [hvT] at c4
        rw [iv_length] at c3 hL
        rw [sv_length] at c4 hT
        clear hA hc
        have c2' := (hB.cell (p := ⟨b, off + k * 5 + 2, none⟩) hb).trans c2
        have c3' := (hB.cell (p := ⟨b, off + k * 5 + 3, none⟩) hb).trans c3
        have c4' := (hB.cell (p := ⟨b, off + k * 5 + 4, none⟩) hb).trans c4
        clear c0 c1 c2 c3 c4 hvL hvT
        have HX := Lib.hid (fun (h1 : xs[k].s.length ≤ 400) (h2 : xs[k].zs.length ≤ 400) (h3 : xs[k].ss.length ≤ 400) (h4 : ∀ t ∈ xs[k].ss, t.length ≤ 400) => few_next (x := xs[k]) HSM.out hlt rfl ⟨h1, h2, h3, h4⟩)
        have HNO := Lib.hid (fun w' => fewx_small (w := w) (w' := w') hlt)
        have HTT := Lib.hid (total_take_succ xs k hlt)
        obtain ⟨x, hx⟩ : ∃ x, xs[k] = x := ⟨_, rfl⟩
        rw [hx] at HX c2' c3' c4' hL hT HNO HTT
        clear hx
        obtain ⟨s, hs⟩ : ∃ s, bs x.s = s := ⟨_, rfl⟩
        rw [hs] at c2'
        have hsz : s.size = x.s.length := by rw [← hs, bs_size]
        have HS := Lib.hid hs; clear hs
        have HZ := Lib.hid hsz; clear hsz
        obtain ⟨nL, hnL⟩ : ∃ n, x.zs.length = n := ⟨_, rfl⟩
        obtain ⟨nT, hnT⟩ : ∃ n, x.ss.length = n := ⟨_, rfl⟩
        rw [hnL] at HX c3' hL
        rw [hnT] at HX c4' hT
        have HL := Lib.hid hnL; clear hnL
        have HT := Lib.hid hnT; clear hnT
        clear hL
        by_cases hLl : 400 < nL
        · go_wp2_with fail
          go_ret
          exact HNO.out _ (fun hs => by have := hs.2.1; have := HL.out; omega) hB
        · by_cases hTl : 400 < nT
          · go_wp2_with fail
            go_ret
            exact HNO.out _ (fun hs => by have := hs.2.2.1; have := HT.out; omega) hB
          · by_cases hSl : 400 < s.size
            · go_wp2_with fail
              go_ret
              exact HNO.out _ (fun hs => by have := hs.1; have := HZ.out; omega) hB
            · go_wp2_with fail
              have q0 : (0 : Int) ≤ k := by omega
              have q00 : (k : Int) < xs.length := by omega
              have q1 : IntKind.i64.wrap ((N : Int) + s.size) = N + s.size := IntWalk.i64_in _ (by omega)
              have q2 : IntKind.i64.wrap ((N : Int) + s.size + nL) = N + s.size + nL := IntWalk.i64_in _ (by omega)
              have q3 : IntKind.i64.wrap ((N : Int) + s.size + nL + nT) = N + s.size + nL + nT := IntWalk.i64_in _ (by omega)
              go_quiet (fail)
              clear q1 q2 q3
              go_wp2_with fail
              go_loop [3, 5] (fun m j => ∃ i M : Nat, i ≤ nT ∧ j = .int .i64 i ∧ m = .int .i64 M ∧ M ≤ N + 1200 + i * 400 ∧ M = N + s.size + nL + nT + ((x.ss.take i).map List.length).sum ∧ ∀ p (h : p < x.ss.length), p < i → x.ss[p].length ≤ 400) (fun _ j => nT - (intOf j).toNat)
              case atStart => exact ⟨0, N + s.size + nL + nT, by omega, rfl, by go_num, by omega, rfl, fun p _ h => by omega⟩
              case round =>
                obtain ⟨i, M, hi, rfl, rfl, hM, hMt, hts⟩ := hrel
                have HMT := Lib.hid hMt; clear hMt
                have HTS := Lib.hid hts; clear hts
                by_cases hit : i < nT
                · obtain ⟨b', off', rfl, hb', hc'⟩ := hT (by omega)
                  have hc2 := hc' i hit
                  have hil : i < x.ss.length := by rw [HT.out]; exact hit
                  rw [sv_at x.ss i hil] at hc2
                  have hct := (hB.cell (p := ⟨b', off' + i, none⟩) hb').trans hc2
                  clear hc' hT hc2
                  have HLT := Lib.hid (lens_take_succ x.ss i hil)
                  obtain ⟨y, hy⟩ : ∃ y, bs x.ss[i] = y := ⟨_, rfl⟩
                  rw [hy] at hct
                  have hyz : y.size = x.ss[i].length := by rw [← hy, bs_size]
                  have HYZ := Lib.hid hyz; clear hyz hy
                  by_cases hy4 : 400 < y.size
                  · go_wp2_with fail
                    go_ret
                    exact HNO.out _ (fun hs => by have := hs.2.2.2 x.ss[i] (by simp); have := HYZ.out; omega) (few_drew hB)
                  · go_wp2_with fail
                    go_round
                    case rel =>
                      refine ⟨i + 1, M + y.size, by omega, by go_num, by go_num, by omega, by rw [HLT.out, ← HYZ.out, HMT.out]; omega, fun p hp hpi => ?_⟩
                      by_cases e : p = i
                      · subst e; rw [← HYZ.out]; omega
                      · exact HTS.out p hp (by omega)
                    case measure => simp [intOf]; omega
                · have hxx := HX.out (by have := HZ.out; omega) (by omega) (by omega) (fun t ht => by
                    obtain ⟨p, hp, rfl⟩ := List.getElem_of_mem ht
                    exact HTS.out p hp (by have := HT.out; omega))
                  have HXX := Lib.hid hxx; clear hxx
                  go_wp2_with fail
                  go_roundw
                  case rel => exact ⟨k + 1, M, by omega, by go_num, rfl, by omega, by
                    have e1 := HMT.out
                    rw [List.take_of_length_le (by have := HT.out; omega)] at e1
                    have e2 := HTT.out
                    have e3 := HNT.out
                    have e4 := HZ.out
                    have e5 := HL.out
                    have e6 := HT.out
                    unfold sizeV at e2
                    omega, HXX.out, few_drew hB⟩
                  case measure => simp [intOf]; omega
      · have hkk : k = xs.length := by omega
        have HP : Hid (fewB xs = decide ((N : Int) ≤ 400)) := by
          have hN' := HNT.out
          rw [hkk, List.take_length] at hN'
          have hall : ∀ x ∈ xs, smallV x := fun x hx => by
            obtain ⟨j, hj, rfl⟩ := List.getElem_of_mem hx
            exact HSM.out j hj (by omega)
          show _ = _
          by_cases h400 : N ≤ 400
          · rw [fewB_true ⟨by omega, hall, by omega⟩]; symm; rw [decide_eq_true_iff]; omega
          · rw [fewB_false (fun hp => by have := hp.2.2; omega)]; symm; rw [decide_eq_false_iff_not]; omega
        clear hkk
        go_wp2_with fail
        go_ret
        exact ⟨by rw [HP.out]; rfl, hB⟩

theorem few_any (v : Value) (xs : List Val) (w : World) (hr : VRow w w.heap.size v xs) :
    Calls Try.prog 10 #[v] w (FewPost xs w) :=
  (few_exact v xs w hr).mono fun _ _ ⟨he, hb⟩ => ⟨fewB xs, he, fun h => ⟨(fewB_of h).1, (fewB_of h).2.1⟩, hb⟩
end Go.Proofs.Ytebepofbngdccaa
