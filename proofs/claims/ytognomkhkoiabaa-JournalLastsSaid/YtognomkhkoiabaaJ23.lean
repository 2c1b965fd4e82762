/-
  Layer 7: the laws' arguments: deeds; few.
-/
import Derived.Test.YtognomkhkoiabaaJ22
import Derived.Test.YtognomkhkoiabaaDop
namespace Go.Proofs.Ytognomkhkoiabaa
set_option linter.unusedVariables false
set_option linter.unusedSimpArgs false
open Go.ChangeShapes Go.WideShapes Go.RowKit Go.Joins Go.Deep

/-- A deed. -/
structure De where
  o : Int
  row : ByteArray
  rows : List ByteArray
  keep : List Int
  n : Int
instance : Inhabited De := ⟨⟨0, bs [], [], [], 0⟩⟩
def gd (l : List De) (k : Nat) : De := l.getD k default
theorem gd_get (l : List De) (k : Nat) (h : k < l.length) : gd l k = l[k] := by
  unfold gd; rw [List.getD_eq_getElem?_getD, List.getElem?_eq_getElem h]; rfl
def ERow (w : World) (B : Nat) (v : Value) (l : List De) : Prop :=
  ∃ A cap, v = .slice A l.length cap ∧ (0 < l.length → ∃ b off, A = some ⟨b, off, none⟩ ∧ b < B ∧ ∀ k, k < l.length → ∃ ur uk, Row w B ur (sv (gd l k).rows) ∧ IRow w B uk (gd l k).keep ∧
    w.cell? ⟨b, off + k * 5, none⟩ = some (.int .i64 (gd l k).o) ∧ w.cell? ⟨b, off + k * 5 + 1, none⟩ = some (.string (gd l k).row) ∧ w.cell? ⟨b, off + k * 5 + 2, none⟩ = some ur ∧
    w.cell? ⟨b, off + k * 5 + 3, none⟩ = some uk ∧ w.cell? ⟨b, off + k * 5 + 4, none⟩ = some (.int .i64 (gd l k).n))
structure De.wf (a : De) : Prop where
  o : -9223372036854775808 ≤ a.o ∧ a.o ≤ 9223372036854775807
  n : -9223372036854775808 ≤ a.n ∧ a.n ≤ 9223372036854775807
theorem ERow.keep {w w' : World} {v : Value} {l : List De} (h : ERow w w.heap.size v l) (hb : Below w.heap.size w w') : ERow w' w'.heap.size v l := by
  obtain ⟨A, cap, hv, hA⟩ := h
  refine ⟨A, cap, hv, fun h0 => ?_⟩
  obtain ⟨b, off, ha, hB, hc⟩ := hA h0
  refine ⟨b, off, ha, Nat.lt_of_lt_of_le hB hb.size, fun k hk => ?_⟩
  obtain ⟨ur, uk, h1, h2, c0, c1, c2, c3, c4⟩ := hc k hk
  exact ⟨ur, uk, h1.keep hb, h2.keep hb, keep_below hb c0, keep_below hb c1, keep_below hb c2, keep_below hb c3, keep_below hb c4⟩
def De.okB (a : De) : Bool := decide (a.row.size ≤ 200) && (decide (a.rows.length ≤ 6) && (decide (a.keep.length ≤ 60) && a.rows.all fun r => decide (r.size ≤ 200)))
def fewB7 (l : List De) : Bool := decide (l.length ≤ 30) && l.all De.okB
theorem fewB7_false {l : List De} {k : Nat} (h : k < l.length) (hn : (gd l k).okB = false) : fewB7 l = false := by
  unfold fewB7
  have : l.all De.okB = false := by
    rw [List.all_eq_false]
    exact ⟨l[k], List.getElem_mem h, by rw [← gd_get l k h, hn]; simp⟩
  rw [this]; simp
theorem fewB7_true {l : List De} (h30 : l.length ≤ 30) (h : ∀ j, j < l.length → (gd l j).okB = true) : fewB7 l = true := by
  unfold fewB7
  have : l.all De.okB = true := by
    rw [List.all_eq_true]
    intro x hx
    obtain ⟨j, hj, rfl⟩ := List.mem_iff_getElem.1 hx
    rw [← gd_get l j hj]; exact h j hj
  rw [this, decide_eq_true h30]; rfl
structure De.ok (a : De) : Prop where
  row : a.row.size ≤ 200
  rows : a.rows.length ≤ 6
  keep : a.keep.length ≤ 60
  each : ∀ r ∈ a.rows, r.size ≤ 200
theorem De.ok_of {a : De} (h : a.okB = true) : a.ok := by
  unfold De.okB at h
  simp only [Bool.and_eq_true, decide_eq_true_eq, List.all_eq_true] at h
  exact ⟨h.1, h.2.1, h.2.2.1, h.2.2.2⟩
theorem fewB7_parts {l : List De} (h : fewB7 l = true) : l.length ≤ 30 ∧ ∀ k, k < l.length → (gd l k).ok := by
  unfold fewB7 at h
  simp only [Bool.and_eq_true, decide_eq_true_eq, List.all_eq_true] at h
  exact ⟨h.1, fun k hk => De.ok_of (h.2 _ (by rw [gd_get l k hk]; exact List.getElem_mem hk))⟩
theorem okB_row {a : De} (h : 200 < a.row.size) : a.okB = false := by unfold De.okB; rw [decide_eq_false (by omega)]; rfl
theorem okB_rows {a : De} (h : 6 < a.rows.length) : a.okB = false := by unfold De.okB; rw [decide_eq_false (show ¬ a.rows.length ≤ 6 by omega)]; simp
theorem okB_keep {a : De} (h : 60 < a.keep.length) : a.okB = false := by unfold De.okB; rw [decide_eq_false (show ¬ a.keep.length ≤ 60 by omega)]; simp
theorem okB_each {a : De} {j : Nat} (hj : j < a.rows.length) (h : 200 < a.rows[j].size) : a.okB = false := by
  unfold De.okB
  have : (a.rows.all fun r => decide (r.size ≤ 200)) = false := by
    rw [List.all_eq_false]
    exact ⟨a.rows[j], List.getElem_mem hj, by simp; omega⟩
  rw [this]; simp
theorem okB_yes {a : De} (h1 : a.row.size ≤ 200) (h2 : a.rows.length ≤ 6) (h3 : a.keep.length ≤ 60) (h4 : ∀ j (h : j < a.rows.length), (a.rows[j]).size ≤ 200) : a.okB = true := by
  unfold De.okB
  rw [decide_eq_true h1, decide_eq_true h2, decide_eq_true h3]
  simp only [Bool.true_and, List.all_eq_true, decide_eq_true_eq]
  intro r hr
  obtain ⟨j, hj, rfl⟩ := List.mem_iff_getElem.1 hr
  exact h4 j hj
def F7Rel (l : List De) (i : Value) : Prop := ∃ k : Nat, i = .int .i64 k ∧ k ≤ l.length ∧ ∀ j, j < k → (gd l j).okB = true
def F7In (r : List ByteArray) (i : Value) : Prop := ∃ j : Nat, i = .int .i64 j ∧ j ≤ r.length ∧ ∀ i (h : i < r.length), i < j → r[i].size ≤ 200
set_option maxRecDepth 100000 in
set_option maxHeartbeats 8000000 in
theorem few7P (v : Value) (l : List De) (w : World) (hr : ERow w w.heap.size v l) (hlen : l.length ≤ 9223372036854775807) :
    Calls Try.prog 5 #[v] w fun e w' => e = .returned (.bool (fewB7 l)) ∧ w = w' := by
  obtain ⟨A, cap, rfl, hA⟩ := hr
  have HNO : Hid (∀ k, k < l.length → (gd l k).okB = false → fewB7 l = false) := Lib.hid fun k h1 h2 => fewB7_false h1 h2
  have HYES : Hid (l.length ≤ 30 → (∀ j, j < l.length → (gd l j).okB = true) → fewB7 l = true) := Lib.hid fun h1 h2 => fewB7_true h1 h2
  have HBIG : Hid (30 < l.length → fewB7 l = false) := Lib.hid fun h => by unfold fewB7; rw [decide_eq_false (by omega)]; rfl
  obtain ⟨FB, hFB⟩ : ∃ FB, fewB7 l = FB := ⟨_, rfl⟩
  rw [hFB] at HNO HYES HBIG ⊢
  clear hFB
  by_cases h30 : 30 < l.length
  · have k1 : decide ((l.length : Int) > 30) = true := by rw [decide_eq_true_iff]; omega
    have k2 : decide ((30 : Int) < (l.length : Int)) = true := by rw [decide_eq_true_iff]; omega
    have HF := Lib.hid (HBIG.out h30)
    clear h30 hA
    go_enter Try.func5, Try.ntmps5
    go_wp2_with fail
    go_ret
    exact ⟨by first | (rw [HF.out]; done) | (rw [HF.out]; rfl), rfl⟩
  · have k1 : decide ((l.length : Int) > 30) = false := by rw [decide_eq_false_iff_not]; omega
    have k2 : decide ((30 : Int) < (l.length : Int)) = false := by rw [decide_eq_false_iff_not]; omega
    have H30 : Hid (l.length ≤ 30) := Lib.hid (by omega)
    clear h30
    go_enter Try.func5, Try.ntmps5
    go_wp2_with fail
    go_loop [3] (fun i => F7Rel l i) (fun i => l.length - (intOf i).toNat)
    case atStart => exact ⟨0, rfl, Nat.zero_le _, fun j h => by omega⟩
    case round =>
      obtain ⟨k, rfl, hk, hok⟩ := hrel
      have HOK := Lib.hid hok; clear hok
      by_cases hlt : k < l.length
      · obtain ⟨b, off, rfl, hb, hc⟩ := hA (by omega)
        obtain ⟨ur, uk, hur, huk, c0, c1, c2, c3, c4⟩ := hc k hlt
        obtain ⟨Ar, capr, rfl, hrc⟩ := hur
        obtain ⟨Ak, capk, rfl, -⟩ := huk
        have q1 : (k : Int) < l.length := by omega
        have HN := Lib.hid (HNO.out k hlt)
        have E1 := Lib.hid (okB_row (a := gd l k))
        have E2 := Lib.hid (okB_rows (a := gd l k))
        have E3 := Lib.hid (okB_keep (a := gd l k))
        have E4 : Hid (∀ j (hj : j < (gd l k).rows.length), 200 < ((gd l k).rows[j]).size → (gd l k).okB = false) := Lib.hid fun j hj h => okB_each hj h
        have E5 := Lib.hid (okB_yes (a := gd l k))
        rw [sv_length] at c2 hrc
        obtain ⟨⟨o, row, rows, keep, n⟩, ha⟩ : ∃ a, gd l k = a := ⟨_, rfl⟩
        have HAE := Lib.hid ha
        rw [ha] at c0 c1 c2 c3 c4 hrc HN E1 E2 E3 E4 E5
        simp only at c0 c1 c2 c3 c4 hrc
        obtain ⟨okb, hokb⟩ : ∃ okb, (⟨o, row, rows, keep, n⟩ : De).okB = okb := ⟨_, rfl⟩
        have HKB := Lib.hid hokb
        rw [hokb] at HN E1 E2 E3 E4 E5
        simp only at E1 E2 E3 E4 E5
        clear hc hA ha hokb c0 c4
        by_cases h1 : 200 < row.size
        · have HF := Lib.hid (HN.out (E1.out h1))
          have g1 : decide ((row.size : Int) > 200) = true := by rw [decide_eq_true_iff]; omega
          have g2 : decide ((200 : Int) < (row.size : Int)) = true := by rw [decide_eq_true_iff]; omega
          clear h1 hrc
          go_wp2_with fail
          go_ret
          exact ⟨by first | (rw [HF.out]; done) | (rw [HF.out]; rfl), rfl⟩
        · have g1 : decide ((row.size : Int) > 200) = false := by rw [decide_eq_false_iff_not]; omega
          have g2 : decide ((200 : Int) < (row.size : Int)) = false := by rw [decide_eq_false_iff_not]; omega
          have H1 : Hid (row.size ≤ 200) := Lib.hid (by omega)
          clear h1
          by_cases h2 : 6 < rows.length
          · have HF := Lib.hid (HN.out (E2.out h2))
            have g3 : decide ((rows.length : Int) > 6) = true := by rw [decide_eq_true_iff]; omega
            have g4 : decide ((6 : Int) < (rows.length : Int)) = true := by rw [decide_eq_true_iff]; omega
            clear h2 hrc
            go_wp2_with fail
            go_ret
            exact ⟨by first | (rw [HF.out]; done) | (rw [HF.out]; rfl), rfl⟩
          · have g3 : decide ((rows.length : Int) > 6) = false := by rw [decide_eq_false_iff_not]; omega
            have g4 : decide ((6 : Int) < (rows.length : Int)) = false := by rw [decide_eq_false_iff_not]; omega
            have H2 : Hid (rows.length ≤ 6) := Lib.hid (by omega)
            clear h2
            by_cases h3 : 60 < keep.length
            · have HF := Lib.hid (HN.out (E3.out h3))
              have g5 : decide ((keep.length : Int) > 60) = true := by rw [decide_eq_true_iff]; omega
              have g6 : decide ((60 : Int) < (keep.length : Int)) = true := by rw [decide_eq_true_iff]; omega
              clear h3 hrc
              go_wp2_with fail
              go_ret
              exact ⟨by first | (rw [HF.out]; done) | (rw [HF.out]; rfl), rfl⟩
            · have g5 : decide ((keep.length : Int) > 60) = false := by rw [decide_eq_false_iff_not]; omega
              have g6 : decide ((60 : Int) < (keep.length : Int)) = false := by rw [decide_eq_false_iff_not]; omega
              have H3 : Hid (keep.length ≤ 60) := Lib.hid (by omega)
              clear h3
              go_wp2_with fail
              clear g1 g2 g3 g4 g5 g6
              go_loop [4] (fun i => F7In rows i) (fun i => rows.length - (intOf i).toNat)
              case atStart => exact ⟨0, rfl, Nat.zero_le _, fun i _ h => by omega⟩
              case round =>
                obtain ⟨j, rfl, hj, hall⟩ := hrel
                have HALL := Lib.hid hall; clear hall
                have hr6 := H2.out
                by_cases hjl : j < rows.length
                · obtain ⟨br, offr, rfl, hbr, hcr⟩ := hrc (by omega)
                  have d0 := hcr j hjl
                  rw [sv_get rows j hjl] at d0
                  have E4j := Lib.hid (E4.out j hjl)
                  have q2 : (j : Int) < rows.length := by omega
                  obtain ⟨r, hr⟩ : ∃ r, rows[j] = r := ⟨_, rfl⟩
                  rw [hr] at d0 E4j
                  have HR := Lib.hid hr
                  clear hr hcr
                  by_cases h4 : 200 < r.size
                  · have HF := Lib.hid (HN.out (E4j.out h4))
                    have g1 : decide ((r.size : Int) > 200) = true := by rw [decide_eq_true_iff]; omega
                    have g2 : decide ((200 : Int) < (r.size : Int)) = true := by rw [decide_eq_true_iff]; omega
                    clear h4
                    go_wp2_with fail
                    go_ret
                    exact ⟨by first | (rw [HF.out]; done) | (rw [HF.out]; rfl), rfl⟩
                  · have g1 : decide ((r.size : Int) > 200) = false := by rw [decide_eq_false_iff_not]; omega
                    have g2 : decide ((200 : Int) < (r.size : Int)) = false := by rw [decide_eq_false_iff_not]; omega
                    have H4 : Hid (r.size ≤ 200) := Lib.hid (by omega)
                    clear h4
                    go_wp2_with fail
                    go_round
                    case rel => exact ⟨j + 1, by go_num, by omega, fun i hi hij => if e : i = j then by subst e; rw [HR.out]; exact H4.out else HALL.out i hi (by omega)⟩
                    case measure => simp [intOf]; omega
                · obtain rfl : j = rows.length := by omega
                  have HKT : Hid (okb = true) := Lib.hid (E5.out H1.out H2.out H3.out fun i hi => HALL.out i hi hi)
                  clear hjl hrc
                  go_wp2_with fail
                  go_round
                  case rel => exact ⟨k + 1, by go_num, by omega, fun i hi => if e : i = k then by rw [e, HAE.out, HKB.out]; exact HKT.out else HOK.out i (by omega)⟩
                  case measure => simp [intOf]; omega
      · obtain rfl : k = l.length := by omega
        have HF := Lib.hid (HYES.out H30.out HOK.out)
        clear hA hlt
        go_wp2_with fail
        go_ret
        exact ⟨by first | (rw [HF.out]; done) | (rw [HF.out]; rfl), rfl⟩
end Go.Proofs.Ytognomkhkoiabaa
