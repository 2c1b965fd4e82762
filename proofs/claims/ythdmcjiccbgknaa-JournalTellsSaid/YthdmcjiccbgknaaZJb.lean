/-
  Layer 7: the laws' arguments: deeds; few.
  Layer 7: the laws' arguments, opened: slices of deeds.
  Layer 7: a log with a calm disk; the law's memory for JournalLists.
  Layer 7: steps of the law JournalLists.
-/
import Derived.Test.YthdmcjiccbgknaaJ22
import Derived.Test.YthdmcjiccbgknaaDop
import Derived.Lib.SlFresh
namespace Go.Proofs.Ythdmcjiccbgknaa
set_option linter.unusedVariables false
set_option linter.unusedSimpArgs false
open Go.ChangeShapes Go.WideShapes Go.RowKit Go.Joins Go.Deep

/-- A deed. -/
structure De where
  o : Int
  row : ByteArray
  rows : List ByteArray
  keep : List Int
  n : Int
instance : Inhabited De := ⟨⟨0, bs [], [], [], 0⟩⟩
def gd (l : List De) (k : Nat) : De := l.getD k default
theorem gd_get (l : List De) (k : Nat) (h : k < l.length) : gd l k = l[k] := by
  unfold gd; rw [List.getD_eq_getElem?_getD, List.getElem?_eq_getElem h]; rfl
def ERow (w : World) (B : Nat) (v : Value) (l : List De) : Prop :=
  ∃ A cap, v = .slice A l.length cap ∧ (0 < l.length → ∃ b off, A = some ⟨b, off, none⟩ ∧ b < B ∧ ∀ k, k < l.length → ∃ ur uk, Row w B ur (sv (gd l k).rows) ∧ IRow w B uk (gd l k).keep ∧
    w.cell? ⟨b, off + k * 5, none⟩ = some (.int .i64 (gd l k).o) ∧ w.cell? ⟨b, off + k * 5 + 1, none⟩ = some (.string (gd l k).row) ∧ w.cell? ⟨b, off + k * 5 + 2, none⟩ = some ur ∧
    w.cell? ⟨b, off + k * 5 + 3, none⟩ = some uk ∧ w.cell? ⟨b, off + k * 5 + 4, none⟩ = some (.int .i64 (gd l k).n))
structure De.wf (a : De) : Prop where
  o : -9223372036854775808 ≤ a.o ∧ a.o ≤ 9223372036854775807
  n : -9223372036854775808 ≤ a.n ∧ a.n ≤ 9223372036854775807
theorem ERow.keep {w w' : World} {v : Value} {l : List De} (h : ERow w w.heap.size v l) (hb : Below w.heap.size w w') : ERow w' w'.heap.size v l := by
  obtain ⟨A, cap, hv, hA⟩ := h
  refine ⟨A, cap, hv, fun h0 => ?_⟩
  obtain ⟨b, off, ha, hB, hc⟩ := hA h0
  refine ⟨b, off, ha, Nat.lt_of_lt_of_le hB hb.size, fun k hk => ?_⟩
  obtain ⟨ur, uk, h1, h2, c0, c1, c2, c3, c4⟩ := hc k hk
  exact ⟨ur, uk, h1.keep hb, h2.keep hb, keep_below hb c0, keep_below hb c1, keep_below hb c2, keep_below hb c3, keep_below hb c4⟩
def De.okB (a : De) : Bool := decide (a.row.size ≤ 200) && (decide (a.rows.length ≤ 6) && (decide (a.keep.length ≤ 60) && a.rows.all fun r => decide (r.size ≤ 200)))
def fewB7 (l : List De) : Bool := decide (l.length ≤ 30) && l.all De.okB
theorem fewB7_false {l : List De} {k : Nat} (h : k < l.length) (hn : (gd l k).okB = false) : fewB7 l = false := by
  unfold fewB7
  have : l.all De.okB = false := by
    rw [List.all_eq_false]
    exact ⟨l[k], List.getElem_mem h, by rw [← gd_get l k h, hn]; simp⟩
  rw [this]; simp
theorem fewB7_true {l : List De} (h30 : l.length ≤ 30) (h : ∀ j, j < l.length → (gd l j).okB = true) : fewB7 l = true := by
  unfold fewB7
  have : l.all De.okB = true := by
    rw [List.all_eq_true]
    intro x hx
    obtain ⟨j, hj, rfl⟩ := List.mem_iff_getElem.1 hx
    rw [← gd_get l j hj]; exact h j hj
  rw [this, decide_eq_true h30]; rfl
structure De.ok (a : De) : Prop where
  row : a.row.size ≤ 200
  rows : a.rows.length ≤ 6
  keep : a.keep.length ≤ 60
  each : ∀ r ∈ a.rows, r.size ≤ 200
theorem De.ok_of {a : De} (h : a.okB = true) : a.ok := by
  unfold De.okB at h
  simp only [Bool.and_eq_true, decide_eq_true_eq, List.all_eq_true] at h
  exact ⟨h.1, h.2.1, h.2.2.1, h.2.2.2⟩
theorem fewB7_parts {l : List De} (h : fewB7 l = true) : l.length ≤ 30 ∧ ∀ k, k < l.length → (gd l k).ok := by
  unfold fewB7 at h
  simp only [Bool.and_eq_true, decide_eq_true_eq, List.all_eq_true] at h
  exact ⟨h.1, fun k hk => De.ok_of (h.2 _ (by rw [gd_get l k hk]; exact List.getElem_mem hk))⟩
theorem okB_row {a : De} (h : 200 < a.row.size) : a.okB = false := by unfold De.okB; rw [decide_eq_false (by omega)]; rfl
theorem okB_rows {a : De} (h : 6 < a.rows.length) : a.okB = false := by unfold De.okB; rw [decide_eq_false (show ¬ a.rows.length ≤ 6 by omega)]; simp
theorem okB_keep {a : De} (h : 60 < a.keep.length) : a.okB = false := by unfold De.okB; rw [decide_eq_false (show ¬ a.keep.length ≤ 60 by omega)]; simp
theorem okB_each {a : De} {j : Nat} (hj : j < a.rows.length) (h : 200 < a.rows[j].size) : a.okB = false := by
  unfold De.okB
  have : (a.rows.all fun r => decide (r.size ≤ 200)) = false := by
    rw [List.all_eq_false]
    exact ⟨a.rows[j], List.getElem_mem hj, by simp; omega⟩
  rw [this]; simp
theorem okB_yes {a : De} (h1 : a.row.size ≤ 200) (h2 : a.rows.length ≤ 6) (h3 : a.keep.length ≤ 60) (h4 : ∀ j (h : j < a.rows.length), (a.rows[j]).size ≤ 200) : a.okB = true := by
  unfold De.okB
  rw [decide_eq_true h1, decide_eq_true h2, decide_eq_true h3]
  simp only [Bool.true_and, List.all_eq_true, decide_eq_true_eq]
  intro r hr
  obtain ⟨j, hj, rfl⟩ := List.mem_iff_getElem.1 hr
  exact h4 j hj
def F7Rel (l : List De) (i : Value) : Prop := ∃ k : Nat, i = .int .i64 k ∧ k ≤ l.length ∧ ∀ j, j < k → (gd l j).okB = true
def F7In (r : List ByteArray) (i : Value) : Prop := ∃ j : Nat, i = .int .i64 j ∧ j ≤ r.length ∧ ∀ i (h : i < r.length), i < j → r[i].size ≤ 200
set_option maxRecDepth 100000 in
set_option maxHeartbeats 8000000 in
theorem few7P (v : Value) (l : List De) (w : World) (hr : ERow w w.heap.size v l) (hlen : l.length ≤ 9223372036854775807) :
    Calls Try.prog 9 #[v] w fun e w' => e = .returned (.bool (fewB7 l)) ∧ w = w' := by
  obtain ⟨A, cap, rfl, hA⟩ := hr
  have HNO : Hid (∀ k, k < l.length → (gd l k).okB = false → fewB7 l = false) := Lib.hid fun k h1 h2 => fewB7_false h1 h2
  have HYES : Hid (l.length ≤ 30 → (∀ j, j < l.length → (gd l j).okB = true) → fewB7 l = true) := Lib.hid fun h1 h2 => fewB7_true h1 h2
  have HBIG : Hid (30 < l.length → fewB7 l = false) := Lib.hid fun h => by unfold fewB7; rw [decide_eq_false (by omega)]; rfl
  obtain ⟨FB, hFB⟩ : ∃ FB, fewB7 l = FB := ⟨_, rfl⟩
  rw [hFB] at HNO HYES HBIG ⊢
  clear hFB
  by_cases h30 : 30 < l.length
  · have k1 : decide ((l.length : Int) > 30) = true := by rw [decide_eq_true_iff]; omega
    have k2 : decide ((30 : Int) < (l.length : Int)) = true := by rw [decide_eq_true_iff]; omega
    have HF := Lib.hid (HBIG.out h30)
    clear h30 hA
    go_enter Try.func9, Try.ntmps9
    go_wp2_with fail
    go_ret
    exact ⟨by first | (rw [HF.out]; done) | (rw [HF.out]; rfl), rfl⟩
  · have k1 : decide ((l.length : Int) > 30) = false := by rw [decide_eq_false_iff_not]; omega
    have k2 : decide ((30 : Int) < (l.length : Int)) = false := by rw [decide_eq_false_iff_not]; omega
    have H30 : Hid (l.length ≤ 30) := Lib.hid (by omega)
    clear h30
    go_enter Try.func9, Try.ntmps9
    go_wp2_with fail
    go_loop [3] (fun i => F7Rel l i) (fun i => l.length - (intOf i).toNat)
    case atStart => exact ⟨0, rfl, Nat.zero_le _, fun j h => by omega⟩
    case round =>
      obtain ⟨k, rfl, hk, hok⟩ := hrel
      have HOK := Lib.hid hok; clear hok
      by_cases hlt : k < l.length
      · obtain ⟨b, off, rfl, hb, hc⟩ := hA (by omega)
        obtain ⟨ur, uk, hur, huk, c0, c1, c2, c3, c4⟩ := hc k hlt
        obtain ⟨Ar, capr, rfl, hrc⟩ := hur
        obtain ⟨Ak, capk, rfl, -⟩ := huk
        have q1 : (k : Int) < l.length := by omega
        have HN := Lib.hid (HNO.out k hlt)
        have E1 := Lib.hid (okB_row (a := gd l k))
        have E2 := Lib.hid (okB_rows (a := gd l k))
        have E3 := Lib.hid (okB_keep (a := gd l k))
        have E4 : Hid (∀ j (hj : j < (gd l k).rows.length), 200 < ((gd l k).rows[j]).size → (gd l k).okB = false) := Lib.hid fun j hj h => okB_each hj h
        have E5 := Lib.hid (okB_yes (a := gd l k))
        rw [sv_length] at c2 hrc
        obtain ⟨⟨o, row, rows, keep, n⟩, ha⟩ : ∃ a, gd l k = a := ⟨_, rfl⟩
        have HAE := Lib.hid ha
        rw [ha] at c0 c1 c2 c3 c4 hrc HN E1 E2 E3 E4 E5
        simp only at c0 c1 c2 c3 c4 hrc
        obtain ⟨okb, hokb⟩ : ∃ okb, (⟨o, row, rows, keep, n⟩ : De).okB = okb := ⟨_, rfl⟩
        have HKB := Lib.hid hokb
        rw [hokb] at HN E1 E2 E3 E4 E5
        simp only at E1 E2 E3 E4 E5
        clear hc hA ha hokb c0 c4
        by_cases h1 : 200 < row.size
        · have HF := Lib.hid (HN.out (E1.out h1))
          have g1 : decide ((row.size : Int) > 200) = true := by rw [decide_eq_true_iff]; omega
          have g2 : decide ((200 : Int) < (row.size : Int)) = true := by rw [decide_eq_true_iff]; omega
          clear h1 hrc
          go_wp2_with fail
          go_ret
          exact ⟨by first | (rw [HF.out]; done) | (rw [HF.out]; rfl), rfl⟩
        · have g1 : decide ((row.size : Int) > 200) = false := by rw [decide_eq_false_iff_not]; omega
          have g2 : decide ((200 : Int) < (row.size : Int)) = false := by rw [decide_eq_false_iff_not]; omega
          have H1 : Hid (row.size ≤ 200) := Lib.hid (by omega)
          clear h1
          by_cases h2 : 6 < rows.length
          · have HF := Lib.hid (HN.out (E2.out h2))
            have g3 : decide ((rows.length : Int) > 6) = true := by rw [decide_eq_true_iff]; omega
            have g4 : decide ((6 : Int) < (rows.length : Int)) = true := by rw [decide_eq_true_iff]; omega
            clear h2 hrc
            go_wp2_with fail
            go_ret
            exact ⟨by first | (rw [HF.out]; done) | (rw [HF.out]; rfl), rfl⟩
          · have g3 : decide ((rows.length : Int) > 6) = false := by rw [decide_eq_false_iff_not]; omega
            have g4 : decide ((6 : Int) < (rows.length : Int)) = false := by rw [decide_eq_false_iff_not]; omega
            have H2 : Hid (rows.length ≤ 6) := Lib.hid (by omega)
            clear h2
            by_cases h3 : 60 < keep.length
            · have HF := Lib.hid (HN.out (E3.out h3))
              have g5 : decide ((keep.length : Int) > 60) = true := by rw [decide_eq_true_iff]; omega
              have g6 : decide ((60 : Int) < (keep.length : Int)) = true := by rw [decide_eq_true_iff]; omega
              clear h3 hrc
              go_wp2_with fail
              go_ret
              exact ⟨by first | (rw [HF.out]; done) | (rw [HF.out]; rfl), rfl⟩
            · have g5 : decide ((keep.length : Int) > 60) = false := by rw [decide_eq_false_iff_not]; omega
              have g6 : decide ((60 : Int) < (keep.length : Int)) = false := by rw [decide_eq_false_iff_not]; omega
              have H3 : Hid (keep.length ≤ 60) := Lib.hid (by omega)
              clear h3
              go_wp2_with fail
              clear g1 g2 g3 g4 g5 g6
              go_loop [4] (fun i => F7In rows i) (fun i => rows.length - (intOf i).toNat)
              case atStart => exact ⟨0, rfl, Nat.zero_le _, fun i _ h => by omega⟩
              case round =>
                obtain ⟨j, rfl, hj, hall⟩ := hrel
                have HALL := Lib.hid hall; clear hall
                have hr6 := H2.out
                by_cases hjl : j < rows.length
                · obtain ⟨br, offr, rfl, hbr, hcr⟩ := hrc (by omega)
                  have d0 := hcr j hjl
                  rw [sv_get rows j hjl] at d0
                  have E4j := Lib.hid (E4.out j hjl)
                  have q2 : (j : Int) < rows.length := by omega
                  obtain ⟨r, hr⟩ : ∃ r, rows[j] = r := ⟨_, rfl⟩
                  rw [hr] at d0 E4j
                  have HR := Lib.hid hr
                  clear hr hcr
                  by_cases h4 : 200 < r.size
                  · have HF := Lib.hid (HN.out (E4j.out h4))
                    have g1 : decide ((r.size : Int) > 200) = true := by rw [decide_eq_true_iff]; omega
                    have g2 : decide ((200 : Int) < (r.size : Int)) = true := by rw [decide_eq_true_iff]; omega
                    clear h4
                    go_wp2_with fail
                    go_ret
                    exact ⟨by first | (rw [HF.out]; done) | (rw [HF.out]; rfl), rfl⟩
                  · have g1 : decide ((r.size : Int) > 200) = false := by rw [decide_eq_false_iff_not]; omega
                    have g2 : decide ((200 : Int) < (r.size : Int)) = false := by rw [decide_eq_false_iff_not]; omega
                    have H4 : Hid (r.size ≤ 200) := Lib.hid (by omega)
                    clear h4
                    go_wp2_with fail
                    go_round
                    case rel => exact ⟨j + 1, by go_num, by omega, fun i hi hij => if e : i = j then by subst e; rw [HR.out]; exact H4.out else HALL.out i hi (by omega)⟩
                    case measure => simp [intOf]; omega
                · obtain rfl : j = rows.length := by omega
                  have HKT : Hid (okb = true) := Lib.hid (E5.out H1.out H2.out H3.out fun i hi => HALL.out i hi hi)
                  clear hjl hrc
                  go_wp2_with fail
                  go_round
                  case rel => exact ⟨k + 1, by go_num, by omega, fun i hi => if e : i = k then by rw [e, HAE.out, HKB.out]; exact HKT.out else HOK.out i (by omega)⟩
                  case measure => simp [intOf]; omega
      · obtain rfl : k = l.length := by omega
        have HF := Lib.hid (HYES.out H30.out HOK.out)
        clear hA hlt
        go_wp2_with fail
        go_ret
        exact ⟨by first | (rw [HF.out]; done) | (rw [HF.out]; rfl), rfl⟩
end Go.Proofs.Ythdmcjiccbgknaa

namespace Go.Proofs.Ythdmcjiccbgknaa
set_option linter.unusedVariables false
set_option linter.unusedSimpArgs false
open Go.ChangeShapes Go.WideShapes Go.RowKit Go.Joins Go.Deep

theorem cellsE : Try.prog.cellsOf 39 = 5 := by kernel_rfl
theorem cellsStr : Try.prog.cellsOf 9 = 1 := by kernel_rfl
theorem cellsStrs : Try.prog.cellsOf 36 = 1 := by kernel_rfl
theorem cellsInts : Try.prog.cellsOf 37 = 1 := by kernel_rfl

section
variable {H : Type} {enc' : TypeId × Value → H} {W : World}

theorem some_at7 {α : Type} {ys : List α} {i n : Nat} (h : ys.length = n) (hi : i < n) : ∃ y, ys[i]? = some y := ⟨ys[i]'(by omega), List.getElem?_eq_getElem (by omega)⟩
set_option maxRecDepth 100000 in
theorem strs_of7 {fuel : Nat} {cs : List Value} {x : DataW H × List MemPlace} (h : DataW.trod enc' Try.prog W 0 (fun _ => true) true fuel 36 cs = some x) :
    ∃ v, cs = [v] ∧ ∃ l : List ByteArray, Row W W.heap.size v (sv l) := by
  rcases open_strings Try.underlying36 Try.underlying9 cellsStr h with ⟨hcs, _⟩ | ⟨a, len, cap, ss, hcs, _, hl, hm, hz, _, hcell, hwf⟩
  · exact ⟨_, hcs, [], none, 0, rfl, fun h => by simp [sv] at h⟩
  · have hzl : len ≤ ss.length := by rw [hz]; simpa using hl
    refine ⟨_, hcs, ss.take len, ⟨some a, cap, by rw [sv_length, List.length_take, Nat.min_eq_left hzl], fun h0 => ?_⟩⟩
    rw [sv_length] at h0
    have h1 : 0 < ss.length := by rw [List.length_take] at h0; omega
    obtain ⟨b, off, rfl, hb⟩ := plain_at (hcell 0 h1)
    refine ⟨b, off, rfl, hb, fun k hk => ?_⟩
    rw [sv_length] at hk
    have hk2 : k < len ∧ k < ss.length := by rw [List.length_take] at hk; omega
    rw [← Go.WideShapes.add_plain, hcell k hk2.2, sv_get _ k hk]
    simp [List.getElem_take, List.getD_eq_getElem?_getD, hk2.2]
set_option maxRecDepth 100000 in
set_option maxHeartbeats 1000000 in
theorem de_of {fuel : Nat} {cs : List Value} {x : DataW H × List MemPlace} (h : DataW.trod enc' Try.prog W 0 (fun _ => true) true fuel 39 cs = some x) :
    ∃ (a : De) (ur uk : Value), cs = [.int .i64 a.o, .string a.row, ur, uk, .int .i64 a.n] ∧ Row W W.heap.size ur (sv a.rows) ∧ IRow W W.heap.size uk a.keep ∧ a.wf := by
  obtain ⟨ys, n, _, hx, hlen, hyl, hf⟩ := DataW.trod_struct Try.underlying39 h
  rw [cellsE] at hlen
  match cs, hlen with
  | [c0, c1, c2, c3, c4], _ =>
    have h0 : DataW.trod enc' Try.prog W 0 (fun _ => true) true n 3 (([c0, c1, c2, c3, c4].drop 0).take (Try.prog.cellsOf 3)) = ys[0]? := hf 0 _ rfl
    have h1 : DataW.trod enc' Try.prog W 0 (fun _ => true) true n 9 (([c0, c1, c2, c3, c4].drop 1).take (Try.prog.cellsOf 9)) = ys[1]? := hf 1 _ rfl
    have h2 : DataW.trod enc' Try.prog W 0 (fun _ => true) true n 36 (([c0, c1, c2, c3, c4].drop 2).take (Try.prog.cellsOf 36)) = ys[2]? := hf 2 _ rfl
    have h3 : DataW.trod enc' Try.prog W 0 (fun _ => true) true n 37 (([c0, c1, c2, c3, c4].drop 3).take (Try.prog.cellsOf 37)) = ys[3]? := hf 3 _ rfl
    have h4 : DataW.trod enc' Try.prog W 0 (fun _ => true) true n 3 (([c0, c1, c2, c3, c4].drop 4).take (Try.prog.cellsOf 3)) = ys[4]? := hf 4 _ rfl
    rw [cells3] at h0 h4; rw [cellsStr] at h1; rw [cellsStrs] at h2; rw [cellsInts] at h3
    obtain ⟨y0, e0⟩ := some_at7 (i := 0) hyl (by decide)
    obtain ⟨y1, e1⟩ := some_at7 (i := 1) hyl (by decide)
    obtain ⟨y2, e2⟩ := some_at7 (i := 2) hyl (by decide)
    obtain ⟨y3, e3⟩ := some_at7 (i := 3) hyl (by decide)
    obtain ⟨y4, e4⟩ := some_at7 (i := 4) hyl (by decide)
    rw [e0] at h0; rw [e1] at h1; rw [e2] at h2; rw [e3] at h3; rw [e4] at h4
    obtain ⟨o, ho, _, how⟩ := DataW.trod_int Try.underlying3 h0
    obtain ⟨s, hs, _, _⟩ := DataW.trod_string Try.underlying9 h1
    obtain ⟨ur, hur, lr, hlr⟩ := strs_of7 h2
    obtain ⟨uk, huk, lk, hlk, _⟩ := ints_of h3
    obtain ⟨m, hm, _, hmw⟩ := DataW.trod_int Try.underlying3 h4
    have k0 : c0 = .int .i64 o := by simpa using ho
    have k1 : c1 = .string s := by simpa using hs
    have k2 : c2 = ur := by simpa using hur
    have k3 : c3 = uk := by simpa using huk
    have k4 : c4 = .int .i64 m := by simpa using hm
    subst k0; subst k1; subst k2; subst k3; subst k4
    exact ⟨⟨o, s, lr, lk, m⟩, _, _, rfl, hlr, hlk, ⟨int_wf how, int_wf hmw⟩⟩
/-- A slice of deeds. -/
def OpenDeeds (W : World) (v : Value) (l : List De) : Prop := ERow W W.heap.size v l ∧ (∀ k, k < l.length → (gd l k).wf) ∧ l.length ≤ 9223372036854775807
set_option maxRecDepth 100000 in
set_option maxHeartbeats 1000000 in
theorem open_deeds {v : Value} {d : DataW H} {p : List MemPlace} {b0 : Nat} {r : Reach} (hv : Value.okWide Try.prog W r b0 22 v) (h : DataW.Trod enc' Try.prog W 0 (fun _ => true) true 22 v d p) :
    ∃ l : List De, OpenDeeds W v l := by
  obtain ⟨a0, len0, cap0, rfl⟩ := okWide_slice Try.underlying22 hv
  obtain ⟨fuel, hf⟩ := h
  rcases open_slice Try.underlying22 hf with ⟨hcs, _⟩ | ⟨a, len, cap, m, n, D, Pl, hcs, _, hl, hm, hmm, hx, hi⟩
  · have e : Value.slice a0 len0 cap0 = .slice none 0 0 := by simpa [Value.cells] using hcs
    rw [e]
    exact ⟨[], ⟨none, 0, rfl, fun h => by simp at h⟩, fun k hk => by simp at hk, by simp⟩
  · have e : Value.slice a0 len0 cap0 = .slice (some a) len cap := by simpa [Value.cells] using hcs
    rw [e]
    rw [cellsE] at hi
    have hml : len ≤ m := by rw [hmm]; simpa using hl
    have each : ∀ i, i < len → ∃ (x : De) (ur uk : Value), Row W W.heap.size ur (sv x.rows) ∧ IRow W W.heap.size uk x.keep ∧ x.wf ∧ ∀ j, j < 5 → W.cell? ((a.add (i * 5)).add j) = [Value.int .i64 x.o, .string x.row, ur, uk, .int .i64 x.n][j]? := by
      intro i him
      obtain ⟨cs', hc, ht⟩ := hi i (by omega)
      obtain ⟨x, ur, uk, hcs', h1, h2, h3⟩ := de_of ht
      obtain ⟨_, _, hat⟩ := World.cells?_some hc
      exact ⟨x, ur, uk, h1, h2, h3, fun j hj => by rw [hat j hj, hcs']⟩
    classical
    let f : Nat → De := fun i => if h : i < len then (each i h).choose else default
    have hf' : ∀ i (h : i < len), ∃ (ur uk : Value), Row W W.heap.size ur (sv (f i).rows) ∧ IRow W W.heap.size uk (f i).keep ∧ (f i).wf ∧ ∀ j, j < 5 → W.cell? ((a.add (i * 5)).add j) = [Value.int .i64 (f i).o, .string (f i).row, ur, uk, .int .i64 (f i).n][j]? := by
      intro i h
      have := (each i h).choose_spec
      simp only [f, dif_pos h]
      exact this
    have hg : ∀ k, k < len → gd ((List.range len).map f) k = f k := fun k hk => by
      rw [gd_get _ _ (by simpa using hk)]; simp
    refine ⟨(List.range len).map f, ⟨some a, cap, by simp, fun h0 => ?_⟩, fun k hk => ?_, by simp; unfold maxLen at hm; omega⟩
    · have h1 : 0 < len := by simpa using h0
      obtain ⟨ur, uk, _, _, _, hc⟩ := hf' 0 h1
      have hc0 := hc 0 (by omega)
      rw [Nat.zero_mul] at hc0
      have e0 : (a.add 0).add 0 = a.add 0 := by simp [Addr.add]
      rw [e0] at hc0
      obtain ⟨b, off, rfl, hb⟩ := plain_at hc0
      refine ⟨b, off, rfl, hb, fun k hk => ?_⟩
      have hkl : k < len := by simpa using hk
      obtain ⟨ur, uk, h1, h2, _, hc⟩ := hf' k hkl
      rw [hg k hkl]
      have hadd : ∀ j, ((⟨b, off, none⟩ : Addr).add (k * 5)).add j = ⟨b, off + k * 5 + j, none⟩ := fun j => by rw [Go.WideShapes.add_plain, Go.WideShapes.add_plain]
      refine ⟨ur, uk, h1, h2, ?_, ?_, ?_, ?_, ?_⟩
      · have := hc 0 (by omega); rw [hadd] at this; exact this
      · have := hc 1 (by omega); rw [hadd] at this; exact this
      · have := hc 2 (by omega); rw [hadd] at this; exact this
      · have := hc 3 (by omega); rw [hadd] at this; exact this
      · have := hc 4 (by omega); rw [hadd] at this; exact this
    · have hkl : k < len := by simpa using hk
      obtain ⟨_, _, _, _, h3, _⟩ := hf' k hkl
      rw [hg k hkl]; exact h3
end
end Go.Proofs.Ythdmcjiccbgknaa

namespace Go.Proofs.Ythdmcjiccbgknaa
set_option linter.unusedVariables false
set_option linter.unusedSimpArgs false
open Go.RowKit

theorem and7 (o : Int) : bits .and .i64 o 7 = o % 8 := by
  show IntKind.i64.wrap ((BitVec.ofInt 64 o &&& BitVec.ofInt 64 7).toNat : Int) = _
  rw [BitVec.toNat_and]
  have h7 : (BitVec.ofInt 64 7).toNat = 2 ^ 3 - 1 := by decide
  rw [h7, Nat.and_two_pow_sub_one_eq_mod, BitVec.toNat_ofInt, IntKind.wrap_i64]
  omega
/-- A disk without crashes and lost flushes. -/
structure Still (s : Dk) : Prop where
  calm : Calm s
  lost : s.lost = 0
theorem Still.settle {s : Dk} (h : Still s) (f : Nat) (b : ByteArray) : Still (s.settle f b) := ⟨⟨h.calm.dn, h.calm.ca⟩, h.lost⟩
theorem Still.put {s : Dk} (h : Still s) (p : List Pc) : Still { s with pend := p } := ⟨⟨h.calm.dn, h.calm.ca⟩, h.lost⟩
theorem pending_settle (s : Dk) (f : Nat) (b : ByteArray) : (s.settle f b).pending f = false := by
  unfold Dk.pending Dk.settle
  rw [List.any_eq_false]
  intro p hp
  have := (List.mem_filter.1 hp).2
  simpa using this
theorem runT_step {t : Dk → Int × Dk} {T : List (Dk → Int × Dk)} {s S : Dk} (h : t s = (0, S)) : runT (t :: T) s = runT T S := runT_ok h rfl
theorem Lg.append_still {g : Lg} {s : Dk} (h : Still s) (f : Nat) (hf : f < 7) (hg : g.file = f) (row : ByteArray) (hx : ext (g.rows ++ [row]) ≤ 16000000) :
    ∃ s', g.append s row = (0, ⟨g.file, g.rows ++ [row], g.sure⟩, s') ∧ Still s' ∧ s'.pend.length ≤ s.pend.length + (8 + row.size) ∧ s' = { s with pend := s.pend ++ pcs f (frm row).size (ext g.rows) (frm row) } := by
  have hx' := ext_app g.rows row
  have hw := Calm.write h.calm (f := f) (a := ext g.rows) (frm row) (by omega) (by rw [frm_size]; omega)
  refine ⟨_, ?_, h.put _, ?_, rfl⟩
  · unfold Lg.append
    rw [hg, hw]
    rfl
  · show (s.pend ++ pcs f (frm row).size (ext g.rows) (frm row)).length ≤ _
    have := pcs_length f (frm row).size (ext g.rows) (frm row)
    rw [frm_size] at this
    rw [List.length_append, frm_size]; omega
theorem Lg.flush_still {g : Lg} {s : Dk} (h : Still s) (f : Nat) (hf : f < 7) (hg : g.file = f) :
    ∃ s', g.flush s = (0, ⟨g.file, g.rows, g.rows.length⟩, s') ∧ Still s' ∧ s'.pend.length ≤ s.pend.length + 16 := by
  unfold Lg.flush
  by_cases hs : g.sure = g.rows.length
  · rw [if_pos hs, if_neg (by rw [h.calm.dn]; simp)]
    exact ⟨s, by rw [← hs], h, by omega⟩
  · rw [if_neg hs, hg]
    have a1 := Calm.flush h.calm (f := f) (by omega) h.lost
    have h1 := h.settle f (s.bytes f)
    have a2 := Calm.write h1.calm (f := f) (a := 0) (hdr (ext g.rows) g.rows.length) (by omega) (by rw [hdr_size]; omega)
    have h2 := h1.put ((s.settle f (s.bytes f)).pend ++ pcs f (hdr (ext g.rows) g.rows.length).size 0 (hdr (ext g.rows) g.rows.length))
    have a3 := Calm.flush h2.calm (f := f) (by omega) h2.lost
    have e : runT [fun s => s.flush (f : Int), fun s => s.write (f : Int) 0 (hdr (ext g.rows) g.rows.length), fun s => s.flush (f : Int)] s = (0, _) := (runT_step a1).trans ((runT_step a2).trans (runT_step a3))
    simp only [e]
    refine ⟨_, rfl, h2.settle _ _, ?_⟩
    refine Nat.le_trans (Dk.settle_pend _ _ _) ?_
    show (_ ++ _ : List Pc).length ≤ _
    have l1 := Dk.settle_pend s f (s.bytes f)
    have l2 := pcs_length f (hdr (ext g.rows) g.rows.length).size 0 (hdr (ext g.rows) g.rows.length)
    rw [hdr_size] at l2
    rw [List.length_append, hdr_size]; omega
theorem Calm.cut0 {s : Dk} (h : Calm s) {f : Nat} (hf : f < 8) : s.cut f 0 = (0, s.settle f ((s.bytes f).extract 0 0)) := by
  unfold Dk.cut Dk.cut0
  rw [h.enter, h.chk hf, if_neg (by simp), if_neg (by simp)]
  simp
theorem Lg.rewrite_still {g : Lg} {s : Dk} (h : Still s) (f : Nat) (hf : f < 7) (hg : g.file = f) (l : List ByteArray) (hx : ext l ≤ 16000000) :
    ∃ s', g.rewrite s l = (0, ⟨g.file, l, l.length⟩, s') ∧ Still s' ∧ s'.pend.length ≤ s.pend.length + ext l := by
  unfold Lg.rewrite
  rw [hg]
  have a1 := Calm.cut0 h.calm (f := f + 1) (by omega)
  have h1 := h.settle (f + 1) ((s.bytes (f + 1)).extract 0 0)
  have a2 := Calm.write h1.calm (f := f + 1) (a := 0) (whl l) (by omega) (by rw [whl_size]; omega)
  have h2 := h1.put ((s.settle (f + 1) ((s.bytes (f + 1)).extract 0 0)).pend ++ pcs (f + 1) (whl l).size 0 (whl l))
  have a3 := Calm.flush h2.calm (f := f + 1) (by omega) h2.lost
  obtain ⟨S2, hS2⟩ : ∃ S2, ({ s.settle (f + 1) ((s.bytes (f + 1)).extract 0 0) with pend := (s.settle (f + 1) ((s.bytes (f + 1)).extract 0 0)).pend ++ pcs (f + 1) (whl l).size 0 (whl l) } : Dk) = S2 := ⟨_, rfl⟩
  have hp2 : S2.pend.length ≤ s.pend.length + ext l := by
    rw [← hS2]
    show (_ ++ _ : List Pc).length ≤ _
    have l1 := Dk.settle_pend s (f + 1) ((s.bytes (f + 1)).extract 0 0)
    have l2 := pcs_length (f + 1) (whl l).size 0 (whl l)
    rw [whl_size] at l2
    rw [List.length_append, whl_size]; omega
  rw [hS2] at a2 a3 h2
  have h3 := h2.settle (f + 1) (S2.bytes (f + 1))
  have a4 := Calm.turn h3.calm (f := f) (g := f + 1) (by omega) (by omega) (by omega)
  rw [if_neg (by rw [pending_settle]; simp)] at a4
  have c1 : ((f : Int) + 1) = ((f + 1 : Nat) : Int) := by omega
  rw [c1]
  have e : runT [fun s => s.cut ((f + 1 : Nat) : Int) 0, fun s => s.write ((f + 1 : Nat) : Int) 0 (whl l), fun s => s.flush ((f + 1 : Nat) : Int), fun s => s.turn (f : Int) ((f + 1 : Nat) : Int)] s = (0, _) := (runT_step a1).trans ((runT_step a2).trans ((runT_step a3).trans (runT_step a4)))
  simp only [e]
  refine ⟨_, rfl, (h3.settle _ _).settle _ _, ?_⟩
  exact Nat.le_trans (Dk.settle_pend _ _ _) (Nat.le_trans (Dk.settle_pend _ _ _) (Nat.le_trans (Dk.settle_pend _ _ _) hp2))
/-- A log with its disk, and a slice of rows beside it. -/
def LR7 (W w : World) (lb db : Nat) (vl : Value) (g : Lg) (s : Dk) (v : Value) (rows : List ByteArray) : Prop := ∃ B : Nat → Prop, LD B w lb db vl g s ∧ (∀ k, B k → W.heap.size ≤ k ∧ k < w.heap.size) ∧ w.ownsRow W.heap.size 9 1 v rows.length (sv rows) ∧ (∀ k, v.ownBlock = some k → ¬ B k) ∧ Below W.heap.size W w
theorem LR7.bel {W w : World} {lb db : Nat} {vl v : Value} {g : Lg} {s : Dk} {rows : List ByteArray} (h : LR7 W w lb db vl g s v rows) : Below W.heap.size W w := by obtain ⟨_, _, _, _, _, h⟩ := h; exact h
theorem LR7.start {W w : World} {lb db : Nat} {vl : Value} {g : Lg} {s : Dk} (h : LJ W w lb db vl g s) : LR7 W w lb db vl g s (.slice none 0 0) [] :=
  ⟨_, h.1.tight, fun k hk => hk, World.ownsRow_nil _ _ _ _, fun k hk => by simp [Value.ownBlock] at hk, h.2⟩
theorem LR7.lj {W w : World} {lb db : Nat} {vl v : Value} {g : Lg} {s : Dk} {rows : List ByteArray} (h : LR7 W w lb db vl g s v rows) : LJ W w lb db vl g s := by
  obtain ⟨B, h1, h2, _, _, h5⟩ := h
  exact ⟨h1.mono fun k _ hk => (h2 k hk).1, h5⟩
theorem LR7.own {W w : World} {lb db : Nat} {vl v : Value} {g : Lg} {s : Dk} {rows : List ByteArray} (h : LR7 W w lb db vl g s v rows) : w.ownsRow W.heap.size 9 1 v rows.length (sv rows) := by obtain ⟨_, _, _, h, _⟩ := h; exact h
theorem LR7.below {W w w2 : World} {lb db : Nat} {vl v : Value} {g : Lg} {s : Dk} {rows : List ByteArray} (h : LR7 W w lb db vl g s v rows) (b : Below w.heap.size w w2) : LR7 W w2 lb db vl g s v rows := by
  obtain ⟨B, h1, h2, h3, h4, h5⟩ := h
  exact ⟨B, h1.below b, fun k hk => ⟨(h2 k hk).1, Nat.lt_of_lt_of_le (h2 k hk).2 b.size⟩, own_belowJ h3 b, h4, h5.trans (b.mono h5.size)⟩
theorem call_lr {F : FuncId} {args : Array Value} {W w1 : World} {lb db : Nat} {vl v : Value} {g : Lg} {s : Dk} {rows : List ByteArray} {r : Int × Lg × Dk} (h : LR7 W w1 lb db vl g s v rows) (hc : ∀ B, LD B w1 lb db vl g s → (∀ k, B k → W.heap.size ≤ k ∧ k < w1.heap.size) → Calls Try.prog F args w1 (LPost B w1 lb db r)) :
    Calls Try.prog F args w1 fun e w2 => e = .returned (.int .i64 r.1) ∧ ∃ vl', LR7 W w2 lb db vl' r.2.1 r.2.2 v rows := by
  obtain ⟨B, h1, h2, h3, h4, h5⟩ := h
  refine (hc B h1 h2).mono ?_
  rintro e w2 ⟨he, vl', ho⟩
  have hs := ho.fr.size
  refine ⟨he, vl', _, ho.at_, fun k hk => ?_, own_heapJ h3 fun k hk hkl => ho.fr.block k hkl (h4 k hk), fun k hk hb => ?_, h5.trans (ho.fr.to_below h5.size fun k hk hb => by have := (h2 k hb).1; omega)⟩
  · rcases hk with hk | hk
    · exact ⟨(h2 k hk).1, Nat.lt_of_lt_of_le (h2 k hk).2 hs⟩
    · exact ⟨Nat.le_trans h5.size hk.1, hk.2⟩
  · rcases hb with hb | hb
    · exact h4 k hk hb
    · have := (World.ownsRow.lt h3 k hk).2; omega
/-- The slice of rows has become another one. -/
theorem LR7.rows {W w w2 : World} {lb db : Nat} {vl v v' : Value} {g : Lg} {s : Dk} {rows rows' : List ByteArray} (h : LR7 W w lb db vl g s v rows) (hg : w.grownBy w2 v.ownBlock) (hown : w2.ownsRow W.heap.size 9 1 v' rows'.length (sv rows')) (hat : ∀ k, v'.ownBlock = some k → v.ownBlock = some k ∨ w.heap.size ≤ k) : LR7 W w2 lb db vl g s v' rows' := by
  obtain ⟨B, h1, h2, h3, h4, h5⟩ := h
  have hf : Fr (fun k => v.ownBlock = some k) w w2 := ⟨hg.os, hg.tape, hg.output, hg.size, fun k hk hn => hg.block k hk (fun e => hn e.symm)⟩
  refine ⟨B, h1.fr hf fun k _ hb hv => h4 k hv hb, fun k hk => ⟨(h2 k hk).1, Nat.lt_of_lt_of_le (h2 k hk).2 hg.size⟩, hown, fun k hk hb => ?_, h5.trans (hf.to_below h5.size fun k hk hv => by have := (World.ownsRow.lt h3 k hv).1; omega)⟩
  rcases hat k hk with hk' | hk'
  · exact h4 k hk' hb
  · have := (h2 k hb).2; omega
end Go.Proofs.Ythdmcjiccbgknaa

namespace Go.Proofs.Ythdmcjiccbgknaa
set_option linter.unusedVariables false
set_option linter.unusedSimpArgs false
open Go.RowKit

/-- A slice value that reads as news, wherever it lies. -/
structure Src (w : World) (u : Value) (m sz : Nat) (news : List Value) : Prop where
  ex : ∃ A cap, u = .slice A m cap ∧ news.length = m * sz ∧ (A = none → m = 0) ∧ ∀ ad, A = some ad → ∀ j y, news[j]? = some y → w.cell? (ad.add j) = some y
theorem Src.below {w w' : World} {u : Value} {m sz : Nat} {news : List Value} (h : Src w u m sz news) (hb : Below w.heap.size w w') : Src w' u m sz news := by
  obtain ⟨A, cap, hv, h0, h1, h2⟩ := h
  exact ⟨A, cap, hv, h0, h1, fun ad ha j y hy => (hb.cell (World.block_lt_of_cell? w _ (h2 ad ha j y hy))).trans (h2 ad ha j y hy)⟩
set_option maxRecDepth 100000 in
/-- What append to an empty new slice does: nothing that was there changes. -/
theorem app_new {w : World} {t e : TypeId} {i : TypeInfo} {z : Value} {sz bytes : Nat} (ht : Try.prog.underlying t = some (.slice e)) (hi : Try.prog.info? e = some i) (hz : i.zero = some z)
    (hsize : i.size = sz) (hby : i.bytes = bytes) (hzs : z.cells.size = sz) (hsz : 0 < sz) (g : Nat) (hg : w.ownsRow 0 e sz (.slice (some ⟨g, 0, none⟩) 0 0) 0 []) (u : Value) (m : Nat) (news : List Value) (hu : Src w u m sz news) (h1 : ∀ y ∈ news, y.oneCell' = true) (hm : m ≤ 1000000) (hb : bytes ≤ 64) :
    ∃ v' w', (Builtin.append_ #[t, t] t #[.slice (some ⟨g, 0, none⟩) 0 0, u]).run Try.prog w = .ok v' w' ∧ w'.ownsRow 0 e sz v' m news ∧ Below w.heap.size w w' ∧ (v'.ownBlock = some g ∨ v'.ownBlock = some w.heap.size) := by
  obtain ⟨A, cap, rfl, h0, h3, hc⟩ := hu
  rcases A with _ | ad
  · obtain rfl : m = 0 := h3 rfl
    obtain rfl : news = [] := List.eq_nil_of_length_eq_zero (by omega)
    have hun := run_underlying (P := Try.prog) ht
    refine ⟨.slice (some ⟨g, 0, none⟩) 0 0, w, ?_, hg, Below.refl _ _, .inl rfl⟩
    simp [Builtin.append_, hun, Builtin.lenOf, Builtin.firstCells, sizeOf, typeInfo, hi, storeCells]
  · by_cases hm0 : m = 0
    · subst hm0
      obtain rfl : news = [] := List.eq_nil_of_length_eq_zero (by omega)
      have hun := run_underlying (P := Try.prog) ht
      refine ⟨.slice (some ⟨g, 0, none⟩) 0 0, w, ?_, hg, Below.refl _ _, .inl rfl⟩
      simp [Builtin.append_, hun, Builtin.lenOf, Builtin.firstCells, sizeOf, typeInfo, hi, storeCells, loadCells, loadCellsFrom]
    · have hmb : m * bytes ≤ 64000000 := by
        have := Nat.mul_le_mul hm hb; omega
      have hr := run_append_grow (P := Try.prog) w t t e i z ht hi hz ⟨g, 0, none⟩ 0 0 [] (by simp) (fun j v h => by simp at h) ad m cap news (by rw [hsize]; exact h0) (hc ad rfl) (by omega) (by omega) (growslice_fits (by omega) (by rw [hby, Nat.zero_add]; omega))
      have hge := grownCap_ge w (0 + m) 0 e
      have hle := grownCap_le_maxLen w (0 + m) 0 e (by unfold maxLen; omega)
      simp only [Nat.zero_add] at hr hge hle
      refine ⟨_, _, hr, ?_, ((Below.refl w.heap.size w).drew).alloc (Nat.le_refl _) _, .inr rfl⟩
      refine ⟨h0, .inr ⟨w.heap.size, _, _, rfl, Nat.zero_le _, heap_alloc_new w.drew _, by omega, hle, ?_, ?_⟩⟩
      · simp only [Array.size_append, List.size_toArray, size_zeroCells, hzs, h0, List.length_nil, Nat.zero_add]
        rw [← Nat.add_mul]
        congr 1
        omega
      · simp only [Array.toList_append, List.append_assoc, List.nil_append]
        rw [← h0]
        exact List.take_left
theorem own_made (w : World) (e : TypeId) (sz : Nat) : (w.alloc (.cells #[] e)).ownsRow 0 e sz (.slice (some ⟨w.heap.size, 0, none⟩) 0 0) 0 [] :=
  ⟨by simp, .inr ⟨w.heap.size, 0, #[], rfl, Nat.zero_le _, heap_alloc_new w _, Nat.le_refl _, by decide, by simp, by simp⟩⟩
theorem Src.row {w : World} {B : Nat} {u : Value} {l : List ByteArray} (h : Row w B u (sv l)) : Src w u l.length 1 (sv l) ∨ (l = [] ∧ ∃ A cap, u = .slice A 0 cap) := by
  obtain ⟨A, cap, rfl, hA⟩ := h
  rw [sv_length] at hA ⊢
  by_cases h0 : 0 < l.length
  · obtain ⟨b, off, rfl, _, hc⟩ := hA h0
    refine .inl ⟨_, cap, rfl, by rw [sv_length, Nat.mul_one], (fun h => by cases h), fun ad ha j y hy => ?_⟩
    injection ha with ha
    subst ha
    have hj : j < l.length := by
      have := (List.getElem?_eq_some_iff.1 hy).1
      rwa [sv_length] at this
    rw [Go.WideShapes.add_plain, hc j hj, hy]
  · obtain rfl : l = [] := List.eq_nil_of_length_eq_zero (by omega)
    exact .inr ⟨rfl, A, cap, rfl⟩
set_option maxRecDepth 100000 in
/-- append([]string{}, rows...). -/
theorem app_rows {w : World} {B : Nat} {u : Value} {l : List ByteArray} (h : Row w B u (sv l)) (hl : l.length ≤ 1000000) :
    ∃ vA vcap w', (Builtin.append_ #[36, 36] 36 #[.slice (some ⟨w.heap.size, 0, none⟩) 0 0, u]).run Try.prog (w.alloc (.cells #[] 9)) = .ok (.slice vA l.length vcap) w' ∧ w'.ownsRow w.heap.size 9 1 (.slice vA l.length vcap) l.length (sv l) ∧ Below w.heap.size w w' := by
  obtain ⟨i0, hi, hz0, hz1, hz2⟩ := info_parts infoSt
  have hb := below_new w (.cells #[] 9)
  rcases Src.row h with hs | ⟨rfl, A, cap, rfl⟩
  · obtain ⟨v', w', h1, h2, h3, h4⟩ := app_new (w := w.alloc (.cells #[] 9)) (t := 36) (bytes := 16) Try.underlying36 hi hz0 hz1 hz2 rfl (by decide) w.heap.size (own_made w _ _) u l.length (sv l) (hs.below hb) (sv_one _) hl (by decide)
    have hlo : ∀ k, v'.ownBlock = some k → w.heap.size ≤ k := fun k hk => by
      rcases h4 with h4 | h4
      · rw [h4] at hk; injection hk with hk; omega
      · rw [h4] at hk; injection hk with hk; simp at hk; omega
    have h5 : w'.ownsRow w.heap.size 9 1 v' l.length (sv l) := by
      refine ⟨h2.1, ?_⟩
      rcases h2.2 with h | ⟨g, cap, cur, hv, _, r⟩
      · exact .inl h
      · exact .inr ⟨g, cap, cur, hv, hlo g (by rw [hv]; rfl), r⟩
    obtain ⟨vA, vcap, rfl⟩ : ∃ A cap, v' = .slice A l.length cap := by
      obtain ⟨A, cap, e, _⟩ := Row.of_own h2
      rw [sv_length] at e
      exact ⟨A, cap, e⟩
    exact ⟨vA, vcap, w', h1, h5, hb.trans (h3.mono (by simp))⟩
  · have hun := run_underlying (P := Try.prog) Try.underlying36
    refine ⟨some ⟨w.heap.size, 0, none⟩, 0, w.alloc (.cells #[] 9), ?_, ⟨by simp [sv], .inr ⟨w.heap.size, 0, #[], rfl, Nat.le_refl _, heap_alloc_new w _, Nat.le_refl _, by decide, by simp, by simp [sv]⟩⟩, hb⟩
    cases A <;> simp [Builtin.append_, hun, Builtin.lenOf, Builtin.firstCells, sizeOf, typeInfo, hi, storeCells, loadCells, loadCellsFrom]
theorem row_fr {W w w' : World} {C : Nat → Prop} {u : Value} {xs : List Value} (h : Row W W.heap.size u xs) (hb : Below W.heap.size W w) (hf : Fr C w w') (hC : ∀ k, k < W.heap.size → ¬ C k) : Row w' w'.heap.size u xs := h.keep (hb.trans (hf.to_below hb.size hC))
/-- A round's beginning: the deed is copied into a box. -/
theorem LR7.step {W w : World} {lb db : Nat} {vl v : Value} {g : Lg} {s : Dk} {rows : List ByteArray} (h : LR7 W w lb db vl g s v rows) (t : TypeId) (cs : Array Value) :
    ∃ B : Nat → Prop, LD B (w.alloc (.cells cs t)) lb db vl g s ∧ (∀ k, B k → W.heap.size ≤ k ∧ k < w.heap.size) ∧ Below W.heap.size W (w.alloc (.cells cs t)) ∧ ∀ w2 vl' g' s', LOp B (w.alloc (.cells cs t)) w2 lb db vl' g' s' → LR7 W w2 lb db vl' g' s' v rows ∧ Blk w2 w.heap.size t cs := by
  obtain ⟨B, h1, h2, h3, h4, h5⟩ := h
  have hb := below_new w (.cells cs t)
  refine ⟨B, h1.below hb, h2, h5.trans (hb.mono h5.size), fun w2 vl' g' s' ho => ⟨?_, ho.keep (Blk.new w t cs) fun hx => by have := (h2 _ hx).2; omega⟩⟩
  have hs := ho.fr.size
  have hs1 : (w.alloc (.cells cs t)).heap.size = w.heap.size + 1 := by simp
  refine ⟨_, ho.at_, fun k hk => ?_, own_heapJ (own_belowJ h3 hb) fun k hk hkl => ho.fr.block k hkl (h4 k hk), fun k hk hx => ?_, (h5.trans (hb.mono h5.size)).trans (ho.fr.to_below (by have := h5.size; omega) fun k hk hx => by have := (h2 k hx).1; omega)⟩
  · rcases hk with hk | hk
    · exact ⟨(h2 k hk).1, by have := (h2 k hk).2; omega⟩
    · exact ⟨by have := h5.size; omega, hk.2⟩
  · rcases hx with hx | hx
    · exact h4 k hk hx
    · have := (World.ownsRow.lt h3 k hk).2; omega
theorem own_formJ {w : World} {base sz n : Nat} {e : TypeId} {v : Value} {xs : List Value} (h : w.ownsRow base e sz v n xs) : ∃ A cap, v = .slice A n cap := by
  rcases h.2 with ⟨rfl, h0⟩ | ⟨g, cap, cur, hv, _⟩
  · exact ⟨none, 0, by rw [h0]⟩
  · exact ⟨_, cap, hv⟩
end Go.Proofs.Ythdmcjiccbgknaa
