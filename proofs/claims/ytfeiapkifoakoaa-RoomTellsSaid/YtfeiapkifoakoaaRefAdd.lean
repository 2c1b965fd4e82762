/-
  Contracts of the reference's Add, Cut, Has and Meets, from that of its Of.
-/
import Derived.Test.YtfeiapkifoakoaaTells
import Derived.Laws.AppendOwnNone
namespace Go.Proofs.Ytfeiapkifoakoaa
set_option linter.unusedVariables false
set_option linter.unusedSimpArgs false
open Go.RowKit

theorem info24 : (Try.prog.info? 24).map (fun i => (i.zero, i.size, i.bytes)) = some (some (.agg #[.int .i64 0, .int .i64 0]), 2, 16) := by kernel_rfl
/-- A row of spans that the call owns reads as spans. -/
theorem srow_own {w : World} {base : Nat} {v : Value} {l : List Sp} (hw : ∀ s ∈ l, s.wf) (hl : l.length ≤ 1000000) (h : w.ownsRow base 24 2 v l.length (sc l)) : SRow w w.heap.size v l := by
  rcases h.2 with ⟨rfl, h0⟩ | ⟨g, cap, cur, rfl, hb, hg, hn, hm, hc, ht⟩
  · have : l = [] := List.eq_nil_of_length_eq_zero h0
    subst this
    exact srow_nil0 _ _
  · refine ⟨⟨hw, fun A n c h => by injection h with h1 h2 h3; subst h1; subst h2; subst h3; exact ⟨hn, hm, fun h => by cases h⟩⟩, hl, some ⟨g, 0, none⟩, cap, rfl, fun h0 => ⟨g, 0, rfl, (Array.getElem?_eq_some_iff.1 hg).1, fun i hi => ?_⟩⟩
    have hs := sc_at l i hi
    rw [← ht, List.getElem?_take, List.getElem?_take, if_pos (by omega), if_pos (by omega)] at hs
    rw [cell_of_row _ _ _ _ _ _ hg, cell_of_row _ _ _ _ _ _ hg, Nat.zero_add]
    simpa using hs
theorem srow_news {w : World} {B : Nat} {b off cap : Nat} {l : List Sp} (h : ∀ i, i < l.length → w.cell? ⟨b, off + i * 2, none⟩ = some (.int .i64 (gt l i).p) ∧ w.cell? ⟨b, off + i * 2 + 1, none⟩ = some (.int .i64 (gt l i).n)) :
    ∀ j u, (sc l)[j]? = some u → w.cell? ((⟨b, off, none⟩ : Addr).add j) = some u := by
  intro j u hu
  have hj : j < 2 * l.length := by
    have := (List.getElem?_eq_some_iff.1 hu).1
    rw [sc_length] at this; exact this
  have hadd : (⟨b, off, none⟩ : Addr).add j = ⟨b, off + j, none⟩ := by unfold Addr.add; split <;> simp_all
  rw [hadd]
  obtain ⟨h1, h2⟩ := h (j / 2) (by omega)
  obtain ⟨s1, s2⟩ := sc_at l (j / 2) (by omega)
  by_cases hp : j % 2 = 0
  · rw [show j / 2 * 2 = j by omega] at h1 s1
    rw [s1] at hu
    rw [h1]; exact hu
  · rw [show j / 2 * 2 + 1 = j by omega] at s2
    rw [s2] at hu
    rw [show off + j = off + j / 2 * 2 + 1 by omega, h2]; exact hu
theorem sc_one (l : List Sp) : ∀ u ∈ sc l, u.oneCell' = true := by
  intro u hu
  obtain ⟨s, _, hs⟩ := List.mem_flatMap.1 hu
  simp at hs
  rcases hs with rfl | rfl <;> rfl

/-- The reference's Of answers so. -/
def OfSpec : Prop := ∀ (v : Value) (l : List Sp) (s : Sp) (b : Bool) (w : World), l.length ≤ 100 → right l → s.ok → SRow w w.heap.size v l →
  Calls Try.prog 27 #[v, spv s, .bool b] w fun e w' => ∃ u, e = .returned u ∧ SRow w' w'.heap.size u (if b = true then addL l s else cutL l s) ∧ Below w.heap.size w w'

section
variable (O : OfSpec)
include O

set_option maxRecDepth 100000 in
set_option maxHeartbeats 0 in
theorem addR (v : Value) (l : List Sp) (s : Sp) (w : World) (hl : l.length ≤ 100) (hwf : s.wf) (hr : SRow w w.heap.size v l) :
    Calls Try.prog 9 #[v, spv s] w fun e w' => ∃ u, e = .returned u ∧ SRow w' w'.heap.size u (addL l s) ∧ Below w.heap.size w w' := by
  have hwf' := hwf
  have hV := fun w => validR s w hwf
  have HRi := Lib.hid (fun w (h : SRow w w.heap.size v l) => rightR v l w h)
  obtain ⟨p, n⟩ := s
  have hb0 := below_new w (.cells #[.int .i64 p, .int .i64 n] 24)
  have c0 : (w.alloc (.cells #[.int .i64 p, .int .i64 n] 24)).cell? ⟨w.heap.size, 0, none⟩ = some (.int .i64 p) := by rw [cell_of_row _ _ _ _ _ _ (heap_alloc_new w _)]; rfl
  have c1 : (w.alloc (.cells #[.int .i64 p, .int .i64 n] 24)).cell? ⟨w.heap.size, 1, none⟩ = some (.int .i64 n) := by rw [cell_of_row _ _ _ _ _ _ (heap_alloc_new w _)]; rfl
  have hlt : w.heap.size < (w.alloc (.cells #[.int .i64 p, .int .i64 n] 24)).heap.size := by rw [size_new]; omega
  have r0 := hr.keep hb0
  obtain ⟨W, hW⟩ : ∃ W, w.alloc (.cells #[.int .i64 p, .int .i64 n] 24) = W := ⟨_, rfl⟩
  rw [hW] at hb0 c0 c1 hlt r0
  obtain ⟨g, hg⟩ : ∃ g, w.heap.size = g := ⟨_, rfl⟩
  rw [hg] at hb0 c0 c1 hlt
  unfold spv at *
  have HV := Lib.hid hV; clear hV
  have HG := Lib.hid hg
  obtain ⟨A, cap, rfl⟩ : ∃ A cap, v = .slice A l.length cap := by obtain ⟨_, _, A, cap, hv, _⟩ := hr; exact ⟨A, cap, hv⟩
  clear hr
  by_cases hri : right l
  · rw [show decide (right l) = true from decide_eq_true hri] at HRi
    by_cases hok : Sp.ok ⟨p, n⟩
    · rw [show decide (Sp.ok ⟨p, n⟩) = true from decide_eq_true hok] at HV
      have HO := Lib.hid (fun w (h : SRow w w.heap.size (.slice A l.length cap) l) => O _ l ⟨p, n⟩ true w hl hri hok h)
      unfold spv at HO
      go_enter Try.func9, Try.ntmps9
      go_wp2_with fail
      refine (HRi.out _ r0).mono ?_; rintro e w1 ⟨rfl, b1⟩
      clear hW hg
      replace r0 := r0.keep b1
      have d0 := (b1.cell (p := ⟨g, 0, none⟩) hlt).trans c0
      have d1 := (b1.cell (p := ⟨g, 1, none⟩) hlt).trans c1
      go_wp2_with fail
      refine (HV.out _).mono ?_; rintro e w2 ⟨rfl, b2⟩
      replace r0 := r0.keep b2
      replace b2 := chain b1 b2 (Nat.le_refl _)
      have f0 := (b2.cell (p := ⟨g, 0, none⟩) hlt).trans c0
      have f1 := (b2.cell (p := ⟨g, 1, none⟩) hlt).trans c1
      clear b1 d0 d1
      go_wp2_with fail
      refine (HO.out _ r0).mono ?_; rintro e w3 ⟨u, rfl, r3, b3⟩
      replace b3 := chain b2 b3 (Nat.le_refl _)
      go_wp2_with fail
      go_ret
      exact ⟨_, rfl, r3, by rw [HG.out]; exact hb0.trans (b3.mono (Nat.le_of_lt hlt))⟩
    · rw [show decide (Sp.ok ⟨p, n⟩) = false from decide_eq_false hok] at HV
      have HB : Hid (addL l ⟨p, n⟩ = l) := addL_bad (fun h => hok h.2)
      obtain ⟨i0, hi0, hz0, hz1, hz2⟩ := info_parts info24
      go_enter Try.func9, Try.ntmps9
      go_wp2_with fail
      refine (HRi.out _ r0).mono ?_; rintro e w1 ⟨rfl, b1⟩
      clear hW hg
      replace r0 := r0.keep b1
      have d0 := (b1.cell (p := ⟨g, 0, none⟩) hlt).trans c0
      have d1 := (b1.cell (p := ⟨g, 1, none⟩) hlt).trans c1
      go_wp2_with fail
      refine (HV.out _).mono ?_; rintro e w2 ⟨rfl, b2⟩
      replace r0 := r0.keep b2
      replace b2 := chain b1 b2 (Nat.le_refl _)
      have f0 := (b2.cell (p := ⟨g, 0, none⟩) hlt).trans c0
      have f1 := (b2.cell (p := ⟨g, 1, none⟩) hlt).trans c1
      clear b1 d0 d1
      have hsz := b2.size
      have hBA := below_new w2 (.cells #[] 24)
      have hown := World.ownsRow_lit (base := W.heap.size) (e := 24) (size := 2) w2 #[] 0 hsz (by unfold maxLen; omega) rfl
      rcases A with _ | ad
      · have hc0 : cap = 0 := (r0.1.2 _ _ _ rfl).2.2 rfl
        have hl0 : l.length = 0 := by
          obtain ⟨_, _, A', cap', hv', hcl⟩ := r0
          injection hv' with hA' _ _
          rcases Nat.eq_zero_or_pos l.length with h | h
          · exact h
          · obtain ⟨b, off, ha, _⟩ := hcl h
            rw [← hA'] at ha; cases ha
        have hl1 : l = [] := List.eq_nil_of_length_eq_zero hl0
        subst hl1
        subst hc0
        clear r0
        go_wp2_with (at_builtin; refine wpList_append_own_none rfl _ _ 22 rfl W.heap.size 24 i0 2 Try.underlying22 hi0 _ 0 [] rfl hown rfl ?_)
        go_ret
        refine ⟨_, rfl, ?_, by rw [HG.out]; exact hb0.trans ((b2.alloc hsz _).mono (Nat.le_of_lt hlt))⟩
        rw [HB.out]
        exact ⟨⟨fun s h => by simp at h, fun A n c h => by injection h with h1 h2 h3; subst h1; subst h2; subst h3; exact ⟨Nat.le_refl _, by decide, fun h => by cases h⟩⟩, by simp, _, _, rfl, fun h => by simp at h⟩
      · have hnews : ∀ j u, (sc l)[j]? = some u → (w2.alloc (.cells #[] 24)).cell? (ad.add j) = some u := by
          obtain ⟨_, _, A', cap', hv', hcl⟩ := r0
          injection hv' with hA' _ _
          rcases Nat.eq_zero_or_pos l.length with h | h
          · intro j u hu
            rw [List.eq_nil_of_length_eq_zero h] at hu
            simp [sc] at hu
          · obtain ⟨b, off, ha, hb, hc⟩ := hcl h
            rw [← hA'] at ha
            injection ha with ha
            subst ha
            exact srow_news (w := w2.alloc (.cells #[] 24)) (B := 0) (cap := 0) fun i hi => ⟨(hBA.cell (p := ⟨b, off + i * 2, none⟩) hb).trans (hc i hi).1, (hBA.cell (p := ⟨b, off + i * 2 + 1, none⟩) hb).trans (hc i hi).2⟩
        have hw := r0.1.1
        have hl6 := r0.2.1
        have HN := Lib.hid hnews; clear hnews
        have HW := Lib.hid hw; clear hw
        clear r0
        go_wp2_with (at_builtin; refine wpList_append_own _ rfl _ _ 22 rfl W.heap.size 24 i0 (.agg #[.int .i64 0, .int .i64 0]) 2 16 Try.underlying22 hi0 hz0 hz1 hz2 rfl (by omega) _ 0 [] rfl hown ad l.length cap (sc l) rfl (by rw [sc_length]; omega) HN.out (sc_one l) (by unfold maxLen; omega) (by omega) (by simp; omega) ?_; intro v' w3 hown3 hgrow3 hnil3)
        go_ret
        have hown4 : w3.ownsRow W.heap.size 24 2 v' l.length (sc l) := by
          have := hown3
          rw [Nat.zero_add, List.nil_append] at this
          exact this
        have hB3 := (b2.alloc hsz (.cells #[] 24)).grown hgrow3 (by simp; omega) (fun k hk => (hown.lt k hk).1)
        refine ⟨_, rfl, ?_, by rw [HG.out]; exact hb0.trans (hB3.mono (Nat.le_of_lt hlt))⟩
        rw [HB.out]
        exact srow_own HW.out hl6 hown4
  · rw [show decide (right l) = false from decide_eq_false hri] at HRi
    obtain ⟨vb, hvb⟩ : ∃ b, decide (Sp.ok ⟨p, n⟩) = b := ⟨_, rfl⟩
    rw [hvb] at HV
    clear hvb
    have HB : Hid (addL l ⟨p, n⟩ = l) := addL_bad (fun h => hri h.1)
    obtain ⟨i0, hi0, hz0, hz1, hz2⟩ := info_parts info24
    go_enter Try.func9, Try.ntmps9
    go_wp2_with fail
    refine (HRi.out _ r0).mono ?_; rintro e w1 ⟨rfl, b1⟩
    clear hW hg
    replace r0 := r0.keep b1
    have d0 := (b1.cell (p := ⟨g, 0, none⟩) hlt).trans c0
    have d1 := (b1.cell (p := ⟨g, 1, none⟩) hlt).trans c1
    go_wp2_with fail
    refine (HV.out _).mono ?_; rintro e w2 ⟨rfl, b2⟩
    replace r0 := r0.keep b2
    replace b2 := chain b1 b2 (Nat.le_refl _)
    have f0 := (b2.cell (p := ⟨g, 0, none⟩) hlt).trans c0
    have f1 := (b2.cell (p := ⟨g, 1, none⟩) hlt).trans c1
    clear b1 d0 d1
    have hsz := b2.size
    have hBA := below_new w2 (.cells #[] 24)
    have hown := World.ownsRow_lit (base := W.heap.size) (e := 24) (size := 2) w2 #[] 0 hsz (by unfold maxLen; omega) rfl
    rcases A with _ | ad
    · have hc0 : cap = 0 := (r0.1.2 _ _ _ rfl).2.2 rfl
      have hl0 : l.length = 0 := by
        obtain ⟨_, _, A', cap', hv', hcl⟩ := r0
        injection hv' with hA' _ _
        rcases Nat.eq_zero_or_pos l.length with h | h
        · exact h
        · obtain ⟨b, off, ha, _⟩ := hcl h
          rw [← hA'] at ha; cases ha
      have hl1 : l = [] := List.eq_nil_of_length_eq_zero hl0
      subst hl1
      subst hc0
      clear r0
      go_wp2_with (at_builtin; refine wpList_append_own_none rfl _ _ 22 rfl W.heap.size 24 i0 2 Try.underlying22 hi0 _ 0 [] rfl hown rfl ?_)
      go_ret
      refine ⟨_, rfl, ?_, by rw [HG.out]; exact hb0.trans ((b2.alloc hsz _).mono (Nat.le_of_lt hlt))⟩
      rw [HB.out]
      exact ⟨⟨fun s h => by simp at h, fun A n c h => by injection h with h1 h2 h3; subst h1; subst h2; subst h3; exact ⟨Nat.le_refl _, by decide, fun h => by cases h⟩⟩, by simp, _, _, rfl, fun h => by simp at h⟩
    · have hnews : ∀ j u, (sc l)[j]? = some u → (w2.alloc (.cells #[] 24)).cell? (ad.add j) = some u := by
        obtain ⟨_, _, A', cap', hv', hcl⟩ := r0
        injection hv' with hA' _ _
        rcases Nat.eq_zero_or_pos l.length with h | h
        · intro j u hu
          rw [List.eq_nil_of_length_eq_zero h] at hu
          simp [sc] at hu
        · obtain ⟨b, off, ha, hb, hc⟩ := hcl h
          rw [← hA'] at ha
          injection ha with ha
          subst ha
          exact srow_news (w := w2.alloc (.cells #[] 24)) (B := 0) (cap := 0) fun i hi => ⟨(hBA.cell (p := ⟨b, off + i * 2, none⟩) hb).trans (hc i hi).1, (hBA.cell (p := ⟨b, off + i * 2 + 1, none⟩) hb).trans (hc i hi).2⟩
      have hw := r0.1.1
      have hl6 := r0.2.1
      have HN := Lib.hid hnews; clear hnews
      have HW := Lib.hid hw; clear hw
      clear r0
      go_wp2_with (at_builtin; refine wpList_append_own _ rfl _ _ 22 rfl W.heap.size 24 i0 (.agg #[.int .i64 0, .int .i64 0]) 2 16 Try.underlying22 hi0 hz0 hz1 hz2 rfl (by omega) _ 0 [] rfl hown ad l.length cap (sc l) rfl (by rw [sc_length]; omega) HN.out (sc_one l) (by unfold maxLen; omega) (by omega) (by simp; omega) ?_; intro v' w3 hown3 hgrow3 hnil3)
      go_ret
      have hown4 : w3.ownsRow W.heap.size 24 2 v' l.length (sc l) := by
        have := hown3
        rw [Nat.zero_add, List.nil_append] at this
        exact this
      have hB3 := (b2.alloc hsz (.cells #[] 24)).grown hgrow3 (by simp; omega) (fun k hk => (hown.lt k hk).1)
      refine ⟨_, rfl, ?_, by rw [HG.out]; exact hb0.trans (hB3.mono (Nat.le_of_lt hlt))⟩
      rw [HB.out]
      exact srow_own HW.out hl6 hown4
set_option maxRecDepth 100000 in
set_option maxHeartbeats 0 in
theorem cutR (v : Value) (l : List Sp) (s : Sp) (w : World) (hl : l.length ≤ 100) (hwf : s.wf) (hr : SRow w w.heap.size v l) :
    Calls Try.prog 11 #[v, spv s] w fun e w' => ∃ u, e = .returned u ∧ SRow w' w'.heap.size u (cutL l s) ∧ Below w.heap.size w w' := by
  have hwf' := hwf
  have hV := fun w => validR s w hwf
  have HRi := Lib.hid (fun w (h : SRow w w.heap.size v l) => rightR v l w h)
  obtain ⟨p, n⟩ := s
  have hb0 := below_new w (.cells #[.int .i64 p, .int .i64 n] 24)
  have c0 : (w.alloc (.cells #[.int .i64 p, .int .i64 n] 24)).cell? ⟨w.heap.size, 0, none⟩ = some (.int .i64 p) := by rw [cell_of_row _ _ _ _ _ _ (heap_alloc_new w _)]; rfl
  have c1 : (w.alloc (.cells #[.int .i64 p, .int .i64 n] 24)).cell? ⟨w.heap.size, 1, none⟩ = some (.int .i64 n) := by rw [cell_of_row _ _ _ _ _ _ (heap_alloc_new w _)]; rfl
  have hlt : w.heap.size < (w.alloc (.cells #[.int .i64 p, .int .i64 n] 24)).heap.size := by rw [size_new]; omega
  have r0 := hr.keep hb0
  obtain ⟨W, hW⟩ : ∃ W, w.alloc (.cells #[.int .i64 p, .int .i64 n] 24) = W := ⟨_, rfl⟩
  rw [hW] at hb0 c0 c1 hlt r0
  obtain ⟨g, hg⟩ : ∃ g, w.heap.size = g := ⟨_, rfl⟩
  rw [hg] at hb0 c0 c1 hlt
  unfold spv at *
  have HV := Lib.hid hV; clear hV
  have HG := Lib.hid hg
  obtain ⟨A, cap, rfl⟩ : ∃ A cap, v = .slice A l.length cap := by obtain ⟨_, _, A, cap, hv, _⟩ := hr; exact ⟨A, cap, hv⟩
  clear hr
  by_cases hri : right l
  · rw [show decide (right l) = true from decide_eq_true hri] at HRi
    by_cases hok : Sp.ok ⟨p, n⟩
    · rw [show decide (Sp.ok ⟨p, n⟩) = true from decide_eq_true hok] at HV
      have HO := Lib.hid (fun w (h : SRow w w.heap.size (.slice A l.length cap) l) => O _ l ⟨p, n⟩ false w hl hri hok h)
      unfold spv at HO
      go_enter Try.func11, Try.ntmps11
      go_wp2_with fail
      refine (HRi.out _ r0).mono ?_; rintro e w1 ⟨rfl, b1⟩
      clear hW hg
      replace r0 := r0.keep b1
      have d0 := (b1.cell (p := ⟨g, 0, none⟩) hlt).trans c0
      have d1 := (b1.cell (p := ⟨g, 1, none⟩) hlt).trans c1
      go_wp2_with fail
      refine (HV.out _).mono ?_; rintro e w2 ⟨rfl, b2⟩
      replace r0 := r0.keep b2
      replace b2 := chain b1 b2 (Nat.le_refl _)
      have f0 := (b2.cell (p := ⟨g, 0, none⟩) hlt).trans c0
      have f1 := (b2.cell (p := ⟨g, 1, none⟩) hlt).trans c1
      clear b1 d0 d1
      go_wp2_with fail
      refine (HO.out _ r0).mono ?_; rintro e w3 ⟨u, rfl, r3, b3⟩
      replace b3 := chain b2 b3 (Nat.le_refl _)
      go_wp2_with fail
      go_ret
      exact ⟨_, rfl, r3, by rw [HG.out]; exact hb0.trans (b3.mono (Nat.le_of_lt hlt))⟩
    · rw [show decide (Sp.ok ⟨p, n⟩) = false from decide_eq_false hok] at HV
      have HB : Hid (cutL l ⟨p, n⟩ = l) := cutL_bad (fun h => hok h.2)
      obtain ⟨i0, hi0, hz0, hz1, hz2⟩ := info_parts info24
      go_enter Try.func11, Try.ntmps11
      go_wp2_with fail
      refine (HRi.out _ r0).mono ?_; rintro e w1 ⟨rfl, b1⟩
      clear hW hg
      replace r0 := r0.keep b1
      have d0 := (b1.cell (p := ⟨g, 0, none⟩) hlt).trans c0
      have d1 := (b1.cell (p := ⟨g, 1, none⟩) hlt).trans c1
      go_wp2_with fail
      refine (HV.out _).mono ?_; rintro e w2 ⟨rfl, b2⟩
      replace r0 := r0.keep b2
      replace b2 := chain b1 b2 (Nat.le_refl _)
      have f0 := (b2.cell (p := ⟨g, 0, none⟩) hlt).trans c0
      have f1 := (b2.cell (p := ⟨g, 1, none⟩) hlt).trans c1
      clear b1 d0 d1
      have hsz := b2.size
      have hBA := below_new w2 (.cells #[] 24)
      have hown := World.ownsRow_lit (base := W.heap.size) (e := 24) (size := 2) w2 #[] 0 hsz (by unfold maxLen; omega) rfl
      rcases A with _ | ad
      · have hc0 : cap = 0 := (r0.1.2 _ _ _ rfl).2.2 rfl
        have hl0 : l.length = 0 := by
          obtain ⟨_, _, A', cap', hv', hcl⟩ := r0
          injection hv' with hA' _ _
          rcases Nat.eq_zero_or_pos l.length with h | h
          · exact h
          · obtain ⟨b, off, ha, _⟩ := hcl h
            rw [← hA'] at ha; cases ha
        have hl1 : l = [] := List.eq_nil_of_length_eq_zero hl0
        subst hl1
        subst hc0
        clear r0
        go_wp2_with (at_builtin; refine wpList_append_own_none rfl _ _ 22 rfl W.heap.size 24 i0 2 Try.underlying22 hi0 _ 0 [] rfl hown rfl ?_)
        go_ret
        refine ⟨_, rfl, ?_, by rw [HG.out]; exact hb0.trans ((b2.alloc hsz _).mono (Nat.le_of_lt hlt))⟩
        rw [HB.out]
        exact ⟨⟨fun s h => by simp at h, fun A n c h => by injection h with h1 h2 h3; subst h1; subst h2; subst h3; exact ⟨Nat.le_refl _, by decide, fun h => by cases h⟩⟩, by simp, _, _, rfl, fun h => by simp at h⟩
      · have hnews : ∀ j u, (sc l)[j]? = some u → (w2.alloc (.cells #[] 24)).cell? (ad.add j) = some u := by
          obtain ⟨_, _, A', cap', hv', hcl⟩ := r0
          injection hv' with hA' _ _
          rcases Nat.eq_zero_or_pos l.length with h | h
          · intro j u hu
            rw [List.eq_nil_of_length_eq_zero h] at hu
            simp [sc] at hu
          · obtain ⟨b, off, ha, hb, hc⟩ := hcl h
            rw [← hA'] at ha
            injection ha with ha
            subst ha
            exact srow_news (w := w2.alloc (.cells #[] 24)) (B := 0) (cap := 0) fun i hi => ⟨(hBA.cell (p := ⟨b, off + i * 2, none⟩) hb).trans (hc i hi).1, (hBA.cell (p := ⟨b, off + i * 2 + 1, none⟩) hb).trans (hc i hi).2⟩
        have hw := r0.1.1
        have hl6 := r0.2.1
        have HN := Lib.hid hnews; clear hnews
        have HW := Lib.hid hw; clear hw
        clear r0
        go_wp2_with (at_builtin; refine wpList_append_own _ rfl _ _ 22 rfl W.heap.size 24 i0 (.agg #[.int .i64 0, .int .i64 0]) 2 16 Try.underlying22 hi0 hz0 hz1 hz2 rfl (by omega) _ 0 [] rfl hown ad l.length cap (sc l) rfl (by rw [sc_length]; omega) HN.out (sc_one l) (by unfold maxLen; omega) (by omega) (by simp; omega) ?_; intro v' w3 hown3 hgrow3 hnil3)
        go_ret
        have hown4 : w3.ownsRow W.heap.size 24 2 v' l.length (sc l) := by
          have := hown3
          rw [Nat.zero_add, List.nil_append] at this
          exact this
        have hB3 := (b2.alloc hsz (.cells #[] 24)).grown hgrow3 (by simp; omega) (fun k hk => (hown.lt k hk).1)
        refine ⟨_, rfl, ?_, by rw [HG.out]; exact hb0.trans (hB3.mono (Nat.le_of_lt hlt))⟩
        rw [HB.out]
        exact srow_own HW.out hl6 hown4
  · rw [show decide (right l) = false from decide_eq_false hri] at HRi
    obtain ⟨vb, hvb⟩ : ∃ b, decide (Sp.ok ⟨p, n⟩) = b := ⟨_, rfl⟩
    rw [hvb] at HV
    clear hvb
    have HB : Hid (cutL l ⟨p, n⟩ = l) := cutL_bad (fun h => hri h.1)
    obtain ⟨i0, hi0, hz0, hz1, hz2⟩ := info_parts info24
    go_enter Try.func11, Try.ntmps11
    go_wp2_with fail
    refine (HRi.out _ r0).mono ?_; rintro e w1 ⟨rfl, b1⟩
    clear hW hg
    replace r0 := r0.keep b1
    have d0 := (b1.cell (p := ⟨g, 0, none⟩) hlt).trans c0
    have d1 := (b1.cell (p := ⟨g, 1, none⟩) hlt).trans c1
    go_wp2_with fail
    refine (HV.out _).mono ?_; rintro e w2 ⟨rfl, b2⟩
    replace r0 := r0.keep b2
    replace b2 := chain b1 b2 (Nat.le_refl _)
    have f0 := (b2.cell (p := ⟨g, 0, none⟩) hlt).trans c0
    have f1 := (b2.cell (p := ⟨g, 1, none⟩) hlt).trans c1
    clear b1 d0 d1
    have hsz := b2.size
    have hBA := below_new w2 (.cells #[] 24)
    have hown := World.ownsRow_lit (base := W.heap.size) (e := 24) (size := 2) w2 #[] 0 hsz (by unfold maxLen; omega) rfl
    rcases A with _ | ad
    · have hc0 : cap = 0 := (r0.1.2 _ _ _ rfl).2.2 rfl
      have hl0 : l.length = 0 := by
        obtain ⟨_, _, A', cap', hv', hcl⟩ := r0
        injection hv' with hA' _ _
        rcases Nat.eq_zero_or_pos l.length with h | h
        · exact h
        · obtain ⟨b, off, ha, _⟩ := hcl h
          rw [← hA'] at ha; cases ha
      have hl1 : l = [] := List.eq_nil_of_length_eq_zero hl0
      subst hl1
      subst hc0
      clear r0
      go_wp2_with (at_builtin; refine wpList_append_own_none rfl _ _ 22 rfl W.heap.size 24 i0 2 Try.underlying22 hi0 _ 0 [] rfl hown rfl ?_)
      go_ret
      refine ⟨_, rfl, ?_, by rw [HG.out]; exact hb0.trans ((b2.alloc hsz _).mono (Nat.le_of_lt hlt))⟩
      rw [HB.out]
      exact ⟨⟨fun s h => by simp at h, fun A n c h => by injection h with h1 h2 h3; subst h1; subst h2; subst h3; exact ⟨Nat.le_refl _, by decide, fun h => by cases h⟩⟩, by simp, _, _, rfl, fun h => by simp at h⟩
    · have hnews : ∀ j u, (sc l)[j]? = some u → (w2.alloc (.cells #[] 24)).cell? (ad.add j) = some u := by
        obtain ⟨_, _, A', cap', hv', hcl⟩ := r0
        injection hv' with hA' _ _
        rcases Nat.eq_zero_or_pos l.length with h | h
        · intro j u hu
          rw [List.eq_nil_of_length_eq_zero h] at hu
          simp [sc] at hu
        · obtain ⟨b, off, ha, hb, hc⟩ := hcl h
          rw [← hA'] at ha
          injection ha with ha
          subst ha
          exact srow_news (w := w2.alloc (.cells #[] 24)) (B := 0) (cap := 0) fun i hi => ⟨(hBA.cell (p := ⟨b, off + i * 2, none⟩) hb).trans (hc i hi).1, (hBA.cell (p := ⟨b, off + i * 2 + 1, none⟩) hb).trans (hc i hi).2⟩
      have hw := r0.1.1
      have hl6 := r0.2.1
      have HN := Lib.hid hnews; clear hnews
      have HW := Lib.hid hw; clear hw
      clear r0
      go_wp2_with (at_builtin; refine wpList_append_own _ rfl _ _ 22 rfl W.heap.size 24 i0 (.agg #[.int .i64 0, .int .i64 0]) 2 16 Try.underlying22 hi0 hz0 hz1 hz2 rfl (by omega) _ 0 [] rfl hown ad l.length cap (sc l) rfl (by rw [sc_length]; omega) HN.out (sc_one l) (by unfold maxLen; omega) (by omega) (by simp; omega) ?_; intro v' w3 hown3 hgrow3 hnil3)
      go_ret
      have hown4 : w3.ownsRow W.heap.size 24 2 v' l.length (sc l) := by
        have := hown3
        rw [Nat.zero_add, List.nil_append] at this
        exact this
      have hB3 := (b2.alloc hsz (.cells #[] 24)).grown hgrow3 (by simp; omega) (fun k hk => (hown.lt k hk).1)
      refine ⟨_, rfl, ?_, by rw [HG.out]; exact hb0.trans (hB3.mono (Nat.le_of_lt hlt))⟩
      rw [HB.out]
      exact srow_own HW.out hl6 hown4
set_option maxRecDepth 100000 in
set_option maxHeartbeats 0 in
theorem hasR (v : Value) (l : List Sp) (s : Sp) (w : World) (hl : l.length ≤ 100) (hwf : s.wf) (hr : SRow w w.heap.size v l) :
    Calls Try.prog 17 #[v, spv s] w fun e w' => e = .returned (.bool (hasL l s)) ∧ Below w.heap.size w w' := by
  have HN := Lib.hid (fun w (h : SRow w w.heap.size v l) => addR O v l s w hl hwf h)
  have HT := Lib.hid (fun w (h : SRow w w.heap.size v l) => totalR v l w h)
  have HTU := Lib.hid (fun u w (h : SRow w w.heap.size u (addL l s)) => totalR u (addL l s) w h)
  have hwf' := hwf
  have hV := fun w => validR s w hwf
  have HRi := Lib.hid (fun w (h : SRow w w.heap.size v l) => rightR v l w h)
  obtain ⟨p, n⟩ := s
  have hb0 := below_new w (.cells #[.int .i64 p, .int .i64 n] 24)
  have c0 : (w.alloc (.cells #[.int .i64 p, .int .i64 n] 24)).cell? ⟨w.heap.size, 0, none⟩ = some (.int .i64 p) := by rw [cell_of_row _ _ _ _ _ _ (heap_alloc_new w _)]; rfl
  have c1 : (w.alloc (.cells #[.int .i64 p, .int .i64 n] 24)).cell? ⟨w.heap.size, 1, none⟩ = some (.int .i64 n) := by rw [cell_of_row _ _ _ _ _ _ (heap_alloc_new w _)]; rfl
  have hlt : w.heap.size < (w.alloc (.cells #[.int .i64 p, .int .i64 n] 24)).heap.size := by rw [size_new]; omega
  have r0 := hr.keep hb0
  obtain ⟨W, hW⟩ : ∃ W, w.alloc (.cells #[.int .i64 p, .int .i64 n] 24) = W := ⟨_, rfl⟩
  rw [hW] at hb0 c0 c1 hlt r0
  obtain ⟨g, hg⟩ : ∃ g, w.heap.size = g := ⟨_, rfl⟩
  rw [hg] at hb0 c0 c1 hlt
  unfold spv at *
  have HV := Lib.hid hV; clear hV
  have HG := Lib.hid hg
  obtain ⟨A, cap, rfl⟩ : ∃ A cap, v = .slice A l.length cap := by obtain ⟨_, _, A, cap, hv, _⟩ := hr; exact ⟨A, cap, hv⟩
  clear hr
  by_cases hri : right l
  · rw [show decide (right l) = true from decide_eq_true hri] at HRi
    by_cases hok : Sp.ok ⟨p, n⟩
    · rw [show decide (Sp.ok ⟨p, n⟩) = true from decide_eq_true hok] at HV
      have HB : Hid (hasL l ⟨p, n⟩ = decide (totalL (addL l ⟨p, n⟩) = totalL l)) := by
        show _ = _
        unfold hasL totalL
        rw [if_pos hri, if_pos (addL_right _ hri), decide_eq_decide]
        exact ⟨fun h => h.2.2, fun h => ⟨hri, hok, h⟩⟩
      obtain ⟨x, hx⟩ : ∃ x, totalL (addL l ⟨p, n⟩) = x := ⟨_, rfl⟩
      obtain ⟨z, hz⟩ : ∃ z, totalL l = z := ⟨_, rfl⟩
      rw [hx] at HTU HB
      rw [hz] at HT HB
      clear hx hz
      go_enter Try.func17, Try.ntmps17
      go_wp2_with fail
      refine (HRi.out _ r0).mono ?_; rintro e w1 ⟨rfl, b1⟩
      clear hW hg
      replace r0 := r0.keep b1
      have d0 := (b1.cell (p := ⟨g, 0, none⟩) hlt).trans c0
      have d1 := (b1.cell (p := ⟨g, 1, none⟩) hlt).trans c1
      go_wp2_with fail
      refine (HV.out _).mono ?_; rintro e w2 ⟨rfl, b2⟩
      replace r0 := r0.keep b2
      replace b2 := chain b1 b2 (Nat.le_refl _)
      have f0 := (b2.cell (p := ⟨g, 0, none⟩) hlt).trans c0
      have f1 := (b2.cell (p := ⟨g, 1, none⟩) hlt).trans c1
      clear b1 d0 d1
      go_wp2_with fail
      refine (HN.out _ r0).mono ?_; rintro e w3 ⟨u, rfl, r3, b3⟩
      replace r0 := r0.keep b3
      replace b3 := chain b2 b3 (Nat.le_refl _)
      go_wp2_with fail
      refine (HTU.out _ _ r3).mono ?_; rintro e w4 ⟨rfl, b4⟩
      replace r0 := r0.keep b4
      replace b4 := chain b3 b4 (Nat.le_refl _)
      go_wp2_with fail
      refine (HT.out _ r0).mono ?_; rintro e w5 ⟨rfl, b5⟩
      replace b5 := chain b4 b5 (Nat.le_refl _)
      have q : (x == z) = decide (x = z) := by by_cases h : x = z <;> simp [h]
      go_wp2_with fail
      go_ret
      exact ⟨by rw [HB.out]; first | rfl | simp, by rw [HG.out]; exact hb0.trans (b5.mono (Nat.le_of_lt hlt))⟩
    · rw [show decide (Sp.ok ⟨p, n⟩) = false from decide_eq_false hok] at HV
      have HB : Hid (hasL l ⟨p, n⟩ = false) := by show _ = _; unfold hasL; rw [decide_eq_false_iff_not]; exact fun h => hok h.2.1
      go_enter Try.func17, Try.ntmps17
      go_wp2_with fail
      refine (HRi.out _ r0).mono ?_; rintro e w1 ⟨rfl, b1⟩
      clear hW hg
      replace r0 := r0.keep b1
      have d0 := (b1.cell (p := ⟨g, 0, none⟩) hlt).trans c0
      have d1 := (b1.cell (p := ⟨g, 1, none⟩) hlt).trans c1
      go_wp2_with fail
      refine (HV.out _).mono ?_; rintro e w2 ⟨rfl, b2⟩
      replace r0 := r0.keep b2
      replace b2 := chain b1 b2 (Nat.le_refl _)
      have f0 := (b2.cell (p := ⟨g, 0, none⟩) hlt).trans c0
      have f1 := (b2.cell (p := ⟨g, 1, none⟩) hlt).trans c1
      clear b1 d0 d1
      go_wp2_with fail
      go_ret
      exact ⟨by rw [HB.out]; rfl, by rw [HG.out]; exact hb0.trans (b2.mono (Nat.le_of_lt hlt))⟩
  · rw [show decide (right l) = false from decide_eq_false hri] at HRi
    obtain ⟨vb, hvb⟩ : ∃ b, decide (Sp.ok ⟨p, n⟩) = b := ⟨_, rfl⟩
    rw [hvb] at HV
    clear hvb
    have HB : Hid (hasL l ⟨p, n⟩ = false) := by show _ = _; unfold hasL; rw [decide_eq_false_iff_not]; exact fun h => hri h.1
    go_enter Try.func17, Try.ntmps17
    go_wp2_with fail
    refine (HRi.out _ r0).mono ?_; rintro e w1 ⟨rfl, b1⟩
    clear hW hg
    replace r0 := r0.keep b1
    have d0 := (b1.cell (p := ⟨g, 0, none⟩) hlt).trans c0
    have d1 := (b1.cell (p := ⟨g, 1, none⟩) hlt).trans c1
    go_wp2_with fail
    refine (HV.out _).mono ?_; rintro e w2 ⟨rfl, b2⟩
    replace r0 := r0.keep b2
    replace b2 := chain b1 b2 (Nat.le_refl _)
    have f0 := (b2.cell (p := ⟨g, 0, none⟩) hlt).trans c0
    have f1 := (b2.cell (p := ⟨g, 1, none⟩) hlt).trans c1
    clear b1 d0 d1
    go_wp2_with fail
    go_ret
    exact ⟨by rw [HB.out]; rfl, by rw [HG.out]; exact hb0.trans (b2.mono (Nat.le_of_lt hlt))⟩
set_option maxRecDepth 100000 in
set_option maxHeartbeats 0 in
theorem meetsR (v : Value) (l : List Sp) (s : Sp) (w : World) (hl : l.length ≤ 100) (hwf : s.wf) (hr : SRow w w.heap.size v l) :
    Calls Try.prog 19 #[v, spv s] w fun e w' => e = .returned (.bool (meetsL l s)) ∧ Below w.heap.size w w' := by
  have HN := Lib.hid (fun w (h : SRow w w.heap.size v l) => cutR O v l s w hl hwf h)
  have HT := Lib.hid (fun w (h : SRow w w.heap.size v l) => totalR v l w h)
  have HTU := Lib.hid (fun u w (h : SRow w w.heap.size u (cutL l s)) => totalR u (cutL l s) w h)
  have hwf' := hwf
  have hV := fun w => validR s w hwf
  have HRi := Lib.hid (fun w (h : SRow w w.heap.size v l) => rightR v l w h)
  obtain ⟨p, n⟩ := s
  have hb0 := below_new w (.cells #[.int .i64 p, .int .i64 n] 24)
  have c0 : (w.alloc (.cells #[.int .i64 p, .int .i64 n] 24)).cell? ⟨w.heap.size, 0, none⟩ = some (.int .i64 p) := by rw [cell_of_row _ _ _ _ _ _ (heap_alloc_new w _)]; rfl
  have c1 : (w.alloc (.cells #[.int .i64 p, .int .i64 n] 24)).cell? ⟨w.heap.size, 1, none⟩ = some (.int .i64 n) := by rw [cell_of_row _ _ _ _ _ _ (heap_alloc_new w _)]; rfl
  have hlt : w.heap.size < (w.alloc (.cells #[.int .i64 p, .int .i64 n] 24)).heap.size := by rw [size_new]; omega
  have r0 := hr.keep hb0
  obtain ⟨W, hW⟩ : ∃ W, w.alloc (.cells #[.int .i64 p, .int .i64 n] 24) = W := ⟨_, rfl⟩
  rw [hW] at hb0 c0 c1 hlt r0
  obtain ⟨g, hg⟩ : ∃ g, w.heap.size = g := ⟨_, rfl⟩
  rw [hg] at hb0 c0 c1 hlt
  unfold spv at *
  have HV := Lib.hid hV; clear hV
  have HG := Lib.hid hg
  obtain ⟨A, cap, rfl⟩ : ∃ A cap, v = .slice A l.length cap := by obtain ⟨_, _, A, cap, hv, _⟩ := hr; exact ⟨A, cap, hv⟩
  clear hr
  by_cases hri : right l
  · rw [show decide (right l) = true from decide_eq_true hri] at HRi
    by_cases hok : Sp.ok ⟨p, n⟩
    · rw [show decide (Sp.ok ⟨p, n⟩) = true from decide_eq_true hok] at HV
      have HB : Hid (meetsL l ⟨p, n⟩ = decide (totalL (cutL l ⟨p, n⟩) < totalL l)) := by
        show _ = _
        unfold meetsL totalL
        rw [if_pos hri, if_pos (cutL_right _ hri), decide_eq_decide]
        exact ⟨fun h => h.2.2, fun h => ⟨hri, hok, h⟩⟩
      obtain ⟨x, hx⟩ : ∃ x, totalL (cutL l ⟨p, n⟩) = x := ⟨_, rfl⟩
      obtain ⟨z, hz⟩ : ∃ z, totalL l = z := ⟨_, rfl⟩
      rw [hx] at HTU HB
      rw [hz] at HT HB
      clear hx hz
      go_enter Try.func19, Try.ntmps19
      go_wp2_with fail
      refine (HRi.out _ r0).mono ?_; rintro e w1 ⟨rfl, b1⟩
      clear hW hg
      replace r0 := r0.keep b1
      have d0 := (b1.cell (p := ⟨g, 0, none⟩) hlt).trans c0
      have d1 := (b1.cell (p := ⟨g, 1, none⟩) hlt).trans c1
      go_wp2_with fail
      refine (HV.out _).mono ?_; rintro e w2 ⟨rfl, b2⟩
      replace r0 := r0.keep b2
      replace b2 := chain b1 b2 (Nat.le_refl _)
      have f0 := (b2.cell (p := ⟨g, 0, none⟩) hlt).trans c0
      have f1 := (b2.cell (p := ⟨g, 1, none⟩) hlt).trans c1
      clear b1 d0 d1
      go_wp2_with fail
      refine (HN.out _ r0).mono ?_; rintro e w3 ⟨u, rfl, r3, b3⟩
      replace r0 := r0.keep b3
      replace b3 := chain b2 b3 (Nat.le_refl _)
      go_wp2_with fail
      refine (HTU.out _ _ r3).mono ?_; rintro e w4 ⟨rfl, b4⟩
      replace r0 := r0.keep b4
      replace b4 := chain b3 b4 (Nat.le_refl _)
      go_wp2_with fail
      refine (HT.out _ r0).mono ?_; rintro e w5 ⟨rfl, b5⟩
      replace b5 := chain b4 b5 (Nat.le_refl _)
      have q : True := trivial
      go_wp2_with fail
      go_ret
      exact ⟨by rw [HB.out]; first | rfl | simp, by rw [HG.out]; exact hb0.trans (b5.mono (Nat.le_of_lt hlt))⟩
    · rw [show decide (Sp.ok ⟨p, n⟩) = false from decide_eq_false hok] at HV
      have HB : Hid (meetsL l ⟨p, n⟩ = false) := by show _ = _; unfold meetsL; rw [decide_eq_false_iff_not]; exact fun h => hok h.2.1
      go_enter Try.func19, Try.ntmps19
      go_wp2_with fail
      refine (HRi.out _ r0).mono ?_; rintro e w1 ⟨rfl, b1⟩
      clear hW hg
      replace r0 := r0.keep b1
      have d0 := (b1.cell (p := ⟨g, 0, none⟩) hlt).trans c0
      have d1 := (b1.cell (p := ⟨g, 1, none⟩) hlt).trans c1
      go_wp2_with fail
      refine (HV.out _).mono ?_; rintro e w2 ⟨rfl, b2⟩
      replace r0 := r0.keep b2
      replace b2 := chain b1 b2 (Nat.le_refl _)
      have f0 := (b2.cell (p := ⟨g, 0, none⟩) hlt).trans c0
      have f1 := (b2.cell (p := ⟨g, 1, none⟩) hlt).trans c1
      clear b1 d0 d1
      go_wp2_with fail
      go_ret
      exact ⟨by rw [HB.out]; rfl, by rw [HG.out]; exact hb0.trans (b2.mono (Nat.le_of_lt hlt))⟩
  · rw [show decide (right l) = false from decide_eq_false hri] at HRi
    obtain ⟨vb, hvb⟩ : ∃ b, decide (Sp.ok ⟨p, n⟩) = b := ⟨_, rfl⟩
    rw [hvb] at HV
    clear hvb
    have HB : Hid (meetsL l ⟨p, n⟩ = false) := by show _ = _; unfold meetsL; rw [decide_eq_false_iff_not]; exact fun h => hri h.1
    go_enter Try.func19, Try.ntmps19
    go_wp2_with fail
    refine (HRi.out _ r0).mono ?_; rintro e w1 ⟨rfl, b1⟩
    clear hW hg
    replace r0 := r0.keep b1
    have d0 := (b1.cell (p := ⟨g, 0, none⟩) hlt).trans c0
    have d1 := (b1.cell (p := ⟨g, 1, none⟩) hlt).trans c1
    go_wp2_with fail
    refine (HV.out _).mono ?_; rintro e w2 ⟨rfl, b2⟩
    replace r0 := r0.keep b2
    replace b2 := chain b1 b2 (Nat.le_refl _)
    have f0 := (b2.cell (p := ⟨g, 0, none⟩) hlt).trans c0
    have f1 := (b2.cell (p := ⟨g, 1, none⟩) hlt).trans c1
    clear b1 d0 d1
    go_wp2_with fail
    go_ret
    exact ⟨by rw [HB.out]; rfl, by rw [HG.out]; exact hb0.trans (b2.mono (Nat.le_of_lt hlt))⟩
theorem refRoom_of : RefRoom := ⟨addR O, cutR O, hasR O, meetsR O⟩
end
end Go.Proofs.Ytfeiapkifoakoaa
