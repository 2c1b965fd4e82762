/-
  The walk of RoomTells, from what it asks of the program (Room) and of the reference (RefRoom).
-/
import Derived.Test.YtfeiapkifoakoaaRoom
import Derived.Test.YtfeiapkifoakoaaFitRef
namespace Go.Proofs.Ytfeiapkifoakoaa
set_option linter.unusedVariables false
set_option linter.unusedSimpArgs false
open Go.RowKit

/-- The reference's Add, Cut, Has and Meets answer so. -/
structure RefRoom : Prop where
  add : ∀ (v : Value) (l : List Sp) (s : Sp) (w : World), l.length ≤ 100 → s.wf → SRow w w.heap.size v l → Calls Try.prog 9 #[v, spv s] w fun e w' => ∃ u, e = .returned u ∧ SRow w' w'.heap.size u (addL l s) ∧ Below w.heap.size w w'
  cut : ∀ (v : Value) (l : List Sp) (s : Sp) (w : World), l.length ≤ 100 → s.wf → SRow w w.heap.size v l → Calls Try.prog 11 #[v, spv s] w fun e w' => ∃ u, e = .returned u ∧ SRow w' w'.heap.size u (cutL l s) ∧ Below w.heap.size w w'
  has : ∀ (v : Value) (l : List Sp) (s : Sp) (w : World), l.length ≤ 100 → s.wf → SRow w w.heap.size v l → Calls Try.prog 17 #[v, spv s] w fun e w' => e = .returned (.bool (hasL l s)) ∧ Below w.heap.size w w'
  meets : ∀ (v : Value) (l : List Sp) (s : Sp) (w : World), l.length ≤ 100 → s.wf → SRow w w.heap.size v l → Calls Try.prog 19 #[v, spv s] w fun e w' => e = .returned (.bool (meetsL l s)) ∧ Below w.heap.size w w'

section
variable (Q : Room) (R : RefRoom)
include Q

set_option maxRecDepth 100000 in
set_option maxHeartbeats 0 in
theorem tellsL (A : Option Addr) (n cap : Nat) (s : Sp) (size d from_ until_ : Int) (w : World) (h : 40 < n) :
    Calls Try.prog 3 #[.slice A n cap, spv s, .int .i64 size, .int .i64 d, .int .i64 from_, .int .i64 until_] w fun e w' => e = .returned (.bool true) ∧ Below w.heap.size w w' := by
  have HSm := Lib.hid (fun w => smallQ Q w)
  unfold spv
  go_enter Try.func3, Try.ntmps3
  go_wp2_with fail
  have b0 := below_new w (.cells #[.int .i64 s.p, .int .i64 s.n] 24)
  refine (HSm.out _).mono ?_; rintro e w1 ⟨rfl, b1⟩
  replace b1 := b0.trans (b1.mono b0.size)
  go_wp2_with fail
  all_goals
    go_ret
    exact ⟨rfl, b1⟩
include R
set_option maxRecDepth 100000 in
set_option maxHeartbeats 0 in
theorem tellsM (v : Value) (l : List Sp) (s : Sp) (size d from_ until_ : Int) (w : World) (hr : SRow w w.heap.size v l) (hl : l.length ≤ 40) (hwf : s.wf) (wf1 : Sp.wf ⟨size, d⟩) (wf2 : Sp.wf ⟨from_, until_⟩) :
    Calls Try.prog 3 #[v, spv s, .int .i64 size, .int .i64 d, .int .i64 from_, .int .i64 until_] w fun e w' => e = .returned (.bool true) ∧ Below w.heap.size w w' := by
  have HSm := Lib.hid (fun w => smallQ Q w)
  obtain ⟨fa, fb, hfr⟩ : ∃ fa fb, fitRes (fitL l size d from_ until_) = .tuple #[.int .i64 fa, .bool fb] := by
    rcases fitL l size d from_ until_ with _ | a
    · exact ⟨0, false, rfl⟩
    · exact ⟨a, true, rfl⟩
  have HF := Lib.hid (fun w (h : SRow w w.heap.size v l) => Q.fit v l size d from_ until_ w (by omega) h wf1 wf2)
  have HFR := Lib.hid (fun w (h : SRow w w.heap.size v l) => fitR v l size d from_ until_ w h wf1 wf2)
  simp only [hfr] at HF HFR
  have HA := Lib.hid (fun w (h : SRow w w.heap.size v l) => Q.add v l s w (by omega) hwf h)
  have HAR := Lib.hid (fun w (h : SRow w w.heap.size v l) => R.add v l s w (by omega) hwf h)
  have HC := Lib.hid (fun w (h : SRow w w.heap.size v l) => Q.cut v l s w (by omega) hwf h)
  have HCR := Lib.hid (fun w (h : SRow w w.heap.size v l) => R.cut v l s w (by omega) hwf h)
  have HSA := Lib.hid (fun u1 u2 w (h : SRow w w.heap.size u1 (addL l s)) (k : SRow w w.heap.size u2 (addL l s)) => sameR u1 u2 (addL l s) (addL l s) w h k)
  have HSC := Lib.hid (fun u1 u2 w (h : SRow w w.heap.size u1 (cutL l s)) (k : SRow w w.heap.size u2 (cutL l s)) => sameR u1 u2 (cutL l s) (cutL l s) w h k)
  rw [show decide (addL l s = addL l s) = true from decide_eq_true rfl] at HSA
  rw [show decide (cutL l s = cutL l s) = true from decide_eq_true rfl] at HSC
  have HRi := Lib.hid (fun w (h : SRow w w.heap.size v l) => Q.right v l w (by omega) h)
  have HRR := Lib.hid (fun w (h : SRow w w.heap.size v l) => rightR v l w h)
  have HT := Lib.hid (fun w (h : SRow w w.heap.size v l) => Q.total v l w (by omega) h)
  have HTR := Lib.hid (fun w (h : SRow w w.heap.size v l) => totalR v l w h)
  have HH := Lib.hid (fun w (h : SRow w w.heap.size v l) => Q.has v l s w (by omega) hwf h)
  have HHR := Lib.hid (fun w (h : SRow w w.heap.size v l) => R.has v l s w (by omega) hwf h)
  have HM := Lib.hid (fun w (h : SRow w w.heap.size v l) => Q.meets v l s w (by omega) hwf h)
  have HMR := Lib.hid (fun w (h : SRow w w.heap.size v l) => R.meets v l s w (by omega) hwf h)
  obtain ⟨ri, hri⟩ : ∃ b, decide (right l) = b := ⟨_, rfl⟩
  obtain ⟨tt, hto⟩ : ∃ b, totalL l = b := ⟨_, rfl⟩
  obtain ⟨ha, hha⟩ : ∃ b, hasL l s = b := ⟨_, rfl⟩
  obtain ⟨me, hme⟩ : ∃ b, meetsL l s = b := ⟨_, rfl⟩
  rw [hri] at HRi HRR
  rw [hto] at HT HTR
  rw [hha] at HH HHR
  rw [hme] at HM HMR
  clear hri hto hha hme hfr
  obtain ⟨p, n⟩ := s
  have hshape : ∃ A cap, v = .slice A l.length cap := by obtain ⟨_, _, A, cap, hv, _⟩ := hr; exact ⟨A, cap, hv⟩
  have hb0 := below_new w (.cells #[.int .i64 p, .int .i64 n] 24)
  have c0 : (w.alloc (.cells #[.int .i64 p, .int .i64 n] 24)).cell? ⟨w.heap.size, 0, none⟩ = some (.int .i64 p) := by rw [cell_of_row _ _ _ _ _ _ (heap_alloc_new w _)]; rfl
  have c1 : (w.alloc (.cells #[.int .i64 p, .int .i64 n] 24)).cell? ⟨w.heap.size, 1, none⟩ = some (.int .i64 n) := by rw [cell_of_row _ _ _ _ _ _ (heap_alloc_new w _)]; rfl
  have hlt : w.heap.size < (w.alloc (.cells #[.int .i64 p, .int .i64 n] 24)).heap.size := by rw [size_new]; omega
  have r0 := hr.keep hb0
  obtain ⟨A, cap, rfl⟩ := hshape
  obtain ⟨W, hW⟩ : ∃ W, w.alloc (.cells #[.int .i64 p, .int .i64 n] 24) = W := ⟨_, rfl⟩
  rw [hW] at hb0 c0 c1 hlt r0
  obtain ⟨g, hg⟩ : ∃ g, w.heap.size = g := ⟨_, rfl⟩
  rw [hg] at hb0 c0 c1 hlt
  unfold spv at *
  have HG := Lib.hid hg
  clear hr hwf wf1 wf2 Q R
  go_enter Try.func3, Try.ntmps3
  go_wp2_with fail
  refine (HSm.out _).mono ?_; rintro e w1 ⟨rfl, b1⟩
  replace r0 := r0.keep b1
  go_wp2_with fail
  refine (HF.out _ r0).mono ?_; rintro e w2 ⟨rfl, b2⟩
  replace r0 := r0.keep b2
  replace b2 := chain b1 b2 (Nat.le_refl _)
  go_wp2_with fail
  refine (HFR.out _ r0).mono ?_; rintro e w3 ⟨rfl, b3⟩
  replace r0 := r0.keep b3
  replace b3 := chain b2 b3 (Nat.le_refl _)
  clear b1 b2
  have d0 := (b3.cell (p := ⟨g, 0, none⟩) hlt).trans c0
  have d1 := (b3.cell (p := ⟨g, 1, none⟩) hlt).trans c1
  clear hW hg
  go_wp2_with fail
  go_region_held3 (fun w' => w'.cell? ⟨g, 0, none⟩ = some (.int .i64 p) ∧ w'.cell? ⟨g, 1, none⟩ = some (.int .i64 n))
    (first | go_keep | (go_split_ands; exact ⟨keep_below bc (by assumption), keep_below bc (by assumption)⟩) | (go_split_ands; exact ⟨keep_below bb (by assumption), keep_below bb (by assumption)⟩) | (go_split_ands; exact ⟨keep_below ba (by assumption), keep_below ba (by assumption)⟩))
    (first
      | (go_at_call 8; refine (HA.out _ ?_).mono ?_; (exact r0); rintro e wa ⟨ua, rfl, ra, ba⟩)
      | (go_at_call 9; refine (HAR.out _ ?_).mono ?_; (first | exact SRow.keep (w := w3.drew) r0 ba | exact SRow.keep (w := w3) r0 ba); rintro e wb ⟨ub, rfl, rb, bb⟩)
      | (go_at_call 7; refine (HSA.out _ _ _ ?_ ?_).mono ?_; (exact ra.keep bb); (exact rb); rintro e wc ⟨rfl, bc⟩))
  replace ba := below_drew ba
  have b4 := chain (chain (chain b3 ba (Nat.le_refl _)) bb (Nat.le_refl _)) bc (Nat.le_refl _)
  have r4 := ((r0.keep ba).keep bb).keep bc
  have f0 := (b4.cell (p := ⟨g, 0, none⟩) hlt).trans c0
  have f1 := (b4.cell (p := ⟨g, 1, none⟩) hlt).trans c1
  clear ba bb bc b3 r0 ra rb d0 d1
  go_wp2_with fail
  go_region_held3 (fun w' => w'.cell? ⟨g, 0, none⟩ = some (.int .i64 p) ∧ w'.cell? ⟨g, 1, none⟩ = some (.int .i64 n))
    (first | go_keep | (go_split_ands; exact ⟨keep_below be3 (by assumption), keep_below be3 (by assumption)⟩) | (go_split_ands; exact ⟨keep_below be2 (by assumption), keep_below be2 (by assumption)⟩) | (go_split_ands; exact ⟨keep_below be1 (by assumption), keep_below be1 (by assumption)⟩))
    (first
      | (go_at_call 10; refine (HC.out _ ?_).mono ?_; (exact r4); rintro e wd ⟨uc, rfl, rc, be1⟩)
      | (go_at_call 11; refine (HCR.out _ ?_).mono ?_; (first | exact SRow.keep (w := wc.drew) r4 be1 | exact SRow.keep (w := wc) r4 be1); rintro e we ⟨ud, rfl, rd, be2⟩)
      | (go_at_call 7; refine (HSC.out _ _ _ ?_ ?_).mono ?_; (exact rc.keep be2); (exact rd); rintro e wf ⟨rfl, be3⟩))
  replace be1 := below_drew be1
  have b5 := chain (chain (chain b4 be1 (Nat.le_refl _)) be2 (Nat.le_refl _)) be3 (Nat.le_refl _)
  have r5 := ((r4.keep be1).keep be2).keep be3
  have h0 := (b5.cell (p := ⟨g, 0, none⟩) hlt).trans c0
  have h1 := (b5.cell (p := ⟨g, 1, none⟩) hlt).trans c1
  clear be1 be2 be3 b4 r4 rc rd f0 f1
  go_wp2_with fail
  have q1 : (fa == fa) = true := by simp
  have q2 : (fb == fb) = true := by simp
  have q3 : (ri == ri) = true := by simp
  have q4 : (tt == tt) = true := by simp
  have q5 : (ha == ha) = true := by simp
  have q6 : (me == me) = true := by simp
  go_region_held3 (fun w' => w'.cell? ⟨g, 0, none⟩ = some (.int .i64 p) ∧ w'.cell? ⟨g, 1, none⟩ = some (.int .i64 n))
    (first | go_keep | (go_split_ands; exact ⟨keep_below k8 (by assumption), keep_below k8 (by assumption)⟩) | (go_split_ands; exact ⟨keep_below k7 (by assumption), keep_below k7 (by assumption)⟩) | (go_split_ands; exact ⟨keep_below k6 (by assumption), keep_below k6 (by assumption)⟩) | (go_split_ands; exact ⟨keep_below k5 (by assumption), keep_below k5 (by assumption)⟩) | (go_split_ands; exact ⟨keep_below k4 (by assumption), keep_below k4 (by assumption)⟩) | (go_split_ands; exact ⟨keep_below k3 (by assumption), keep_below k3 (by assumption)⟩) | (go_split_ands; exact ⟨keep_below k2 (by assumption), keep_below k2 (by assumption)⟩) | (go_split_ands; exact ⟨keep_below k1 (by assumption), keep_below k1 (by assumption)⟩))
    (first
      | (go_at_call 12; refine (HRi.out _ ?_).mono ?_; (exact r5); rintro e x1 ⟨rfl, k1⟩)
      | (go_at_call 13; refine (HRR.out _ ?_).mono ?_; (first | exact SRow.keep (w := wf.drew) r5 k1 | exact SRow.keep (w := wf) r5 k1); rintro e x2 ⟨rfl, k2⟩)
      | (go_at_call 14; refine (HT.out _ ?_).mono ?_; (first | exact (SRow.keep (w := wf.drew) r5 k1).keep k2 | exact (SRow.keep (w := wf) r5 k1).keep k2); rintro e x3 ⟨rfl, k3⟩)
      | (go_at_call 15; refine (HTR.out _ ?_).mono ?_; (first | exact ((SRow.keep (w := wf.drew) r5 k1).keep k2).keep k3 | exact ((SRow.keep (w := wf) r5 k1).keep k2).keep k3); rintro e x4 ⟨rfl, k4⟩)
      | (go_at_call 16; refine (HH.out _ ?_).mono ?_; (first | exact (((SRow.keep (w := wf.drew) r5 k1).keep k2).keep k3).keep k4 | exact (((SRow.keep (w := wf) r5 k1).keep k2).keep k3).keep k4); rintro e x5 ⟨rfl, k5⟩)
      | (go_at_call 17; refine (HHR.out _ ?_).mono ?_; (first | exact ((((SRow.keep (w := wf.drew) r5 k1).keep k2).keep k3).keep k4).keep k5 | exact ((((SRow.keep (w := wf) r5 k1).keep k2).keep k3).keep k4).keep k5); rintro e x6 ⟨rfl, k6⟩)
      | (go_at_call 18; refine (HM.out _ ?_).mono ?_; (first | exact (((((SRow.keep (w := wf.drew) r5 k1).keep k2).keep k3).keep k4).keep k5).keep k6 | exact (((((SRow.keep (w := wf) r5 k1).keep k2).keep k3).keep k4).keep k5).keep k6); rintro e x7 ⟨rfl, k7⟩)
      | (go_at_call 19; refine (HMR.out _ ?_).mono ?_; (first | exact ((((((SRow.keep (w := wf.drew) r5 k1).keep k2).keep k3).keep k4).keep k5).keep k6).keep k7 | exact ((((((SRow.keep (w := wf) r5 k1).keep k2).keep k3).keep k4).keep k5).keep k6).keep k7); rintro e x8 ⟨rfl, k8⟩))
  replace k1 := below_drew k1
  have b6 := chain (chain (chain (chain (chain (chain (chain (chain b5 k1 (Nat.le_refl _)) k2 (Nat.le_refl _)) k3 (Nat.le_refl _)) k4 (Nat.le_refl _)) k5 (Nat.le_refl _)) k6 (Nat.le_refl _)) k7 (Nat.le_refl _)) k8 (Nat.le_refl _)
  go_wp2_with fail
  go_ret
  exact ⟨by first | rfl | simp, by rw [HG.out]; exact hb0.trans (b6.mono (Nat.le_of_lt hlt))⟩
end
end Go.Proofs.Ytfeiapkifoakoaa
