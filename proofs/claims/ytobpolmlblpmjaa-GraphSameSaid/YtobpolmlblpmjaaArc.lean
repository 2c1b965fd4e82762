/-
  Arcs in memory; contracts of isNode and Right.
-/
import Derived.Test.YtobpolmlblpmjaaBase
namespace Go.Proofs.Ytobpolmlblpmjaa
set_option linter.unusedVariables false
set_option linter.unusedSimpArgs false
open Go.RowKit

/-- An arc: from p to n. -/
structure Sp where
  p : Int
  n : Int
deriving DecidableEq, Inhabited
def gt (l : List Sp) (i : Nat) : Sp := l.getD i ⟨0, 0⟩
theorem gt_get (l : List Sp) (i : Nat) (h : i < l.length) : gt l i = l[i] := by simp [gt, List.getD_eq_getElem?_getD, h]
def spv (s : Sp) : Value := .agg #[.int .i64 s.p, .int .i64 s.n]
def Sp.wf (s : Sp) : Prop := -9223372036854775808 ≤ s.p ∧ s.p ≤ 9223372036854775807 ∧ -9223372036854775808 ≤ s.n ∧ s.n ≤ 9223372036854775807
/-- A slice value that reads as the arcs l, in memory below block B. -/
def SRow (w : World) (B : Nat) (v : Value) (l : List Sp) : Prop :=
  ((∀ s ∈ l, s.wf) ∧ ∀ A n c, v = .slice A n c → n ≤ c ∧ c ≤ maxLen ∧ (A = none → c = 0)) ∧ l.length ≤ 1000000 ∧ ∃ A cap, v = .slice A l.length cap ∧ (0 < l.length → ∃ b off, A = some ⟨b, off, none⟩ ∧ b < B ∧ ∀ i, i < l.length → w.cell? ⟨b, off + i * 2, none⟩ = some (.int .i64 (gt l i).p) ∧ w.cell? ⟨b, off + i * 2 + 1, none⟩ = some (.int .i64 (gt l i).n))
theorem SRow.below {w w' : World} {B : Nat} {v : Value} {l : List Sp} (h : SRow w B v l) (hb : Below B w w') : SRow w' B v l := by
  obtain ⟨hw, hl, A, cap, hv, hA⟩ := h
  refine ⟨hw, hl, A, cap, hv, fun h0 => ?_⟩
  obtain ⟨b, off, ha, hB, hc⟩ := hA h0
  exact ⟨b, off, ha, hB, fun k hk => ⟨(hb.cell (p := ⟨b, off + k * 2, none⟩) hB).trans (hc k hk).1, (hb.cell (p := ⟨b, off + k * 2 + 1, none⟩) hB).trans (hc k hk).2⟩⟩
theorem SRow.mono {w : World} {B B' : Nat} {v : Value} {l : List Sp} (h : SRow w B v l) (hb : B ≤ B') : SRow w B' v l := by
  obtain ⟨hw, hl, A, cap, hv, hA⟩ := h
  refine ⟨hw, hl, A, cap, hv, fun h0 => ?_⟩
  obtain ⟨b, off, ha, hB, hc⟩ := hA h0
  exact ⟨b, off, ha, by omega, hc⟩
theorem SRow.wf {w : World} {B : Nat} {v : Value} {l : List Sp} (h : SRow w B v l) (i : Nat) (hi : i < l.length) : (gt l i).wf := by
  rw [gt_get l i hi]; exact h.1.1 _ (List.getElem_mem hi)
theorem SRow.keep {w w' : World} {v : Value} {l : List Sp} (h : SRow w w.heap.size v l) (hb : Below w.heap.size w w') : SRow w' w'.heap.size v l := (h.below hb).mono hb.size
theorem chain {w w1 w2 : World} {B : Nat} (h : Below B w w1) (k : Below w1.heap.size w1 w2) (hB : B ≤ w.heap.size) : Below B w w2 := h.trans (k.mono (Nat.le_trans hB h.size))
theorem srow_nil0 (w : World) (B : Nat) : SRow w B (.slice none 0 0) [] := ⟨⟨fun s h => by simp at h, fun A n c h => by injection h with h1 h2 h3; subst h2; subst h3; exact ⟨Nat.le_refl _, by decide, fun _ => rfl⟩⟩, by simp, none, 0, rfl, fun h => by simp at h⟩

def nodeB (n v : Int) : Bool := decide (0 ≤ v) && decide (v < n)
theorem nodeB_iff {n v : Int} : nodeB n v = true ↔ 0 ≤ v ∧ v < n := by simp [nodeB]
def badB (n : Int) (s : Sp) : Bool := !(nodeB n s.p) || !(nodeB n s.n)
def rightB (n : Int) (l : List Sp) : Bool := decide (0 ≤ n) && decide (n ≤ 262144) && !(l.any (badB n))

theorem nodeP (n v : Int) (w : World) : Calls Try.prog 30 #[.int .i64 n, .int .i64 v] w fun e w' => e = .returned (.bool (nodeB n v)) ∧ w = w' := by
  by_cases h1 : (0 : Int) ≤ v
  · have d1 : decide ((0 : Int) ≤ v) = true := by simpa using h1
    by_cases h2 : v < n
    · have d2 : decide (v < n) = true := by simpa using h2
      have HN : Hid (nodeB n v = true) := Lib.hid (nodeB_iff.2 ⟨h1, h2⟩)
      go_enter Try.func30, Try.ntmps30
      go_wp2
      go_ret
      exact ⟨by rw [HN.out]; rfl, rfl⟩
    · have d2 : decide (v < n) = false := by simpa using h2
      have HN : Hid (nodeB n v = false) := Lib.hid (by unfold nodeB; rw [d2, Bool.and_false])
      go_enter Try.func30, Try.ntmps30
      go_wp2
      go_ret
      exact ⟨by rw [HN.out]; rfl, rfl⟩
  · have d1 : decide ((0 : Int) ≤ v) = false := by simpa using h1
    have HN : Hid (nodeB n v = false) := Lib.hid (by unfold nodeB; rw [d1, Bool.false_and])
    go_enter Try.func30, Try.ntmps30
    go_wp2
    go_ret
    exact ⟨by rw [HN.out]; rfl, rfl⟩

set_option maxHeartbeats 1000000 in
theorem badP (n : Int) (s : Sp) (B : Nat) (w : World) (hB : B < w.heap.size) (hn : w.cell? ⟨B, 0, none⟩ = some (.int .i64 n)) :
    Calls Try.prog 29 #[spv s, .pointer (some ⟨B, 0, none⟩)] w fun e w' => e = .returned (.bool (badB n s)) ∧ Below w.heap.size w w' := by
  obtain ⟨p, q⟩ := s
  unfold spv
  have q0 : (w.alloc (.cells #[.int .i64 p, .int .i64 q] 36)).cell? ⟨w.heap.size, 0, none⟩ = some (.int .i64 p) := (Blk.new w 36 _).cell 0
  have q1 : (w.alloc (.cells #[.int .i64 p, .int .i64 q] 36)).cell? ⟨w.heap.size, 1, none⟩ = some (.int .i64 q) := (Blk.new w 36 _).cell 1
  have hn2 : (w.alloc (.cells #[.int .i64 p, .int .i64 q] 36)).cell? ⟨B, 0, none⟩ = some (.int .i64 n) := ((below_new w _).cell (p := ⟨B, 0, none⟩) hB).trans hn
  have HF : Hid (badB n ⟨p, q⟩ = (!(nodeB n p) || !(nodeB n q))) := Lib.hid rfl
  have hb := below_new w (.cells #[.int .i64 p, .int .i64 q] 36)
  have HB := Lib.hid hb
  clear hb hn
  go_enter Try.func29, Try.ntmps29
  obtain ⟨W, hW⟩ : ∃ W, w.alloc (.cells #[.int .i64 p, .int .i64 q] 36) = W := ⟨_, rfl⟩
  rw [hW] at q0 q1 hn2 HB
  obtain ⟨g, hg⟩ : ∃ g, w.heap.size = g := ⟨_, rfl⟩
  rw [hg] at q0 q1
  obtain ⟨b1, hb1⟩ : ∃ b, nodeB n p = b := ⟨_, rfl⟩
  obtain ⟨b2, hb2⟩ : ∃ b, nodeB n q = b := ⟨_, rfl⟩
  have H1 := fun w => nodeP n p w
  have H2 := fun w => nodeP n q w
  rw [hb1] at H1
  rw [hb2] at H2
  rw [hb1, hb2] at HF
  have K1 := Lib.hid H1
  have K2 := Lib.hid H2
  clear hb1 hb2 H1 H2
  cases b1 <;> cases b2
  all_goals
    go_wp2_with fail
    go_wp2_with (go_at_call 30; (first | (with_reducible refine (K1.out _).mono ?_) | (with_reducible refine (K2.out _).mono ?_)); rintro e w' ⟨rfl, rfl⟩)
    go_ret
    exact ⟨by rw [HF.out]; rfl, HB.out⟩

/-- Where the first arc that is not right stands. -/
def firstBad (n : Int) (l : List Sp) : Int := match l.findIdx? (badB n) with | some i => i | none => -1
theorem firstBad_none {n : Int} {l : List Sp} (h : l.any (badB n) = false) : firstBad n l = -1 := by
  unfold firstBad
  have : l.findIdx? (badB n) = none := by
    rw [List.findIdx?_eq_none_iff]
    intro x hx
    exact by simpa using (List.any_eq_false.1 h) x hx
  rw [this]
theorem firstBad_some {n : Int} {l : List Sp} {k : Nat} (hk : k < l.length) (h : badB n (gt l k) = true) (hb : ∀ j, j < k → badB n (gt l j) = false) : firstBad n l = k := by
  unfold firstBad
  have : l.findIdx? (badB n) = some k := by
    rw [List.findIdx?_eq_some_iff_getElem]
    refine ⟨hk, by rw [← gt_get l k hk]; exact h, fun j hj => ?_⟩
    have := hb j hj
    rw [gt_get l j (by omega)] at this
    simp [this]
  rw [this]
theorem any_false {n : Int} {l : List Sp} (h : ∀ j, j < l.length → badB n (gt l j) = false) : l.any (badB n) = false := by
  rw [List.any_eq_false]
  intro x hx
  obtain ⟨i, hi, rfl⟩ := List.getElem_of_mem hx
  have := h i hi
  rw [gt_get l i hi] at this
  simp [this]
theorem firstBad_sign {n : Int} {l : List Sp} : decide (0 ≤ firstBad n l) = l.any (badB n) := by
  unfold firstBad
  cases h : l.findIdx? (badB n) with
  | none =>
    have : l.any (badB n) = false := by
      rw [List.any_eq_false]; intro x hx
      have := List.findIdx?_eq_none_iff.1 h x hx
      simp [this]
    rw [this]; rfl
  | some i =>
    obtain ⟨hi, h1, _⟩ := List.findIdx?_eq_some_iff_getElem.1 h
    have : l.any (badB n) = true := List.any_eq_true.2 ⟨l[i], List.getElem_mem hi, h1⟩
    rw [this]
    simp

set_option maxHeartbeats 1000000 in
theorem idxP (n : Int) (v : Value) (l : List Sp) (B : Nat) (w : World) (hB : B < w.heap.size) (hn : w.cell? ⟨B, 0, none⟩ = some (.int .i64 n)) (hr : SRow w w.heap.size v l) :
    Calls Try.prog 43 #[v, .func (.func 29) #[] #[.pointer (some ⟨B, 0, none⟩)]] w fun e w' => e = .returned (.int .i64 (firstBad n l)) ∧ Below w.heap.size w w' := by
  have hrow := hr
  obtain ⟨-, hlen, A, cap, rfl, hA⟩ := hr
  have HL := Lib.hid hlen
  have HA := Lib.hid hA
  clear hlen hA hrow
  go_enter Try.func43, Try.ntmps43
  go_wp2_with fail
  go_loopw [5, 8, 10, 11, 12, 13, 14, 15, 16] (fun x5 x8 x10 x11 x12 x13 x14 x15 x16 wl => ∃ k : Nat, x8 = .int .i64 k ∧ k ≤ l.length ∧ Below w.heap.size w wl ∧ Hid (∀ j, j < k → badB n (gt l j) = false)) (fun x5 x8 x10 x11 x12 x13 x14 x15 x16 _ => l.length - (intOf x8).toNat)
  case atStart => exact ⟨0, rfl, by omega, Below.refl _ _, fun j hj => by omega⟩
  case round =>
    obtain ⟨k, rfl, hk, hb, hd⟩ := hrel
    have hl1 := HL.out
    by_cases hlt : k < l.length
    · obtain ⟨b, off, rfl, hb2, hc⟩ := HA.out (by omega)
      have c1 := (hb.cell (p := ⟨b, off + k * 2, none⟩) hb2).trans (hc k hlt).1
      have c2 := (hb.cell (p := ⟨b, off + k * 2 + 1, none⟩) hb2).trans (hc k hlt).2
      have hn2 := (hb.cell (p := ⟨B, 0, none⟩) hB).trans hn
      have hB2 : B < wr.heap.size := Nat.lt_of_lt_of_le hB hb.size
      have HC := Lib.hid (badP n (gt l k) B wr hB2 hn2)
      obtain ⟨bb, hbb⟩ : ∃ b, badB n (gt l k) = b := ⟨_, rfl⟩
      obtain ⟨P, hP⟩ : ∃ P, (gt l k).p = P := ⟨_, rfl⟩
      obtain ⟨Q, hQ⟩ : ∃ Q, (gt l k).n = Q := ⟨_, rfl⟩
      unfold spv at HC
      rw [hbb, hP, hQ] at HC
      rw [hP] at c1
      rw [hQ] at c2
      have HBB := Lib.hid hbb
      have HB := Lib.hid hb
      clear hbb hP hQ hc hn2 hb
      cases bb
      · have HD : Hid (∀ j, j < k + 1 → badB n (gt l j) = false) := fun j hj => by
          by_cases e : j = k
          · rw [e]; exact HBB.out
          · exact hd j (by omega)
        clear hd
        go_wp2_with fail
        refine HC.out.mono ?_; rintro e w' ⟨rfl, h5⟩
        have HB2 := Lib.hid (chain HB.out h5 (Nat.le_refl _))
        clear h5
        go_wp2_with fail
        go_roundw
        case rel => exact ⟨k + 1, by go_num, by omega, HB2.out, HD⟩
        case measure => simp [intOf]; omega
      · have HD := Lib.hid (firstBad_some hlt HBB.out hd)
        go_wp2_with fail
        refine HC.out.mono ?_; rintro e w' ⟨rfl, h5⟩
        have HB2 := Lib.hid (chain HB.out h5 (Nat.le_refl _))
        clear h5
        go_wp2_with fail
        go_ret
        exact ⟨by rw [HD.out]; rfl, HB2.out⟩
    · have hkl : k = l.length := by omega
      have HD := Lib.hid (firstBad_none (any_false (fun j hj => hd j (by omega))))
      have HB := Lib.hid hb
      have hge : ¬ ((k : Int) < l.length) := by omega
      clear hkl hd hb
      go_wp2_with fail
      go_ret
      exact ⟨by rw [HD.out]; rfl, HB.out⟩

theorem contP (n : Int) (v : Value) (l : List Sp) (B : Nat) (w : World) (hB : B < w.heap.size) (hn : w.cell? ⟨B, 0, none⟩ = some (.int .i64 n)) (hr : SRow w w.heap.size v l) :
    Calls Try.prog 28 #[v, .func (.func 29) #[] #[.pointer (some ⟨B, 0, none⟩)]] w fun e w' => e = .returned (.bool (l.any (badB n))) ∧ Below w.heap.size w w' := by
  have HC := Lib.hid (idxP n v l B w hB hn hr)
  have HF := Lib.hid (firstBad_sign (n := n) (l := l))
  obtain ⟨r, hr2⟩ : ∃ r, firstBad n l = r := ⟨_, rfl⟩
  rw [hr2] at HC HF
  clear hr2 hn hr hB
  go_enter Try.func28, Try.ntmps28
  go_wp2_with fail
  refine HC.out.mono ?_; rintro e w' ⟨rfl, hb⟩
  go_wp2_with fail
  go_ret
  exact ⟨by rw [← HF.out]; rfl, hb⟩

set_option maxHeartbeats 1000000 in
/-- Right: a graph is right exactly if .. -/
theorem rightP (n : Int) (v : Value) (l : List Sp) (w : World) (hr : SRow w w.heap.size v l) :
    Calls Try.prog 12 #[.int .i64 n, v] w fun e w' => e = .returned (.bool (rightB n l)) ∧ Below w.heap.size w w' := by
  have q0 : (w.alloc (.cells #[.int .i64 n] 3)).cell? ⟨w.heap.size, 0, none⟩ = some (.int .i64 n) := (Blk.new w 3 _).cell 0
  have hb := below_new w (.cells #[.int .i64 n] 3)
  have HC := Lib.hid (contP n v l w.heap.size (w.alloc (.cells #[.int .i64 n] 3)) (by simp) q0 (hr.keep hb))
  have HF : Hid (rightB n l = (decide (0 ≤ n) && decide (n ≤ 262144) && !(l.any (badB n)))) := Lib.hid rfl
  have HB := Lib.hid hb
  obtain ⟨bb, hbb⟩ : ∃ b, l.any (badB n) = b := ⟨_, rfl⟩
  rw [hbb] at HC HF
  clear hb hr hbb
  by_cases h1 : (0 : Int) ≤ n
  · by_cases h2 : n ≤ 262144
    · have HF2 : Hid (rightB n l = !bb) := Lib.hid (by rw [HF.out]; simp [h1, h2])
      clear HF
      have d1 : decide (n < 0) = false := by rw [decide_eq_false_iff_not]; omega
      have d2 : decide (262144 < n) = false := by rw [decide_eq_false_iff_not]; omega
      go_enter Try.func12, Try.ntmps12
      go_wp2_with fail
      refine HC.out.mono ?_; rintro e w' ⟨rfl, h5⟩
      have h6 := chain HB.out h5 (Nat.le_refl _)
      have HB6 := Lib.hid h6
      clear h5 h6
      go_wp2_with fail
      go_ret
      exact ⟨by rw [HF2.out]; rfl, HB6.out⟩
    · have HF2 : Hid (rightB n l = false) := Lib.hid (by rw [HF.out]; simp [h2])
      have d1 : decide (n < 0) = false := by rw [decide_eq_false_iff_not]; omega
      have d2 : decide (262144 < n) = true := by rw [decide_eq_true_iff]; omega
      clear HF HC
      go_enter Try.func12, Try.ntmps12
      go_wp2_with fail
      go_ret
      exact ⟨by rw [HF2.out]; rfl, HB.out⟩
  · have HF2 : Hid (rightB n l = false) := Lib.hid (by rw [HF.out]; simp [h1])
    have d1 : decide (n < 0) = true := by rw [decide_eq_true_iff]; omega
    clear HF HC
    go_enter Try.func12, Try.ntmps12
    go_wp2_with fail
    go_ret
    exact ⟨by rw [HF2.out]; rfl, HB.out⟩
end Go.Proofs.Ytobpolmlblpmjaa
