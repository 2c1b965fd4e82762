/-
  Arcs in memory; contracts of isNode and Right.
  Nest of numbers, of truth values, and rows of rows, in memory.
-/
import Derived.Test.YtmnhnighlgpjmaaGreatBase
import Derived.Laws.OwnMore
import Derived.Laws.MakeOwn
namespace Go.Proofs.YtmnhnighlgpjmaaGreat
set_option linter.unusedVariables false
set_option linter.unusedSimpArgs false
open Go.RowKit

/-- An arc: from p to n. -/
structure Sp where
  p : Int
  n : Int
deriving DecidableEq, Inhabited
def gt (l : List Sp) (i : Nat) : Sp := l.getD i ⟨0, 0⟩
theorem gt_get (l : List Sp) (i : Nat) (h : i < l.length) : gt l i = l[i] := by simp [gt, List.getD_eq_getElem?_getD, h]
def spv (s : Sp) : Value := .agg #[.int .i64 s.p, .int .i64 s.n]
def Sp.wf (s : Sp) : Prop := -9223372036854775808 ≤ s.p ∧ s.p ≤ 9223372036854775807 ∧ -9223372036854775808 ≤ s.n ∧ s.n ≤ 9223372036854775807
/-- A slice value that reads as the arcs l, in memory below block B. -/
def SRow (w : World) (B : Nat) (v : Value) (l : List Sp) : Prop :=
  ((∀ s ∈ l, s.wf) ∧ ∀ A n c, v = .slice A n c → n ≤ c ∧ c ≤ maxLen ∧ (A = none → c = 0)) ∧ l.length ≤ 1000000 ∧ ∃ A cap, v = .slice A l.length cap ∧ (0 < l.length → ∃ b off, A = some ⟨b, off, none⟩ ∧ b < B ∧ ∀ i, i < l.length → w.cell? ⟨b, off + i * 2, none⟩ = some (.int .i64 (gt l i).p) ∧ w.cell? ⟨b, off + i * 2 + 1, none⟩ = some (.int .i64 (gt l i).n))
theorem SRow.below {w w' : World} {B : Nat} {v : Value} {l : List Sp} (h : SRow w B v l) (hb : Below B w w') : SRow w' B v l := by
  obtain ⟨hw, hl, A, cap, hv, hA⟩ := h
  refine ⟨hw, hl, A, cap, hv, fun h0 => ?_⟩
  obtain ⟨b, off, ha, hB, hc⟩ := hA h0
  exact ⟨b, off, ha, hB, fun k hk => ⟨(hb.cell (p := ⟨b, off + k * 2, none⟩) hB).trans (hc k hk).1, (hb.cell (p := ⟨b, off + k * 2 + 1, none⟩) hB).trans (hc k hk).2⟩⟩
theorem SRow.mono {w : World} {B B' : Nat} {v : Value} {l : List Sp} (h : SRow w B v l) (hb : B ≤ B') : SRow w B' v l := by
  obtain ⟨hw, hl, A, cap, hv, hA⟩ := h
  refine ⟨hw, hl, A, cap, hv, fun h0 => ?_⟩
  obtain ⟨b, off, ha, hB, hc⟩ := hA h0
  exact ⟨b, off, ha, by omega, hc⟩
theorem SRow.wf {w : World} {B : Nat} {v : Value} {l : List Sp} (h : SRow w B v l) (i : Nat) (hi : i < l.length) : (gt l i).wf := by
  rw [gt_get l i hi]; exact h.1.1 _ (List.getElem_mem hi)
theorem SRow.keep {w w' : World} {v : Value} {l : List Sp} (h : SRow w w.heap.size v l) (hb : Below w.heap.size w w') : SRow w' w'.heap.size v l := (h.below hb).mono hb.size
theorem chain {w w1 w2 : World} {B : Nat} (h : Below B w w1) (k : Below w1.heap.size w1 w2) (hB : B ≤ w.heap.size) : Below B w w2 := h.trans (k.mono (Nat.le_trans hB h.size))
theorem srow_nil0 (w : World) (B : Nat) : SRow w B (.slice none 0 0) [] := ⟨⟨fun s h => by simp at h, fun A n c h => by injection h with h1 h2 h3; subst h2; subst h3; exact ⟨Nat.le_refl _, by decide, fun _ => rfl⟩⟩, by simp, none, 0, rfl, fun h => by simp at h⟩

def nodeB (n v : Int) : Bool := decide (0 ≤ v) && decide (v < n)
theorem nodeB_iff {n v : Int} : nodeB n v = true ↔ 0 ≤ v ∧ v < n := by simp [nodeB]
def badB (n : Int) (s : Sp) : Bool := !(nodeB n s.p) || !(nodeB n s.n)
def rightB (n : Int) (l : List Sp) : Bool := decide (0 ≤ n) && decide (n ≤ 262144) && !(l.any (badB n))

theorem nodeP (n v : Int) (w : World) : Calls Tryz.prog 49 #[.int .i64 n, .int .i64 v] w fun e w' => e = .returned (.bool (nodeB n v)) ∧ w = w' := by
  by_cases h1 : (0 : Int) ≤ v
  · have d1 : decide ((0 : Int) ≤ v) = true := by simpa using h1
    by_cases h2 : v < n
    · have d2 : decide (v < n) = true := by simpa using h2
      have HN : Hid (nodeB n v = true) := Lib.hid (nodeB_iff.2 ⟨h1, h2⟩)
      go_enter Tryz.func49, Tryz.ntmps49
      go_wp2
      go_ret
      exact ⟨by rw [HN.out]; rfl, rfl⟩
    · have d2 : decide (v < n) = false := by simpa using h2
      have HN : Hid (nodeB n v = false) := Lib.hid (by unfold nodeB; rw [d2, Bool.and_false])
      go_enter Tryz.func49, Tryz.ntmps49
      go_wp2
      go_ret
      exact ⟨by rw [HN.out]; rfl, rfl⟩
  · have d1 : decide ((0 : Int) ≤ v) = false := by simpa using h1
    have HN : Hid (nodeB n v = false) := Lib.hid (by unfold nodeB; rw [d1, Bool.false_and])
    go_enter Tryz.func49, Tryz.ntmps49
    go_wp2
    go_ret
    exact ⟨by rw [HN.out]; rfl, rfl⟩

set_option maxHeartbeats 1000000 in
theorem badP (n : Int) (s : Sp) (B : Nat) (w : World) (hB : B < w.heap.size) (hn : w.cell? ⟨B, 0, none⟩ = some (.int .i64 n)) :
    Calls Tryz.prog 48 #[spv s, .pointer (some ⟨B, 0, none⟩)] w fun e w' => e = .returned (.bool (badB n s)) ∧ Below w.heap.size w w' := by
  obtain ⟨p, q⟩ := s
  unfold spv
  have q0 : (w.alloc (.cells #[.int .i64 p, .int .i64 q] 53)).cell? ⟨w.heap.size, 0, none⟩ = some (.int .i64 p) := (Blk.new w 53 _).cell 0
  have q1 : (w.alloc (.cells #[.int .i64 p, .int .i64 q] 53)).cell? ⟨w.heap.size, 1, none⟩ = some (.int .i64 q) := (Blk.new w 53 _).cell 1
  have hn2 : (w.alloc (.cells #[.int .i64 p, .int .i64 q] 53)).cell? ⟨B, 0, none⟩ = some (.int .i64 n) := ((below_new w _).cell (p := ⟨B, 0, none⟩) hB).trans hn
  have HF : Hid (badB n ⟨p, q⟩ = (!(nodeB n p) || !(nodeB n q))) := Lib.hid rfl
  have hb := below_new w (.cells #[.int .i64 p, .int .i64 q] 53)
  have HB := Lib.hid hb
  clear hb hn
  go_enter Tryz.func48, Tryz.ntmps48
  obtain ⟨W, hW⟩ : ∃ W, w.alloc (.cells #[.int .i64 p, .int .i64 q] 53) = W := ⟨_, rfl⟩
  rw [hW] at q0 q1 hn2 HB
  obtain ⟨g, hg⟩ : ∃ g, w.heap.size = g := ⟨_, rfl⟩
  rw [hg] at q0 q1
  obtain ⟨b1, hb1⟩ : ∃ b, nodeB n p = b := ⟨_, rfl⟩
  obtain ⟨b2, hb2⟩ : ∃ b, nodeB n q = b := ⟨_, rfl⟩
  have H1 := fun w => nodeP n p w
  have H2 := fun w => nodeP n q w
  rw [hb1] at H1
  rw [hb2] at H2
  rw [hb1, hb2] at HF
  have K1 := Lib.hid H1
  have K2 := Lib.hid H2
  clear hb1 hb2 H1 H2
  cases b1 <;> cases b2
  all_goals
    go_wp2_with fail
    go_wp2_with (go_at_call 49; (first | (with_reducible refine (K1.out _).mono ?_) | (with_reducible refine (K2.out _).mono ?_)); rintro e w' ⟨rfl, rfl⟩)
    go_ret
    exact ⟨by rw [HF.out]; rfl, HB.out⟩

/-- Where the first arc that is not right stands. -/
def firstBad (n : Int) (l : List Sp) : Int := match l.findIdx? (badB n) with | some i => i | none => -1
theorem firstBad_none {n : Int} {l : List Sp} (h : l.any (badB n) = false) : firstBad n l = -1 := by
  unfold firstBad
  have : l.findIdx? (badB n) = none := by
    rw [List.findIdx?_eq_none_iff]
    intro x hx
    exact by simpa using (List.any_eq_false.1 h) x hx
  rw [this]
theorem firstBad_some {n : Int} {l : List Sp} {k : Nat} (hk : k < l.length) (h : badB n (gt l k) = true) (hb : ∀ j, j < k → badB n (gt l j) = false) : firstBad n l = k := by
  unfold firstBad
  have : l.findIdx? (badB n) = some k := by
    rw [List.findIdx?_eq_some_iff_getElem]
    refine ⟨hk, by rw [← gt_get l k hk]; exact h, fun j hj => ?_⟩
    have := hb j hj
    rw [gt_get l j (by omega)] at this
    simp [this]
  rw [this]
theorem any_false {n : Int} {l : List Sp} (h : ∀ j, j < l.length → badB n (gt l j) = false) : l.any (badB n) = false := by
  rw [List.any_eq_false]
  intro x hx
  obtain ⟨i, hi, rfl⟩ := List.getElem_of_mem hx
  have := h i hi
  rw [gt_get l i hi] at this
  simp [this]
theorem firstBad_sign {n : Int} {l : List Sp} : decide (0 ≤ firstBad n l) = l.any (badB n) := by
  unfold firstBad
  cases h : l.findIdx? (badB n) with
  | none =>
    have : l.any (badB n) = false := by
      rw [List.any_eq_false]; intro x hx
      have := List.findIdx?_eq_none_iff.1 h x hx
      simp [this]
    rw [this]; rfl
  | some i =>
    obtain ⟨hi, h1, _⟩ := List.findIdx?_eq_some_iff_getElem.1 h
    have : l.any (badB n) = true := List.any_eq_true.2 ⟨l[i], List.getElem_mem hi, h1⟩
    rw [this]
    simp

set_option maxHeartbeats 1000000 in
theorem idxP (n : Int) (v : Value) (l : List Sp) (B : Nat) (w : World) (hB : B < w.heap.size) (hn : w.cell? ⟨B, 0, none⟩ = some (.int .i64 n)) (hr : SRow w w.heap.size v l) :
    Calls Tryz.prog 67 #[v, .func (.func 48) #[] #[.pointer (some ⟨B, 0, none⟩)]] w fun e w' => e = .returned (.int .i64 (firstBad n l)) ∧ Below w.heap.size w w' := by
  have hrow := hr
  obtain ⟨-, hlen, A, cap, rfl, hA⟩ := hr
  have HL := Lib.hid hlen
  have HA := Lib.hid hA
  clear hlen hA hrow
  go_enter Tryz.func67, Tryz.ntmps67
  go_wp2_with fail
  go_loopw [5, 8, 10, 11, 12, 13, 14, 15, 16] (fun x5 x8 x10 x11 x12 x13 x14 x15 x16 wl => ∃ k : Nat, x8 = .int .i64 k ∧ k ≤ l.length ∧ Below w.heap.size w wl ∧ Hid (∀ j, j < k → badB n (gt l j) = false)) (fun x5 x8 x10 x11 x12 x13 x14 x15 x16 _ => l.length - (intOf x8).toNat)
  case atStart => exact ⟨0, rfl, by omega, Below.refl _ _, fun j hj => by omega⟩
  case round =>
    obtain ⟨k, rfl, hk, hb, hd⟩ := hrel
    have hl1 := HL.out
    by_cases hlt : k < l.length
    · obtain ⟨b, off, rfl, hb2, hc⟩ := HA.out (by omega)
      have c1 := (hb.cell (p := ⟨b, off + k * 2, none⟩) hb2).trans (hc k hlt).1
      have c2 := (hb.cell (p := ⟨b, off + k * 2 + 1, none⟩) hb2).trans (hc k hlt).2
      have hn2 := (hb.cell (p := ⟨B, 0, none⟩) hB).trans hn
      have hB2 : B < wr.heap.size := Nat.lt_of_lt_of_le hB hb.size
      have HC := Lib.hid (badP n (gt l k) B wr hB2 hn2)
      obtain ⟨bb, hbb⟩ : ∃ b, badB n (gt l k) = b := ⟨_, rfl⟩
      obtain ⟨P, hP⟩ : ∃ P, (gt l k).p = P := ⟨_, rfl⟩
      obtain ⟨Q, hQ⟩ : ∃ Q, (gt l k).n = Q := ⟨_, rfl⟩
      unfold spv at HC
      rw [hbb, hP, hQ] at HC
      rw [hP] at c1
      rw [hQ] at c2
      have HBB := Lib.hid hbb
      have HB := Lib.hid hb
      clear hbb hP hQ hc hn2 hb
      cases bb
      · have HD : Hid (∀ j, j < k + 1 → badB n (gt l j) = false) := fun j hj => by
          by_cases e : j = k
          · rw [e]; exact HBB.out
          · exact hd j (by omega)
        clear hd
        go_wp2_with fail
        refine HC.out.mono ?_; rintro e w' ⟨rfl, h5⟩
        have HB2 := Lib.hid (chain HB.out h5 (Nat.le_refl _))
        clear h5
        go_wp2_with fail
        go_roundw
        case rel => exact ⟨k + 1, by go_num, by omega, HB2.out, HD⟩
        case measure => simp [intOf]; omega
      · have HD := Lib.hid (firstBad_some hlt HBB.out hd)
        go_wp2_with fail
        refine HC.out.mono ?_; rintro e w' ⟨rfl, h5⟩
        have HB2 := Lib.hid (chain HB.out h5 (Nat.le_refl _))
        clear h5
        go_wp2_with fail
        go_ret
        exact ⟨by rw [HD.out]; rfl, HB2.out⟩
    · have hkl : k = l.length := by omega
      have HD := Lib.hid (firstBad_none (any_false (fun j hj => hd j (by omega))))
      have HB := Lib.hid hb
      have hge : ¬ ((k : Int) < l.length) := by omega
      clear hkl hd hb
      go_wp2_with fail
      go_ret
      exact ⟨by rw [HD.out]; rfl, HB.out⟩

theorem contP (n : Int) (v : Value) (l : List Sp) (B : Nat) (w : World) (hB : B < w.heap.size) (hn : w.cell? ⟨B, 0, none⟩ = some (.int .i64 n)) (hr : SRow w w.heap.size v l) :
    Calls Tryz.prog 47 #[v, .func (.func 48) #[] #[.pointer (some ⟨B, 0, none⟩)]] w fun e w' => e = .returned (.bool (l.any (badB n))) ∧ Below w.heap.size w w' := by
  have HC := Lib.hid (idxP n v l B w hB hn hr)
  have HF := Lib.hid (firstBad_sign (n := n) (l := l))
  obtain ⟨r, hr2⟩ : ∃ r, firstBad n l = r := ⟨_, rfl⟩
  rw [hr2] at HC HF
  clear hr2 hn hr hB
  go_enter Tryz.func47, Tryz.ntmps47
  go_wp2_with fail
  refine HC.out.mono ?_; rintro e w' ⟨rfl, hb⟩
  go_wp2_with fail
  go_ret
  exact ⟨by rw [← HF.out]; rfl, hb⟩

set_option maxHeartbeats 1000000 in
/-- Right: a graph is right exactly if .. -/
theorem rightP (n : Int) (v : Value) (l : List Sp) (w : World) (hr : SRow w w.heap.size v l) :
    Calls Tryz.prog 34 #[.int .i64 n, v] w fun e w' => e = .returned (.bool (rightB n l)) ∧ Below w.heap.size w w' := by
  have q0 : (w.alloc (.cells #[.int .i64 n] 3)).cell? ⟨w.heap.size, 0, none⟩ = some (.int .i64 n) := (Blk.new w 3 _).cell 0
  have hb := below_new w (.cells #[.int .i64 n] 3)
  have HC := Lib.hid (contP n v l w.heap.size (w.alloc (.cells #[.int .i64 n] 3)) (by simp) q0 (hr.keep hb))
  have HF : Hid (rightB n l = (decide (0 ≤ n) && decide (n ≤ 262144) && !(l.any (badB n)))) := Lib.hid rfl
  have HB := Lib.hid hb
  obtain ⟨bb, hbb⟩ : ∃ b, l.any (badB n) = b := ⟨_, rfl⟩
  rw [hbb] at HC HF
  clear hb hr hbb
  by_cases h1 : (0 : Int) ≤ n
  · by_cases h2 : n ≤ 262144
    · have HF2 : Hid (rightB n l = !bb) := Lib.hid (by rw [HF.out]; simp [h1, h2])
      clear HF
      have d1 : decide (n < 0) = false := by rw [decide_eq_false_iff_not]; omega
      have d2 : decide (262144 < n) = false := by rw [decide_eq_false_iff_not]; omega
      go_enter Tryz.func34, Tryz.ntmps34
      go_wp2_with fail
      refine HC.out.mono ?_; rintro e w' ⟨rfl, h5⟩
      have h6 := chain HB.out h5 (Nat.le_refl _)
      have HB6 := Lib.hid h6
      clear h5 h6
      go_wp2_with fail
      go_ret
      exact ⟨by rw [HF2.out]; rfl, HB6.out⟩
    · have HF2 : Hid (rightB n l = false) := Lib.hid (by rw [HF.out]; simp [h2])
      have d1 : decide (n < 0) = false := by rw [decide_eq_false_iff_not]; omega
      have d2 : decide (262144 < n) = true := by rw [decide_eq_true_iff]; omega
      clear HF HC
      go_enter Tryz.func34, Tryz.ntmps34
      go_wp2_with fail
      go_ret
      exact ⟨by rw [HF2.out]; rfl, HB.out⟩
  · have HF2 : Hid (rightB n l = false) := Lib.hid (by rw [HF.out]; simp [h1])
    have d1 : decide (n < 0) = true := by rw [decide_eq_true_iff]; omega
    clear HF HC
    go_enter Tryz.func34, Tryz.ntmps34
    go_wp2_with fail
    go_ret
    exact ⟨by rw [HF2.out]; rfl, HB.out⟩
end Go.Proofs.YtmnhnighlgpjmaaGreat

namespace Go.Proofs.YtmnhnighlgpjmaaGreat
set_option linter.unusedVariables false
set_option linter.unusedSimpArgs false
open Go.RowKit

def iv (l : List Int) : List Value := l.map (Value.int .i64)
def bv (l : List Bool) : List Value := l.map Value.bool
def zi (l : List Nat) : List Int := l.map (fun x : Nat => (x : Int))
theorem iv_length (l : List Int) : (iv l).length = l.length := by simp [iv]
theorem bv_length (l : List Bool) : (bv l).length = l.length := by simp [bv]
theorem zi_length (l : List Nat) : (zi l).length = l.length := by simp [zi]
theorem iv_append (a b : List Int) : iv (a ++ b) = iv a ++ iv b := by simp [iv]
theorem zi_append (a b : List Nat) : zi (a ++ b) = zi a ++ zi b := by simp [zi]
theorem iv_get (l : List Int) (i : Nat) : (iv l)[i]? = l[i]?.map (Value.int .i64) := by simp [iv]
theorem bv_get (l : List Bool) (i : Nat) : (bv l)[i]? = l[i]?.map Value.bool := by simp [bv]
theorem zi_get (l : List Nat) (i : Nat) : (zi l)[i]? = l[i]?.map (fun x : Nat => (x : Int)) := by simp [zi]
theorem iv_set (l : List Int) (i : Nat) (z : Int) : iv (l.set i z) = (iv l).set i (.int .i64 z) := by simp [iv, List.map_set]
theorem bv_set (l : List Bool) (i : Nat) (z : Bool) : bv (l.set i z) = (bv l).set i (.bool z) := by simp [bv, List.map_set]
theorem zi_set (l : List Nat) (i z : Nat) : zi (l.set i z) = (zi l).set i (z : Int) := by simp [zi, List.map_set]

theorem infoI : (Tryz.prog.info? 3).map (fun i => (i.zero, i.size, i.bytes)) = some (some (.int .i64 0), 1, 8) := by kernel_rfl
theorem infoB : (Tryz.prog.info? 4).map (fun i => (i.zero, i.size, i.bytes)) = some (some (.bool false), 1, 1) := by kernel_rfl
theorem infoL : (Tryz.prog.info? 33).map (fun i => (i.zero, i.size, i.bytes)) = some (some (.slice none 0 0), 1, 24) := by kernel_rfl
theorem infoM : (Tryz.prog.info? 127).map (fun i => (i.zero, i.size, i.bytes)) = some (some (.slice none 0 0), 1, 24) := by kernel_rfl

/-- A slice value that reads as the ints l, in memory below block B. -/
def IRow (w : World) (B : Nat) (v : Value) (l : List Int) : Prop :=
  l.length ≤ 1000000 ∧ ∃ A cap, v = .slice A l.length cap ∧ l.length ≤ cap ∧ cap ≤ maxLen ∧ (A = none → cap = 0) ∧ (0 < l.length → ∃ b off, A = some ⟨b, off, none⟩ ∧ b < B ∧ ∀ i (h : i < l.length), w.cell? ⟨b, off + i, none⟩ = some (.int .i64 l[i]))
theorem IRow.below {w w' : World} {B : Nat} {v : Value} {l : List Int} (h : IRow w B v l) (hb : Below B w w') : IRow w' B v l := by
  obtain ⟨hl, A, cap, hv, h1, h2, h3, hA⟩ := h
  refine ⟨hl, A, cap, hv, h1, h2, h3, fun h0 => ?_⟩
  obtain ⟨b, off, ha, hB, hc⟩ := hA h0
  exact ⟨b, off, ha, hB, fun k hk => (hb.cell (p := ⟨b, off + k, none⟩) hB).trans (hc k hk)⟩
theorem IRow.mono {w : World} {B B' : Nat} {v : Value} {l : List Int} (h : IRow w B v l) (hb : B ≤ B') : IRow w B' v l := by
  obtain ⟨hl, A, cap, hv, h1, h2, h3, hA⟩ := h
  refine ⟨hl, A, cap, hv, h1, h2, h3, fun h0 => ?_⟩
  obtain ⟨b, off, ha, hB, hc⟩ := hA h0
  exact ⟨b, off, ha, by omega, hc⟩
theorem IRow.keep {w w' : World} {v : Value} {l : List Int} (h : IRow w w.heap.size v l) (hb : Below w.heap.size w w') : IRow w' w'.heap.size v l := (h.below hb).mono hb.size
theorem irow_nil (w : World) (B : Nat) : IRow w B (.slice none 0 0) [] := ⟨by simp, none, 0, rfl, by simp, by decide, fun _ => rfl, fun h => by simp at h⟩
/-- v owns the ints l. -/
def OwnI (w : World) (base : Nat) (v : Value) (l : List Int) : Prop := w.ownsRow base 3 1 v l.length (iv l)
def OwnB (w : World) (base : Nat) (v : Value) (l : List Bool) : Prop := w.ownsRow base 4 1 v l.length (bv l)
theorem OwnI.form {w : World} {base : Nat} {v : Value} {l : List Int} (h : OwnI w base v l) : (v = .slice none 0 0 ∧ l = []) ∨ ∃ g cap cur, v = .slice (some ⟨g, 0, none⟩) l.length cap ∧ base ≤ g ∧ w.heap[g]? = some (.cells cur 3 (0, 0)) ∧ l.length ≤ cap ∧ cap ≤ maxLen ∧ cur.size = cap ∧ cur.toList.take l.length = iv l := by
  rcases h.2 with ⟨h1, h2⟩ | ⟨g, cap, cur, h1, h2, h3, h4, h5, h6, h7⟩
  · exact .inl ⟨h1, List.eq_nil_of_length_eq_zero h2⟩
  · exact .inr ⟨g, cap, cur, h1, h2, h3, h4, h5, by omega, by rw [Nat.mul_one] at h7; exact h7⟩
theorem OwnI.irow {w : World} {base : Nat} {v : Value} {l : List Int} (h : OwnI w base v l) (hl : l.length ≤ 1000000) : IRow w w.heap.size v l := by
  rcases h.form with ⟨rfl, rfl⟩ | ⟨g, cap, cur, rfl, h2, h3, h4, h5, h6, h7⟩
  · exact irow_nil _ _
  · refine ⟨hl, _, cap, rfl, h4, h5, (fun e => by cases e), fun _ => ⟨g, 0, rfl, (Array.getElem?_eq_some_iff.1 h3).1, fun i hi => ?_⟩⟩
    rw [Nat.zero_add, h.cellAt i (by omega), iv_get, List.getElem?_eq_getElem hi]; rfl
theorem OwnI.nil (w : World) (base : Nat) : OwnI w base (.slice none 0 0) [] := World.ownsRow_nil _ _ _ _
theorem OwnI.kept {w w' : World} {base : Nat} {v : Value} {l : List Int} {row : Option Nat} (h : OwnI w base v l) (hg : w.grownBy w' row) (hne : v.ownBlock = none ∨ v.ownBlock ≠ row) : OwnI w' base v l := World.ownsRow.kept h hg hne
theorem OwnI.below {w w' : World} {base : Nat} {v : Value} {l : List Int} (h : OwnI w base v l) (hb : Below w.heap.size w w') : OwnI w' base v l :=
  h.kept (grown_below hb none) (by cases v.ownBlock <;> simp)
theorem OwnI.base {w : World} {base base' : Nat} {v : Value} {l : List Int} (h : OwnI w base v l) (hb : base' ≤ base) : OwnI w base' v l := by
  refine ⟨h.1, ?_⟩
  rcases h.2 with hn | ⟨g, cap, cur, hv, hbg, rest⟩
  · exact .inl hn
  · exact .inr ⟨g, cap, cur, hv, Nat.le_trans hb hbg, rest⟩
theorem OwnB.kept {w w' : World} {base : Nat} {v : Value} {l : List Bool} {row : Option Nat} (h : OwnB w base v l) (hg : w.grownBy w' row) (hne : v.ownBlock = none ∨ v.ownBlock ≠ row) : OwnB w' base v l := World.ownsRow.kept h hg hne
theorem OwnB.below {w w' : World} {base : Nat} {v : Value} {l : List Bool} (h : OwnB w base v l) (hb : Below w.heap.size w w') : OwnB w' base v l :=
  h.kept (grown_below hb none) (by cases v.ownBlock <;> simp)
/-- A store into a row that is owned. -/
theorem own_store {w : World} {base g cap n : Nat} {e : TypeId} {xs : List Value} (h : w.ownsRow base e 1 (.slice (some ⟨g, 0, none⟩) n cap) n xs) (i : Nat) (hi : i < n) (u : Value) : (w.setCell ⟨g, i, none⟩ u).ownsRow base e 1 (.slice (some ⟨g, 0, none⟩) n cap) n (xs.set i u) := by
  refine ⟨by rw [List.length_set]; exact h.1, ?_⟩
  rcases h.2 with ⟨hv, _⟩ | ⟨g2, cap2, cur, hv, hb, hg, h1, h2, h3, h4⟩
  · cases hv
  · injection hv with e1 e2 e3
    injection e1 with e1
    injection e1 with e1 _ _
    subst e1; subst e3
    refine .inr ⟨g, cap, cur.setIfInBounds i u, rfl, hb, ?_, h1, h2, by simpa using h3, ?_⟩
    · rw [setCell_eq_setRow w g i cur e (0, 0) u hg]
      exact setRow_heap w g cur (cur.setIfInBounds i u) e (0, 0) hg
    · rw [Array.toList_setIfInBounds, List.take_set, h4]
theorem OwnI.store {w : World} {base g cap n : Nat} {l : List Int} (h : OwnI w base (.slice (some ⟨g, 0, none⟩) n cap) l) (i : Nat) (hi : i < l.length) (z : Int) : OwnI (w.setCell ⟨g, i, none⟩ (.int .i64 z)) base (.slice (some ⟨g, 0, none⟩) n cap) (l.set i z) := by
  have hn : n = l.length := by
    rcases h.form with ⟨hv, _⟩ | ⟨_, _, _, hv, _⟩
    · cases hv
    · injection hv
  subst hn
  unfold OwnI
  rw [List.length_set, iv_set]
  exact own_store h i hi _
theorem OwnB.form {w : World} {base : Nat} {v : Value} {l : List Bool} (h : OwnB w base v l) : (v = .slice none 0 0 ∧ l = []) ∨ ∃ g cap, v = .slice (some ⟨g, 0, none⟩) l.length cap ∧ base ≤ g ∧ g < w.heap.size := by
  rcases h.2 with ⟨h1, h2⟩ | ⟨g, cap, cur, h1, h2, h3, h4, h5, h6, h7⟩
  · exact .inl ⟨h1, List.eq_nil_of_length_eq_zero h2⟩
  · exact .inr ⟨g, cap, h1, h2, (Array.getElem?_eq_some_iff.1 h3).1⟩
theorem OwnB.store {w : World} {base g cap n : Nat} {l : List Bool} (h : OwnB w base (.slice (some ⟨g, 0, none⟩) n cap) l) (i : Nat) (hi : i < l.length) (z : Bool) : OwnB (w.setCell ⟨g, i, none⟩ (.bool z)) base (.slice (some ⟨g, 0, none⟩) n cap) (l.set i z) := by
  have hn : n = l.length := by
    rcases h.form with ⟨hv, _⟩ | ⟨_, _, hv, _⟩
    · cases hv
    · injection hv
  subst hn
  unfold OwnB
  rw [List.length_set, bv_set]
  exact own_store h i hi _
theorem OwnI.cell {w : World} {base g cap n : Nat} {l : List Int} (h : OwnI w base (.slice (some ⟨g, 0, none⟩) n cap) l) (i : Nat) (hi : i < l.length) : w.cell? ⟨g, i, none⟩ = some (.int .i64 l[i]) := by
  have hn : n = l.length := by
    rcases h.form with ⟨hv, _⟩ | ⟨_, _, _, hv, _⟩
    · cases hv
    · injection hv
  subst hn
  rw [World.ownsRow.cellAt h i (by omega), iv_get, List.getElem?_eq_getElem hi]; rfl
theorem OwnB.cell {w : World} {base g cap n : Nat} {l : List Bool} (h : OwnB w base (.slice (some ⟨g, 0, none⟩) n cap) l) (i : Nat) (hi : i < l.length) : w.cell? ⟨g, i, none⟩ = some (.bool l[i]) := by
  have hn : n = l.length := by
    rcases h.form with ⟨hv, _⟩ | ⟨_, _, hv, _⟩
    · cases hv
    · injection hv
  subst hn
  rw [World.ownsRow.cellAt h i (by omega), bv_get, List.getElem?_eq_getElem hi]; rfl
theorem own_free {w : World} {base g cap n : Nat} {e : TypeId} {xs : List Value} (h : w.ownsRow base e 1 (.slice (some ⟨g, 0, none⟩) n cap) n xs) (i : Nat) : w.frozen? ⟨g, i, none⟩ = false := by
  rcases h.2 with ⟨hv, _⟩ | ⟨g2, cap2, cur, hv, hb, hg, _⟩
  · cases hv
  · injection hv with e1 e2 e3
    injection e1 with e1
    injection e1 with e1 _ _
    subst e1
    simp [World.frozen?, hg]

/-- make([]T, n), each element of one cell. -/
theorem madeCells_one (z : Value) (hz : z.cells = #[z]) (n : Nat) : (madeCells z.cells (n * 1)).toList = List.replicate n z := by
  rw [hz]
  apply List.ext_getElem
  · simp [madeCells]
  · intro i h1 h2
    have : i % 1 = 0 := Nat.mod_one i
    simp [madeCells, this]
theorem run_mkI (w : World) (n : Nat) (hn : n ≤ 1000000) : ∃ w', (Instr.makeSlice 33 (.int .i64 (n : Int)) (.int .i64 (n : Int))).run Tryz.prog w = .ok (.slice (some ⟨w.heap.size, 0, none⟩) n n) w' ∧ OwnI w' w.heap.size (.slice (some ⟨w.heap.size, 0, none⟩) n n) (List.replicate n 0) ∧ Below w.heap.size w w' := by
  obtain ⟨i0, hi, hz0, hz1, hz2⟩ := info_parts infoI
  obtain ⟨w', h1, h2, h3⟩ := run_makeSlice_full (P := Tryz.prog) w w.heap.size 33 3 i0 (.int .i64 0) 1 Tryz.underlying33 hi hz0 hz1 .i64 .i64 n (by omega) (by rw [hz2]; omega) (by unfold maxLen; omega) (Nat.le_refl _)
  rw [madeCells_one _ rfl] at h2
  refine ⟨w', h1, ?_, (Below.refl _ _).grown h3 (Nat.le_refl _) (fun k e => by cases e)⟩
  unfold OwnI iv
  simpa using h2
theorem run_mkB (w : World) (n : Nat) (hn : n ≤ 1000000) : ∃ w', (Instr.makeSlice 127 (.int .i64 (n : Int)) (.int .i64 (n : Int))).run Tryz.prog w = .ok (.slice (some ⟨w.heap.size, 0, none⟩) n n) w' ∧ OwnB w' w.heap.size (.slice (some ⟨w.heap.size, 0, none⟩) n n) (List.replicate n false) ∧ Below w.heap.size w w' := by
  obtain ⟨i0, hi, hz0, hz1, hz2⟩ := info_parts infoB
  obtain ⟨w', h1, h2, h3⟩ := run_makeSlice_full (P := Tryz.prog) w w.heap.size 127 4 i0 (.bool false) 1 Tryz.underlying127 hi hz0 hz1 .i64 .i64 n (by omega) (by rw [hz2]; omega) (by unfold maxLen; omega) (Nat.le_refl _)
  rw [madeCells_one _ rfl] at h2
  refine ⟨w', h1, ?_, (Below.refl _ _).grown h3 (Nat.le_refl _) (fun k e => by cases e)⟩
  unfold OwnB bv
  simpa using h2

/-- Block g holds the slice values vs, each of which owns its row of ints, no two of them the same. -/
structure Nest (w : World) (base g : Nat) (vs : List Value) (L : List (List Int)) : Prop where
  len : vs.length = L.length
  hb : base ≤ g
  blk : w.heap[g]? = some (.cells vs.toArray 33 (0, 0))
  row : ∀ (i : Nat) (v : Value) (l : List Int), vs[i]? = some v → L[i]? = some l → OwnI w base v l
  apart : ∀ (i j : Nat) (u v : Value) (k : Nat), vs[i]? = some u → vs[j]? = some v → u.ownBlock = some k → v.ownBlock = some k → i = j
theorem run_mkL (w : World) (n : Nat) (hn : n ≤ 1000000) : ∃ w', (Instr.makeSlice 45 (.int .i64 (n : Int)) (.int .i64 (n : Int))).run Tryz.prog w = .ok (.slice (some ⟨w.heap.size, 0, none⟩) n n) w' ∧ Nest w' w.heap.size w.heap.size (List.replicate n (.slice none 0 0)) (List.replicate n []) ∧ Below w.heap.size w w' := by
  obtain ⟨i0, hi, hz0, hz1, hz2⟩ := info_parts infoL
  have hr := run_makeSlice (P := Tryz.prog) w 45 33 i0 (.slice none 0 0) Tryz.underlying45 hi hz0 .i64 .i64 n n (by omega) (by omega) (by rw [hz1]; omega) (by rw [hz2]; omega) (by omega)
  rw [hz1] at hr
  simp only [Int.toNat_natCast] at hr
  refine ⟨_, hr, ⟨by simp, Nat.le_refl _, ?_, fun i v l h1 h2 => ?_, fun i j u v k h1 _ h3 _ => ?_⟩, below_new _ _⟩
  · have e : madeCells (Value.slice none 0 0).cells (n * 1) = (List.replicate n (Value.slice none 0 0)).toArray := Array.ext' (madeCells_one _ rfl n)
    rw [e]
    exact heap_alloc_new w _
  · simp [List.getElem?_replicate] at h1 h2
    rw [← h1.2, h2.2]
    exact OwnI.nil _ _
  · simp [List.getElem?_replicate] at h1
    rw [← h1.2] at h3
    simp [Value.ownBlock] at h3
theorem Nest.lt {w : World} {base g : Nat} {vs : List Value} {L : List (List Int)} (h : Nest w base g vs L) : g < w.heap.size := (Array.getElem?_eq_some_iff.1 h.blk).1
theorem Nest.cell {w : World} {base g : Nat} {vs : List Value} {L : List (List Int)} (h : Nest w base g vs L) (i : Nat) : w.cell? ⟨g, i, none⟩ = vs[i]? := by
  rw [cell_of_row _ _ _ _ _ _ h.blk]; simp
theorem Nest.free {w : World} {base g : Nat} {vs : List Value} {L : List (List Int)} (h : Nest w base g vs L) (i : Nat) : w.frozen? ⟨g, i, none⟩ = false := by
  simp [World.frozen?, h.blk]
theorem Nest.at {w : World} {base g : Nat} {vs : List Value} {L : List (List Int)} (h : Nest w base g vs L) (i : Nat) (hi : i < L.length) : ∃ v, vs[i]? = some v ∧ w.cell? ⟨g, i, none⟩ = some v ∧ OwnI w base v L[i] := by
  have h1 : i < vs.length := by rw [h.len]; exact hi
  refine ⟨vs[i], List.getElem?_eq_getElem h1, ?_, h.row i _ _ (List.getElem?_eq_getElem h1) (List.getElem?_eq_getElem hi)⟩
  rw [h.cell, List.getElem?_eq_getElem h1]
theorem Nest.not_own {w : World} {base base2 g : Nat} {vs : List Value} {L : List (List Int)} (h : Nest w base g vs L) {v : Value} {l : List Int} (ho : OwnI w base2 v l) : some g ≠ v.ownBlock := by
  intro e
  rcases ho.form with ⟨rfl, _⟩ | ⟨g2, cap, cur, rfl, _, h3, _⟩
  · simp [Value.ownBlock] at e
  · simp [Value.ownBlock] at e
    subst e
    rw [h.blk] at h3
    injection h3 with h3
    injection h3 with _ h4
    exact absurd h4 (by decide)
theorem Nest.kept {w w' : World} {base g : Nat} {vs : List Value} {L : List (List Int)} {row : Option Nat} (h : Nest w base g vs L) (hg : w.grownBy w' row) (h1 : some g ≠ row) (h2 : ∀ (i : Nat) (v : Value) (k : Nat), vs[i]? = some v → v.ownBlock = some k → row ≠ some k) : Nest w' base g vs L := by
  refine ⟨h.len, h.hb, (hg.block g h.lt h1).trans h.blk, fun i v l hv hl => (h.row i v l hv hl).kept hg ?_, h.apart⟩
  cases hk : v.ownBlock with
  | none => exact .inl rfl
  | some k => exact .inr (fun e => h2 i v k hv hk e.symm)
theorem Nest.below {w w' : World} {base g : Nat} {vs : List Value} {L : List (List Int)} (h : Nest w base g vs L) (hb : Below w.heap.size w w') : Nest w' base g vs L :=
  h.kept (grown_below hb none) (by simp) (by simp)
/-- One row is turned: its value is v' now, which owns l', in the same block or in a new one. -/
theorem Nest.push {w w1 : World} {base g i : Nat} {vs : List Value} {L : List (List Int)} {v v' : Value} {l l' : List Int} (h : Nest w base g vs L) (hv : vs[i]? = some v) (hl : L[i]? = some l) (hg : w.grownBy w1 v.ownBlock) (ho : OwnI w1 base v' l') (ha : v'.ownBlock = v.ownBlock ∨ ∃ k, v'.ownBlock = some k ∧ w.heap.size ≤ k) :
    Nest (w1.setCell ⟨g, i, none⟩ v') base g (vs.set i v') (L.set i l') := by
  have hgo : some g ≠ v.ownBlock := h.not_own (h.row i v l hv hl)
  have hb1 : w1.heap[g]? = some (.cells vs.toArray 33 (0, 0)) := (hg.block g h.lt hgo).trans h.blk
  have hg2 := grown_set w1 g i v'
  have hne : ∀ {u : Value} {k : List Int}, OwnI w1 base u k → u.ownBlock = none ∨ u.ownBlock ≠ some g := fun {u k} hu => by
    rcases hu.form with ⟨rfl, _⟩ | ⟨g2, cap, cur, rfl, _, h3, _⟩
    · exact .inl rfl
    · right
      intro e
      simp [Value.ownBlock] at e
      subst e
      rw [hb1] at h3
      injection h3 with h3
      injection h3 with _ h4
      exact absurd h4 (by decide)
  refine ⟨by simp [h.len], h.hb, ?_, fun j u k hu hk => ?_, fun j1 j2 u1 u2 k hu1 hu2 k1 k2 => ?_⟩
  · rw [setCell_eq_setRow w1 g i vs.toArray _ (0, 0) v' hb1, setRow_heap w1 g vs.toArray _ _ (0, 0) hb1]
    congr 2
    apply Array.ext'
    simp
  · by_cases e : j = i
    · subst e
      have hi := (List.getElem?_eq_some_iff.1 hv).1
      rw [List.getElem?_set_self (by omega)] at hu
      rw [List.getElem?_set_self (by rw [← h.len]; omega)] at hk
      injection hu with hu; injection hk with hk
      subst hu; subst hk
      exact ho.kept hg2 (hne ho)
    · rw [List.getElem?_set_ne (fun e2 => e e2.symm)] at hu hk
      have h1 := h.row j u k hu hk
      have h2 : u.ownBlock = none ∨ u.ownBlock ≠ v.ownBlock := by
        cases hb : u.ownBlock with
        | none => exact .inl rfl
        | some kk => exact .inr fun e2 => e (h.apart j i u v kk hu hv hb e2.symm)
      have h3 := h1.kept hg h2
      exact h3.kept hg2 (hne h3)
  · have cross : ∀ (j : Nat) (u : Value), j ≠ i → vs[j]? = some u → u.ownBlock = some k → v'.ownBlock = some k → False := fun j u hj hu hk1 hk2 => by
      have h1 : ∃ l, L[j]? = some l := by
        have := (List.getElem?_eq_some_iff.1 hu).1
        exact ⟨_, List.getElem?_eq_getElem (by rw [← h.len]; exact this)⟩
      obtain ⟨lj, hlj⟩ := h1
      have h2 := (h.row j u lj hu hlj).lt k hk1
      rcases ha with ha | ⟨k2, ha, hk3⟩
      · rw [ha] at hk2
        exact hj (h.apart j i u v k hu hv hk1 hk2)
      · rw [ha] at hk2; injection hk2 with hk2; omega
    by_cases e1 : j1 = i
    · by_cases e2 : j2 = i
      · rw [e1, e2]
      · subst e1
        have hi := (List.getElem?_eq_some_iff.1 hv).1
        rw [List.getElem?_set_self (by omega)] at hu1
        injection hu1 with hu1; subst hu1
        rw [List.getElem?_set_ne (fun e => e2 e.symm)] at hu2
        exact (cross j2 u2 e2 hu2 k2 k1).elim
    · by_cases e2 : j2 = i
      · subst e2
        have hi := (List.getElem?_eq_some_iff.1 hv).1
        rw [List.getElem?_set_self (by omega)] at hu2
        injection hu2 with hu2; subst hu2
        rw [List.getElem?_set_ne (fun e => e1 e.symm)] at hu1
        exact (cross j1 u1 e1 hu1 k1 k2).elim
      · rw [List.getElem?_set_ne (fun e => e1 e.symm)] at hu1
        rw [List.getElem?_set_ne (fun e => e2 e.symm)] at hu2
        exact h.apart j1 j2 u1 u2 k hu1 hu2 k1 k2
/-- One row is turned in place. -/
theorem Nest.turn {w w1 : World} {base g i : Nat} {vs : List Value} {L : List (List Int)} {v : Value} {l l' : List Int} (h : Nest w base g vs L) (hv : vs[i]? = some v) (hl : L[i]? = some l) (hg : w.grownBy w1 v.ownBlock) (ho : OwnI w1 base v l') : Nest w1 base g vs (L.set i l') := by
  have hgo : some g ≠ v.ownBlock := h.not_own (h.row i v l hv hl)
  refine ⟨by simp [h.len], h.hb, (hg.block g h.lt hgo).trans h.blk, fun j u k hu hk => ?_, h.apart⟩
  by_cases e : j = i
  · subst e
    have hi := (List.getElem?_eq_some_iff.1 hl).1
    rw [List.getElem?_set_self hi] at hk
    injection hk with hk; subst hk
    rw [hv] at hu; injection hu with hu; subst hu
    exact ho
  · rw [List.getElem?_set_ne (fun e2 => e e2.symm)] at hk
    refine (h.row j u k hu hk).kept hg ?_
    cases hb : u.ownBlock with
    | none => exact .inl rfl
    | some kk => exact .inr fun e2 => e (h.apart j i u v kk hu hv hb e2.symm)
/-- A slice value that reads as rows of ints, in memory below block B. -/
def LRow (w : World) (B : Nat) (v : Value) (L : List (List Int)) : Prop :=
  (L.length ≤ 1000000 ∧ ∀ l ∈ L, l.length ≤ 1000000) ∧ ∃ A cap, v = .slice A L.length cap ∧ (0 < L.length → ∃ b off, A = some ⟨b, off, none⟩ ∧ b < B ∧ ∀ i (h : i < L.length), ∃ u, w.cell? ⟨b, off + i, none⟩ = some u ∧ IRow w B u L[i])
theorem LRow.below {w w' : World} {B : Nat} {v : Value} {L : List (List Int)} (h : LRow w B v L) (hb : Below B w w') : LRow w' B v L := by
  obtain ⟨hl, A, cap, hv, hA⟩ := h
  refine ⟨hl, A, cap, hv, fun h0 => ?_⟩
  obtain ⟨b, off, ha, hB, hc⟩ := hA h0
  exact ⟨b, off, ha, hB, fun k hk => by
    obtain ⟨u, h1, h2⟩ := hc k hk
    exact ⟨u, (hb.cell (p := ⟨b, off + k, none⟩) hB).trans h1, h2.below hb⟩⟩
theorem LRow.mono {w : World} {B B' : Nat} {v : Value} {L : List (List Int)} (h : LRow w B v L) (hb : B ≤ B') : LRow w B' v L := by
  obtain ⟨hl, A, cap, hv, hA⟩ := h
  refine ⟨hl, A, cap, hv, fun h0 => ?_⟩
  obtain ⟨b, off, ha, hB, hc⟩ := hA h0
  exact ⟨b, off, ha, by omega, fun k hk => by
    obtain ⟨u, h1, h2⟩ := hc k hk
    exact ⟨u, h1, h2.mono hb⟩⟩
theorem LRow.keep {w w' : World} {v : Value} {L : List (List Int)} (h : LRow w w.heap.size v L) (hb : Below w.heap.size w w') : LRow w' w'.heap.size v L := (h.below hb).mono hb.size
theorem lrow_nil (w : World) (B : Nat) : LRow w B (.slice none 0 0) [] := ⟨by simp, none, 0, rfl, fun h => by simp at h⟩
theorem Nest.lrow {w : World} {base g cap : Nat} {vs : List Value} {L : List (List Int)} (h : Nest w base g vs L) (h1 : L.length ≤ 1000000) (h2 : ∀ l ∈ L, l.length ≤ 1000000) : LRow w w.heap.size (.slice (some ⟨g, 0, none⟩) L.length cap) L := by
  refine ⟨⟨h1, h2⟩, _, cap, rfl, fun h0 => ⟨g, 0, rfl, h.lt, fun i hi => ?_⟩⟩
  obtain ⟨v, _, h4, h5⟩ := h.at i hi
  exact ⟨v, by rw [Nat.zero_add]; exact h4, h5.irow (h2 _ (List.getElem_mem hi))⟩
/-- v owns a row of slice values, which read as L. -/
def OwnL (w : World) (base : Nat) (v : Value) (L : List (List Int)) : Prop :=
  ∃ vs : List Value, w.ownsRow base 33 1 v L.length vs ∧ ∀ (i : Nat) (u : Value) (l : List Int), vs[i]? = some u → L[i]? = some l → IRow w w.heap.size u l
theorem OwnL.nil (w : World) (base : Nat) : OwnL w base (.slice none 0 0) [] := ⟨[], World.ownsRow_nil _ _ _ _, fun i u l h => by simp at h⟩
theorem OwnL.lrow {w : World} {base : Nat} {v : Value} {L : List (List Int)} (h : OwnL w base v L) (h1 : L.length ≤ 1000000) : LRow w w.heap.size v L := by
  obtain ⟨vs, h2, h3⟩ := h
  have hvs : vs.length = L.length := by have := h2.1; omega
  rcases h2.2 with ⟨rfl, h0⟩ | ⟨g, cap, cur, rfl, hb, hg, hn, hm, hc, ht⟩
  · have : L = [] := List.eq_nil_of_length_eq_zero h0
    subst this
    exact lrow_nil _ _
  · refine ⟨⟨h1, fun l hl => ?_⟩, _, cap, rfl, fun h0 => ⟨g, 0, rfl, (Array.getElem?_eq_some_iff.1 hg).1, fun i hi => ?_⟩⟩
    · obtain ⟨i, hi, rfl⟩ := List.getElem_of_mem hl
      exact (h3 i _ _ (List.getElem?_eq_getElem (by omega)) (List.getElem?_eq_getElem hi)).1
    · refine ⟨vs[i]'(by omega), ?_, h3 i _ _ (List.getElem?_eq_getElem (by omega)) (List.getElem?_eq_getElem hi)⟩
      rw [Nat.zero_add, h2.cellAt i (by omega), List.getElem?_eq_getElem]
end Go.Proofs.YtmnhnighlgpjmaaGreat
