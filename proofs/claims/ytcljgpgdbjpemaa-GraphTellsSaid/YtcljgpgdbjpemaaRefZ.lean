/-
  The reference's Right and has.
  The reference's From: which nodes are reached from a node.
  The reference's Reach.
-/
import Derived.Test.YtcljgpgdbjpemaaOwnA
namespace Go.Proofs.Ytcljgpgdbjpemaa
set_option linter.unusedVariables false
set_option linter.unusedSimpArgs false
open Go.RowKit

set_option maxRecDepth 100000 in
set_option maxHeartbeats 4000000 in
theorem refRight (n : Int) (v : Value) (l : List Sp) (w : World) (B : Nat) (hr : SRow w B v l) :
    Calls Try.prog 12 #[.int .i64 n, v] w fun e w' => e = .returned (.bool (rightB n l)) ∧ w = w' := by
  obtain ⟨_, hl, A, ca, rfl, hA⟩ := hr
  have HA := Lib.hid hA
  have HE : Hid (rightB n l = (decide (0 ≤ n) && decide (n ≤ 262144) && !(l.any (badB n)))) := Lib.hid rfl
  clear hA
  by_cases h1 : 0 ≤ n
  · have d1 : decide (n < 0) = false := by rw [decide_eq_false_iff_not]; omega
    by_cases h2 : n ≤ 262144
    · have d2 : decide (262144 < n) = false := by rw [decide_eq_false_iff_not]; omega
      have HE2 : Hid (rightB n l = !(l.any (badB n))) := Lib.hid (by rw [HE.out]; simp [h1, h2])
      clear HE
      go_enter Try.func12, Try.ntmps12
      go_wp2_with fail
      go_loop [5] (fun i => ∃ k : Nat, i = .int .i64 k ∧ k ≤ l.length ∧ (l.take k).any (badB n) = false) (fun i => l.length - (intOf i).toNat)
      case atStart => exact ⟨0, rfl, by omega, by simp⟩
      case round =>
        obtain ⟨k, rfl, hk, he⟩ := hrel
        have HK := Lib.hid he
        clear he
        by_cases hlt : k < l.length
        · obtain ⟨b, off, rfl, _, hc⟩ := HA.out (by omega)
          obtain ⟨c1, c2⟩ := hc k hlt
          have hst : (l.take (k + 1)).any (badB n) = badB n (gt l k) := by
            rw [List.take_succ_eq_append_getElem hlt, List.any_append, HK.out, gt_get l k hlt]; simp
          have hex : badB n (gt l k) = true → rightB n l = false := fun h => by
            rw [HE2.out]
            have : l.any (badB n) = true := List.any_eq_true.2 ⟨gt l k, by rw [gt_get l k hlt]; exact List.getElem_mem hlt, h⟩
            rw [this]; rfl
          have hbd : badB n (gt l k) = (!(nodeB n (gt l k).p) || !(nodeB n (gt l k).n)) := rfl
          obtain ⟨x, hx⟩ : ∃ x, (gt l k).p = x := ⟨_, rfl⟩
          obtain ⟨y, hy⟩ : ∃ y, (gt l k).n = y := ⟨_, rfl⟩
          rw [hx] at c1
          rw [hy] at c2
          rw [hx, hy] at hbd
          rw [hbd] at hst hex
          unfold nodeB at hst hex
          clear hx hy hc hbd
          by_cases p1 : 0 ≤ x
          · have e1 : decide (x < 0) = false := by rw [decide_eq_false_iff_not]; omega
            by_cases p2 : x < n
            · have e2 : decide (n ≤ x) = false := by rw [decide_eq_false_iff_not]; omega
              by_cases p3 : 0 ≤ y
              · have e3 : decide (y < 0) = false := by rw [decide_eq_false_iff_not]; omega
                by_cases p4 : y < n
                · have e4 : decide (n ≤ y) = false := by rw [decide_eq_false_iff_not]; omega
                  have HN : Hid ((l.take (k + 1)).any (badB n) = false) := Lib.hid (by rw [hst]; simp [p1, p2, p3, p4])
                  clear hst hex
                  go_wp2_with fail
                  go_round
                  case rel => exact ⟨k + 1, by go_num, by omega, HN.out⟩
                  case measure => simp [intOf]; omega
                · have e4 : decide (n ≤ y) = true := by rw [decide_eq_true_iff]; omega
                  have HF := Lib.hid (hex (by simp [p4]))
                  clear hst hex
                  go_wp2_with fail
                  go_ret
                  exact ⟨by rw [HF.out]; rfl, rfl⟩
              · have e3 : decide (y < 0) = true := by rw [decide_eq_true_iff]; omega
                have HF := Lib.hid (hex (by simp [p3]))
                clear hst hex
                go_wp2_with fail
                go_ret
                exact ⟨by rw [HF.out]; rfl, rfl⟩
            · have e2 : decide (n ≤ x) = true := by rw [decide_eq_true_iff]; omega
              have HF := Lib.hid (hex (by simp [p2]))
              clear hst hex
              go_wp2_with fail
              go_ret
              exact ⟨by rw [HF.out]; rfl, rfl⟩
          · have e1 : decide (x < 0) = true := by rw [decide_eq_true_iff]; omega
            have HF := Lib.hid (hex (by simp [p1]))
            clear hst hex
            go_wp2_with fail
            go_ret
            exact ⟨by rw [HF.out]; rfl, rfl⟩
        · have HF : Hid (rightB n l = true) := Lib.hid (by
            have := HK.out
            rw [List.take_of_length_le (by omega)] at this
            rw [HE2.out, this]; rfl)
          clear HK
          go_wp2_with fail
          go_ret
          exact ⟨by rw [HF.out]; rfl, rfl⟩
    · have d2 : decide (262144 < n) = true := by rw [decide_eq_true_iff]; omega
      have HF : Hid (rightB n l = false) := Lib.hid (by rw [HE.out]; simp [h2])
      go_enter Try.func12, Try.ntmps12
      go_wp2_with fail
      go_ret
      exact ⟨by rw [HF.out]; rfl, rfl⟩
  · have d1 : decide (n < 0) = true := by rw [decide_eq_true_iff]; omega
    have HF : Hid (rightB n l = false) := Lib.hid (by rw [HE.out]; simp [h1])
    go_enter Try.func12, Try.ntmps12
    go_wp2_with fail
    go_ret
    exact ⟨by rw [HF.out]; rfl, rfl⟩
set_option maxHeartbeats 2000000 in
theorem hasP (l : List Sp) (v z : Int) (u : Value) (w : World) (B : Nat) (hu : SRow w B u l) :
    Calls Try.prog 44 #[u, .int .i64 v, .int .i64 z] w fun e w' => e = .returned (.bool (arcB l v z)) ∧ w = w' := by
  obtain ⟨_, hl, A, ca, rfl, hA⟩ := hu
  have HA := Lib.hid hA
  clear hA
  go_enter Try.func44, Try.ntmps44
  go_wp2_with fail
  go_loop [7] (fun i => ∃ k : Nat, i = .int .i64 k ∧ k ≤ l.length ∧ ∀ j, j < k → ¬ ((gt l j).p = v ∧ (gt l j).n = z)) (fun i => l.length - (intOf i).toNat)
  case atStart => exact ⟨0, rfl, by omega, fun j hj => by omega⟩
  case round =>
    obtain ⟨k, rfl, hk, he⟩ := hrel
    have HE := Lib.hid he
    clear he
    by_cases hlt : k < l.length
    · obtain ⟨b, off, rfl, _, hc⟩ := HA.out (by omega)
      obtain ⟨c1, c2⟩ := hc k hlt
      clear hc
      have HN : Hid (¬ ((gt l k).p = v ∧ (gt l k).n = z) → ∀ j, j < k + 1 → ¬ ((gt l j).p = v ∧ (gt l j).n = z)) := Lib.hid (fun h j hj => by
        by_cases e : j = k
        · rw [e]; exact h
        · exact HE.out j (by omega))
      have HY : Hid ((gt l k).p = v → (gt l k).n = z → arcB l v z = true) := Lib.hid (fun h1 h2 => arcB_iff.2 ⟨k, hlt, h1, h2⟩)
      obtain ⟨x, hx⟩ : ∃ x, (gt l k).p = x := ⟨_, rfl⟩
      obtain ⟨y, hy⟩ : ∃ y, (gt l k).n = y := ⟨_, rfl⟩
      rw [hx] at c1 HN HY
      rw [hy] at c2 HN HY
      clear hx hy HE
      by_cases hxv : x = v
      · have hb : (x == v) = true := by simp [hxv]
        by_cases hyz : y = z
        · have hb2 : (y == z) = true := by simp [hyz]
          have HF := Lib.hid (HY.out hxv hyz)
          clear hxv hyz HN HY
          go_wp2_with fail
          go_ret
          exact ⟨by rw [HF.out]; rfl, rfl⟩
        · have hb2 : (y == z) = false := by simpa using hyz
          have HN2 := Lib.hid (HN.out (fun h => hyz h.2))
          clear hxv hyz HN HY
          go_wp2_with fail
          go_round
          case rel => exact ⟨k + 1, by go_num, by omega, HN2.out⟩
          case measure => simp [intOf]; omega
      · have hb : (x == v) = false := by simpa using hxv
        have HN2 := Lib.hid (HN.out (fun h => hxv h.1))
        clear hxv HN HY
        go_wp2_with fail
        go_round
        case rel => exact ⟨k + 1, by go_num, by omega, HN2.out⟩
        case measure => simp [intOf]; omega
    · have HF : Hid (arcB l v z = false) := Lib.hid (by
        rw [Bool.eq_false_iff, ne_eq, arcB_iff]
        rintro ⟨j, hj, h⟩
        exact HE.out j (by omega) h)
      clear HE
      go_wp2_with fail
      go_ret
      exact ⟨by rw [HF.out]; rfl, rfl⟩
end Go.Proofs.Ytcljgpgdbjpemaa

namespace Go.Proofs.Ytcljgpgdbjpemaa
set_option linter.unusedVariables false
set_option linter.unusedSimpArgs false
open Go.RowKit

structure Fr (A : Arcs) (N v : Nat) (R : List Bool) : Prop where
  len : R.length = N
  self : R.getD v false = true
  ok : ∀ x, x < N → R.getD x false = true → RT A v x
def fc (R : List Bool) : Nat := R.countP (fun b => !b)
theorem gets {R : List Bool} {x y : Nat} {b : Bool} (hx : x < R.length) : (R.set x b).getD y false = if y = x then b else R.getD y false := by
  rw [List.getD_eq_getElem?_getD, List.getD_eq_getElem?_getD, List.getElem?_set]
  by_cases h : x = y
  · subst h; simp [hx]
  · rw [if_neg h, if_neg (fun e => h e.symm)]
theorem fc_set : ∀ {R : List Bool} {x : Nat}, x < R.length → R.getD x false = false → fc (R.set x true) + 1 = fc R
  | [], x, h, _ => by simp at h
  | b :: R, 0, _, h => by
    simp at h
    subst h
    simp [fc]
  | b :: R, x + 1, h, h2 => by
    have := fc_set (R := R) (x := x) (by simpa using h) (by simpa using h2)
    unfold fc at this ⊢
    rw [List.set_cons_succ, List.countP_cons, List.countP_cons]
    omega
def bn (b : Bool) : Nat := if b = true then 1 else 0
def Clo (l : List Sp) (k : Nat) (R : List Bool) : Prop := ∀ j, j < k → j < l.length → R.getD (gt l j).p.toNat false = true → R.getD (gt l j).n.toNat false = true
theorem Fr.all {l : List Sp} {N v : Nat} {R : List Bool} (h : Fr (toA l) N v R) (hri : rightB N l = true) (hc : Clo l l.length R) (x : Nat) (hx : x < N) : R.getD x false = reachB (toA l) v x := by
  rw [Bool.eq_iff_iff, reachB_iff]
  refine ⟨h.ok x hx, fun hr => ?_⟩
  refine RT.closed (S := fun x => R.getD x false = true) h.self (fun a b hab ha => ?_) hr
  unfold toA at hab
  obtain ⟨s, hs, he⟩ := List.mem_map.1 hab
  obtain ⟨i, hi, rfl⟩ := List.getElem_of_mem hs
  injection he with e1 e2
  have := hc i hi hi
  rw [gt_get l i hi, e1, e2] at this
  exact this ha
def FromPost (l : List Sp) (N v : Nat) (w : World) (e : Ending) (w' : World) : Prop := ∃ u R, e = .returned u ∧ OwnB w' w.heap.size u R ∧ R.length = N ∧ (∀ x, x < N → R.getD x false = reachB (toA l) v x) ∧ Below w.heap.size w w'
theorem FromPost.mk {l : List Sp} {N v : Nat} {w w' : World} {e : Ending} (u : Value) (R : List Bool) (h1 : e = .returned u) (h2 : OwnB w' w.heap.size u R) (h3 : R.length = N) (h4 : ∀ x, x < N → R.getD x false = reachB (toA l) v x) (h5 : Below w.heap.size w w') : FromPost l N v w e w' := ⟨u, R, h1, h2, h3, h4, h5⟩
def F1Rel (l : List Sp) (N v : Nat) (w : World) (g : Nat) (b : Value) (wl : World) : Prop := ∃ (R : List Bool) (bb : Bool), g = fc R + bn bb ∧ b = .bool bb ∧ Fr (toA l) N v R ∧ (bb = false → Clo l l.length R) ∧ OwnB wl w.heap.size (.slice (some ⟨w.heap.size, 0, none⟩) N N) R ∧ Below w.heap.size w wl
def F2Rel (l : List Sp) (N v c0 : Nat) (w : World) (b i : Value) (wl : World) : Prop := ∃ (k : Nat) (R : List Bool) (bb : Bool), i = .int .i64 k ∧ k ≤ l.length ∧ b = .bool bb ∧ Fr (toA l) N v R ∧ fc R ≤ c0 ∧ (bb = false → Clo l k R) ∧ (bb = true → fc R < c0) ∧ OwnB wl w.heap.size (.slice (some ⟨w.heap.size, 0, none⟩) N N) R ∧ Below w.heap.size w wl
theorem ownB_free {w : World} {base N : Nat} {R : List Bool} {g : Nat} (h : OwnB w base (.slice (some ⟨g, 0, none⟩) N N) R) (hl : R.length = N) (i : Nat) : w.frozen? ⟨g, i, none⟩ = false := by
  have h1 := h
  unfold OwnB at h1
  rw [hl] at h1
  exact own_free h1 i
theorem ownB_cell {w : World} {base N : Nat} {R : List Bool} {g : Nat} (h : OwnB w base (.slice (some ⟨g, 0, none⟩) N N) R) (hl : R.length = N) (i : Nat) (hi : i < N) : w.cell? ⟨g, i, none⟩ = some (.bool (R.getD i false)) := by
  rw [h.cell i (by omega), List.getD_eq_getElem?_getD, List.getElem?_eq_getElem (by omega)]; rfl
set_option maxRecDepth 100000 in
set_option maxHeartbeats 8000000 in
theorem fromP (N v : Nat) (u : Value) (l : List Sp) (w : World) (hri : rightB N l = true) (hv : v < N) (hN : N ≤ 900) (hr : SRow w w.heap.size u l) :
    Calls Try.prog 38 #[.int .i64 N, u, .int .i64 v] w (FromPost l N v w) := by
  obtain ⟨w1, hmk, hown, hb1⟩ := run_mkB w N (by omega)
  obtain ⟨_, hl, SA, ca, rfl, hA⟩ := hr
  have HA := Lib.hid hA
  have HRI : Hid (rightB (N : Int) l = true) := hri
  have hown1 := hown.store v (by rw [List.length_replicate]; exact hv) true
  have hf0 := ownB_free hown (by simp) v
  have hc0 := ownB_cell hown (by simp) v hv
  have HO := Lib.hid hown1
  have HB := Lib.hid (hb1.setCell (p := ⟨w.heap.size, v, none⟩) (Nat.le_refl _) (.bool true))
  have HFR : Hid (Fr (toA l) N v ((List.replicate N false).set v true)) := Lib.hid ⟨by simp, by rw [gets (by simpa using hv), if_pos rfl], fun x hx h => by
    rw [gets (by simpa using hv)] at h
    by_cases e : x = v
    · rw [e]; exact .refl
    · rw [if_neg e] at h
      rw [List.getD_eq_getElem?_getD, List.getElem?_replicate, if_pos hx] at h
      cases h⟩
  have hN0 : (0 : Int) ≤ N := by omega
  have hvN : (v : Int) < N := by omega
  have hv0 : (0 : Int) ≤ v := by omega
  clear hA hri hown hown1 hb1
  go_enter Try.func38, Try.ntmps38
  go_wp2_with fail
  clear hmk hf0 hc0
  go_loopg [8] (fc ((List.replicate N false).set v true) + 1) (fun g b wl => F1Rel l N v w g b wl)
  case atStart => exact ⟨_, true, rfl, rfl, HFR.out, (fun h => by cases h), HO.out, HB.out⟩
  case round =>
    obtain ⟨R, bb, rfl, rfl, hF, hC, ho, hB⟩ := hrel
    cases bb with
    | false =>
      have HF : Hid (FromPost l N v w (.returned (.slice (some ⟨w.heap.size, 0, none⟩) N N)) wr) := Lib.hid (FromPost.mk _ R rfl ho hF.len (fun x hx => hF.all HRI.out (hC rfl) x hx) hB)
      clear hF hC ho hB
      go_wp2_with fail
      go_ret
      exact HF.out
    | true =>
      have HF := Lib.hid hF
      have HO2 := Lib.hid ho
      have HB2 := Lib.hid hB
      clear hF hC ho hB
      obtain ⟨wo, hwo⟩ : ∃ wo : World, wo = wr := ⟨_, rfl⟩
      subst hwo
      go_wp2_with fail
      go_loopw [8, 9] (fun b i wl => F2Rel l N v (fc R) w b i wl) (fun _ i _ => l.length - (intOf i).toNat)
      case atStart => exact ⟨0, R, false, rfl, by omega, rfl, HF.out, Nat.le_refl _, (fun _ j hj => by omega), (fun h => by cases h), HO2.out, HB2.out⟩
      case round =>
        obtain ⟨k, R2, b2, rfl, hk, rfl, hF, hfc, hc1, hc2, ho, hB⟩ := hrel
        by_cases hlt : k < l.length
        · obtain ⟨b, off, rfl, hb1, hc⟩ := HA.out (by omega)
          have c1 := (hB.cell (p := ⟨b, off + k * 2, none⟩) hb1).trans (hc k hlt).1
          have c2 := (hB.cell (p := ⟨b, off + k * 2 + 1, none⟩) hb1).trans (hc k hlt).2
          have hra := right_arc HRI.out k hlt
          obtain ⟨p1, p2, p3, p4⟩ := hra
          have hclo : ∀ R', Clo l k R' → (R'.getD (gt l k).p.toNat false = true → R'.getD (gt l k).n.toNat false = true) → Clo l (k + 1) R' := fun R' h1 h2 j hj hjl => by
            by_cases e : j = k
            · subst e; exact h2
            · exact h1 j (by omega) hjl
          have hmem : ∀ x y : Nat, (gt l k).p = x → (gt l k).n = y → (x, y) ∈ toA l := fun x y hx hy => mem_toA_get HRI.out hlt hx hy
          obtain ⟨x, hx⟩ : ∃ x : Nat, (gt l k).p = x := ⟨(gt l k).p.toNat, by omega⟩
          obtain ⟨y, hy⟩ : ∃ y : Nat, (gt l k).n = y := ⟨(gt l k).n.toNat, by omega⟩
          have hxy := hmem x y hx hy
          rw [hx] at c1 p1 p2 hclo
          rw [hy] at c2 p3 p4 hclo
          simp only [Int.toNat_natCast] at hclo
          have hxN : x < N := by omega
          have hyN : y < N := by omega
          have cx := ownB_cell ho hF.len x hxN
          have cy := ownB_cell ho hF.len y hyN
          have hfz := ownB_free ho hF.len y
          have hst := ho.store y (by rw [hF.len]; exact hyN) true
          have hFl := hF.len
          obtain ⟨bx, hbx⟩ : ∃ b, R2.getD x false = b := ⟨_, rfl⟩
          obtain ⟨by', hby⟩ : ∃ b, R2.getD y false = b := ⟨_, rfl⟩
          rw [hbx] at cx
          rw [hby] at cy
          cases bx with
          | false =>
            have HN1 : Hid (b2 = false → Clo l (k + 1) R2) := Lib.hid (fun h => hclo R2 (hc1 h) (fun h2 => by rw [hbx] at h2; cases h2))
            have HN2 := Lib.hid hc2
            have HF2 := Lib.hid hF
            have HO3 := Lib.hid ho
            have HB3 := Lib.hid hB
            clear hclo hmem hx hy hxy hbx hby hst hFl hF hc1 hc2 ho hB hc hfz
            go_wp2_with fail
            go_roundw
            case rel => exact ⟨k + 1, R2, b2, by go_num, by omega, rfl, HF2.out, hfc, HN1.out, HN2.out, HO3.out, HB3.out⟩
            case measure => simp [intOf]; omega
          | true =>
            cases by' with
            | true =>
              have HN1 : Hid (b2 = false → Clo l (k + 1) R2) := Lib.hid (fun h => hclo R2 (hc1 h) (fun _ => hby))
              have HN2 := Lib.hid hc2
              have HF2 := Lib.hid hF
              have HO3 := Lib.hid ho
              have HB3 := Lib.hid hB
              clear hclo hmem hx hy hxy hbx hby hst hFl hF hc1 hc2 ho hB hc hfz
              go_wp2_with fail
              go_roundw
              case rel => exact ⟨k + 1, R2, b2, by go_num, by omega, rfl, HF2.out, hfc, HN1.out, HN2.out, HO3.out, HB3.out⟩
              case measure => simp [intOf]; omega
            | false =>
              have hfs := fc_set (by omega : y < R2.length) hby
              have HF2 : Hid (Fr (toA l) N v (R2.set y true)) := Lib.hid ⟨by rw [List.length_set]; exact hFl, (by rw [gets (by omega)]; by_cases e : v = y; rw [if_pos e]; rw [if_neg e]; exact hF.self), fun z hz h => by
                rw [gets (by omega)] at h
                by_cases e : z = y
                · rw [e]; exact (hF.ok x hxN hbx).trans (.one hxy)
                · rw [if_neg e] at h; exact hF.ok z hz h⟩
              have HO3 := Lib.hid hst
              have HB3 := Lib.hid (hB.setCell (p := ⟨w.heap.size, y, none⟩) (Nat.le_refl _) (.bool true))
              have hf2 : fc (R2.set y true) ≤ fc R := by omega
              have hf3 : fc (R2.set y true) < fc R := by omega
              clear hclo hmem hx hy hxy hbx hby hst hFl hF hc1 hc2 ho hB hc hfs
              go_wp2_with fail
              go_roundw
              case rel => exact ⟨k + 1, R2.set y true, true, by go_num, by omega, rfl, HF2.out, hf2, (fun h => by cases h), (fun _ => hf3), HO3.out, HB3.out⟩
              case measure => simp [intOf]; omega
        · have HF2 := Lib.hid hF
          have HC2 : Hid (b2 = false → Clo l l.length R2) := Lib.hid (fun h j hj hjl => hc1 h j (by omega) hjl)
          have HO3 := Lib.hid ho
          have HB3 := Lib.hid hB
          have HM : Hid (fc R2 + bn b2 < fc R + bn true) := Lib.hid (by
            cases b2 with
            | false => simp [bn]; omega
            | true => have := hc2 rfl; simp [bn]; omega)
          clear hF hc1 hc2 ho hB hk hfc
          go_wp2_with fail
          go_roundg (fc R2 + bn b2)
          case rel => exact ⟨R2, b2, rfl, rfl, HF2.out, HC2.out, HO3.out, HB3.out⟩
          case measure => exact HM.out
end Go.Proofs.Ytcljgpgdbjpemaa

namespace Go.Proofs.Ytcljgpgdbjpemaa
set_option linter.unusedVariables false
set_option linter.unusedSimpArgs false
open Go.RowKit

theorem rootsN_snoc (N : Nat) (rs : List Int) (z : Int) : rootsN N (rs ++ [z]) = rootsN N rs ++ if 0 ≤ z ∧ z < N then [z.toNat] else [] := by
  unfold rootsN
  rw [List.filter_append, List.map_append]
  by_cases h : 0 ≤ z ∧ z < N
  · rw [if_pos h]; simp [List.filter_cons, h]
  · rw [if_neg h]
    have : (decide (0 ≤ z) && decide (z < (N : Int))) = false := by
      rw [Bool.and_eq_false_iff, decide_eq_false_iff_not, decide_eq_false_iff_not]; omega
    simp [List.filter_cons, this]
def pr (A : Arcs) (R : List Nat) (x : Nat) : Bool := R.any fun r => reachB A r x
theorem pr_snoc (A : Arcs) (R : List Nat) (r x : Nat) : pr A (R ++ [r]) x = (pr A R x || reachB A r x) := by simp [pr]
def R1Rel (l : List Sp) (N g : Nat) (rs : List Int) (w : World) (i : Value) (wl : World) : Prop := ∃ (k : Nat) (T : List Bool), i = .int .i64 k ∧ k ≤ rs.length ∧ T.length = N ∧ (∀ x, x < N → T.getD x false = pr (toA l) (rootsN N (rs.take k)) x) ∧ OwnB wl w.heap.size (.slice (some ⟨g, 0, none⟩) N N) T ∧ Below w.heap.size w wl
def R2Rel (l : List Sp) (N g r : Nat) (R0 : List Nat) (R : List Bool) (u : Value) (w w5 : World) (i : Value) (wl : World) : Prop := ∃ (j : Nat) (T : List Bool), i = .int .i64 j ∧ j ≤ N ∧ T.length = N ∧ (∀ x, x < N → T.getD x false = if x < j then pr (toA l) (R0 ++ [r]) x else pr (toA l) R0 x) ∧ OwnB wl w.heap.size (.slice (some ⟨g, 0, none⟩) N N) T ∧ OwnB wl w5.heap.size u R ∧ Below w.heap.size w wl
def R3Rel (P : Nat → Bool) (N g : Nat) (T : List Bool) (w w7 : World) (s i : Value) (wl : World) : Prop := ∃ k : Nat, i = .int .i64 k ∧ k ≤ N ∧ OwnI wl w7.heap.size s (zi ((List.range k).filter P)) ∧ OwnB wl w.heap.size (.slice (some ⟨g, 0, none⟩) N N) T ∧ Below w7.heap.size w7 wl
theorem ownB_form {w : World} {base : Nat} {u : Value} {R : List Bool} {N : Nat} (h : OwnB w base u R) (hl : R.length = N) (h0 : 0 < N) : ∃ g cap, u = .slice (some ⟨g, 0, none⟩) N cap ∧ base ≤ g ∧ g < w.heap.size := by
  rcases h.form with ⟨_, h1⟩ | ⟨g, cap, h1, h2, h3⟩
  · rw [h1] at hl; simp at hl; omega
  · exact ⟨g, cap, by rw [h1, hl], h2, h3⟩
theorem ownB_cell2 {w : World} {base N cap : Nat} {R : List Bool} {g : Nat} (h : OwnB w base (.slice (some ⟨g, 0, none⟩) N cap) R) (hl : R.length = N) (i : Nat) (hi : i < N) : w.cell? ⟨g, i, none⟩ = some (.bool (R.getD i false)) := by
  rw [h.cell i (by omega), List.getD_eq_getElem?_getD, List.getElem?_eq_getElem (by omega)]; rfl
set_option maxRecDepth 100000 in
set_option maxHeartbeats 8000000 in
theorem refReach (n : Int) (v rv : Value) (l : List Sp) (rs : List Int) (w : World) (hn : n ≤ 900) (hl : l.length ≤ 1000) (hr : SRow w w.heap.size v l) (hrr : IRow w w.heap.size rv rs) :
    Calls Try.prog 18 #[.int .i64 n, v, rv] w (NPost (reachAny n l rs) w) := by
  have HRP := refRight n v l w w.heap.size hr
  cases hri : rightB n l with
  | false =>
    have HF : Hid (NPost (reachAny n l rs) w (.returned (.slice none 0 0)) w) := Lib.hid ⟨_, rfl, by unfold reachAny; rw [if_neg (by rw [hri]; simp)]; exact irow_nil _ _, Below.refl _ _⟩
    rw [hri] at HRP
    replace HRP := Lib.hid HRP
    clear hri hr hrr
    go_enter Try.func18, Try.ntmps18
    go_wp2_with fail
    refine HRP.out.mono ?_; rintro e w1 ⟨rfl, rfl⟩
    go_wp2_with fail
    go_ret
    exact HF.out
  | true =>
    obtain ⟨N, rfl⟩ := right_nat hri
    obtain ⟨i0, hi, hz0, hz1, hz2⟩ := info_parts infoI
    obtain ⟨w1, hmk, hown, hb1⟩ := run_mkB w N (by omega)
    have HRI : Hid (rightB (N : Int) l = true) := hri
    have HRE : Hid (reachAny (N : Int) l rs = (List.range N).filter (pr (toA l) (rootsN N rs))) := Lib.hid (by unfold reachAny; rw [if_pos hri, Int.toNat_natCast]; rfl)
    rw [hri] at HRP
    replace HRP := Lib.hid HRP
    have HR := Lib.hid hr
    obtain ⟨_, RA, rcap, hrv, _, _, _, hrrd⟩ := hrr
    subst hrv
    have HRR := Lib.hid hrrd
    have HO := Lib.hid hown
    have HB := Lib.hid hb1
    have hN0 : (0 : Int) ≤ N := by omega
    clear hri hr hrrd hown hb1
    go_enter Try.func18, Try.ntmps18
    go_wp2_with fail
    refine HRP.out.mono ?_; rintro e w1 ⟨rfl, rfl⟩
    go_wp2_with fail
    clear hmk HRP
    go_loopw [8] (fun i wl => R1Rel l N w.heap.size rs w i wl) (fun i _ => rs.length - (intOf i).toNat)
    case atStart => exact ⟨0, _, rfl, by omega, by simp, fun x hx => by rw [List.getD_eq_getElem?_getD, List.getElem?_replicate, if_pos hx]; rfl, HO.out, HB.out⟩
    case round =>
      obtain ⟨k, T, rfl, hk, hTl, hT, ho, hB⟩ := hrel
      by_cases hlt : k < rs.length
      · obtain ⟨b, off, rfl, hb1, hc⟩ := HRR.out (by omega)
        have c1 := (hB.cell (p := ⟨b, off + k, none⟩) hb1).trans (hc k hlt)
        have hTk : rs.take (k + 1) = rs.take k ++ [rs[k]] := List.take_succ_eq_append_getElem hlt
        obtain ⟨z, hz⟩ : ∃ z, rs[k] = z := ⟨_, rfl⟩
        rw [hz] at c1 hTk
        have hrs := rootsN_snoc N (rs.take k) z
        rw [← hTk] at hrs
        by_cases h0 : 0 ≤ z
        · have t1 : decide (0 ≤ z) = true := by simpa using h0
          by_cases h1 : z < N
          · have t2 : decide (z < N) = true := by simpa using h1
            rw [if_pos ⟨h0, h1⟩] at hrs
            obtain ⟨r, rfl⟩ : ∃ r : Nat, z = r := ⟨z.toNat, by omega⟩
            rw [Int.toNat_natCast] at hrs
            have hrN : r < N := by omega
            have HFP := Lib.hid (fromP N r _ l wr HRI.out hrN (by omega) (HR.out.keep hB))
            have HTT : Hid (∀ x, x < N → T.getD x false = pr (toA l) (rootsN N (rs.take k)) x) := Lib.hid hT
            have HRSN := Lib.hid hrs
            have HO2 := Lib.hid ho
            have HB2 := Lib.hid hB
            have HTL := Lib.hid hTl
            clear hT ho hB hTl hrs hTk hz hc
            obtain ⟨w4, hw4⟩ : ∃ w4 : World, w4 = wr := ⟨_, rfl⟩
            subst hw4
            go_wp2_with fail
            refine HFP.out.mono ?_; rintro e w5 ⟨u5, R, rfl, hown, hRl, hR, hb⟩
            have hO5 := HO2.out.below hb
            have HO5 := Lib.hid hO5
            have HB5 := Lib.hid (HB2.out.trans (hb.mono HB2.out.size))
            have HOR := Lib.hid hown
            have HRR2 := Lib.hid hR
            have HRL := Lib.hid hRl
            have hgl := (World.ownsRow.lt HO2.out w.heap.size rfl).2
            obtain ⟨gr, rcap2, rfl, hgr, _⟩ := ownB_form hown hRl (by omega)
            have hgn : gr ≠ w.heap.size := by omega
            clear hown hR hRl hb hO5 HFP
            go_wp2_with fail
            go_loopw [10] (fun i wl => R2Rel l N w.heap.size r (rootsN N (rs.take k)) R (.slice (some ⟨gr, 0, none⟩) N rcap2) w w4 i wl) (fun i _ => N - (intOf i).toNat)
            case atStart => exact ⟨0, T, rfl, by omega, HTL.out, fun x hx => by rw [if_neg (by omega)]; exact HTT.out x hx, HO5.out, HOR.out, HB5.out⟩
            case round =>
              obtain ⟨j, T2, rfl, hj, hTl2, hT2, ho, hor, hB⟩ := hrel
              by_cases hjl : j < N
              · have ca := ownB_cell ho hTl2 j hjl
                have cb := ownB_cell2 hor HRL.out j hjl
                have hfz := ownB_free ho hTl2 j
                rw [hT2 j hjl, if_neg (by omega)] at ca
                rw [HRR2.out j hjl] at cb
                have hps := pr_snoc (toA l) (rootsN N (rs.take k)) r j
                obtain ⟨a, ha⟩ : ∃ a, pr (toA l) (rootsN N (rs.take k)) j = a := ⟨_, rfl⟩
                obtain ⟨c, hc⟩ : ∃ c, reachB (toA l) r j = c := ⟨_, rfl⟩
                rw [ha] at ca hps
                rw [hc] at cb hps
                have HO3 : Hid (∀ d, OwnB (wr.setCell ⟨w.heap.size, j, none⟩ (.bool d)) w.heap.size (.slice (some ⟨w.heap.size, 0, none⟩) N N) (T2.set j d)) := Lib.hid (fun d => ho.store j (by omega) d)
                have HOR3 : Hid (∀ d, OwnB (wr.setCell ⟨w.heap.size, j, none⟩ (.bool d)) w4.heap.size (.slice (some ⟨gr, 0, none⟩) N rcap2) R) := Lib.hid (fun d => hor.kept (grown_set wr w.heap.size j (.bool d)) (.inr (fun e => by injection e with e; exact hgn e)))
                have HB3 : Hid (∀ d, Below w.heap.size w (wr.setCell ⟨w.heap.size, j, none⟩ (.bool d))) := Lib.hid (fun d => hB.setCell (p := ⟨w.heap.size, j, none⟩) (Nat.le_refl _) (.bool d))
                have HTS : Hid (∀ d, (T2.set j d).length = N) := Lib.hid (fun d => by rw [List.length_set]; exact hTl2)
                have HT3 : Hid (∀ x, x < N → (T2.set j (a || c)).getD x false = if x < j + 1 then pr (toA l) (rootsN N (rs.take k) ++ [r]) x else pr (toA l) (rootsN N (rs.take k)) x) := Lib.hid (fun x hx => by
                  rw [gets (by omega)]
                  by_cases e : x = j
                  · subst e; rw [if_pos rfl, if_pos (by omega), hps]
                  · rw [if_neg e, hT2 x hx]
                    by_cases e2 : x < j
                    · rw [if_pos e2, if_pos (by omega)]
                    · rw [if_neg e2, if_neg (by omega)])
                have hjN : (j : Int) < N := by omega
                clear hT2 ho hor hB ha hc hps hTl2
                cases a with
                | true =>
                  go_wp2_with fail
                  go_roundw
                  case rel => exact ⟨j + 1, _, by go_num, by omega, HTS.out true, by simpa using HT3.out, HO3.out true, HOR3.out true, HB3.out true⟩
                  case measure => simp [intOf]; omega
                | false =>
                  go_wp2_with fail
                  go_roundw
                  case rel => exact ⟨j + 1, _, by go_num, by omega, HTS.out c, by simpa using HT3.out, HO3.out c, HOR3.out c, HB3.out c⟩
                  case measure => simp [intOf]; omega
              · have HTX : Hid (∀ x, x < N → T2.getD x false = pr (toA l) (rootsN N (rs.take (k + 1))) x) := Lib.hid (fun x hx => by rw [hT2 x hx, if_pos (by omega), HRSN.out])
                have HTL2 := Lib.hid hTl2
                have HO3 := Lib.hid ho
                have HB3 := Lib.hid hB
                clear hT2 ho hor hB hj hTl2
                go_wp2_with fail
                go_roundw
                case rel => exact ⟨k + 1, T2, by go_num, by omega, HTL2.out, HTX.out, HO3.out, HB3.out⟩
                case measure => simp [intOf]; omega
          · have t2 : decide (z < N) = false := by simpa using h1
            rw [if_neg (fun h => h1 h.2), List.append_nil] at hrs
            have HTX : Hid (∀ x, x < N → T.getD x false = pr (toA l) (rootsN N (rs.take (k + 1))) x) := Lib.hid (by rw [hrs]; exact hT)
            have HTL := Lib.hid hTl
            have HO2 := Lib.hid ho
            have HB2 := Lib.hid hB
            clear hT ho hB hTl hrs hTk hz hc
            go_wp2_with fail
            go_roundw
            case rel => exact ⟨k + 1, T, by go_num, by omega, HTL.out, HTX.out, HO2.out, HB2.out⟩
            case measure => simp [intOf]; omega
        · have t1 : decide (0 ≤ z) = false := by simpa using h0
          rw [if_neg (fun h => h0 h.1), List.append_nil] at hrs
          have HTX : Hid (∀ x, x < N → T.getD x false = pr (toA l) (rootsN N (rs.take (k + 1))) x) := Lib.hid (by rw [hrs]; exact hT)
          have HTL := Lib.hid hTl
          have HO2 := Lib.hid ho
          have HB2 := Lib.hid hB
          clear hT ho hB hTl hrs hTk hz hc
          go_wp2_with fail
          go_roundw
          case rel => exact ⟨k + 1, T, by go_num, by omega, HTL.out, HTX.out, HO2.out, HB2.out⟩
          case measure => simp [intOf]; omega
      · rw [List.take_of_length_le (by omega)] at hT
        obtain ⟨P, hP⟩ : ∃ P, pr (toA l) (rootsN N rs) = P := ⟨_, rfl⟩
        rw [hP] at hT HRE
        have HTX := Lib.hid hT
        have HTL := Lib.hid hTl
        have HO2 := Lib.hid ho
        have HB2 := Lib.hid hB
        clear hT hTl ho hB hP hk HO HB
        obtain ⟨w7, hw7⟩ : ∃ w7 : World, w7 = wr := ⟨_, rfl⟩
        subst hw7
        go_wp2_with fail
        go_loopw [11, 12] (fun s i wl => R3Rel P N w.heap.size T w w7 s i wl) (fun _ i _ => N - (intOf i).toNat)
        case atStart => exact ⟨0, rfl, by omega, OwnI.nil _ _, HO2.out, Below.refl _ _⟩
        case round =>
          obtain ⟨j, rfl, hj, hs, ho, hB⟩ := hrel
          obtain ⟨FA, fcap, hfs⟩ := own_slice hs
          rw [zi_length] at hfs
          have hfl : ((List.range j).filter P).length ≤ j := by
            have := List.length_filter_le P (List.range j)
            rw [List.length_range] at this; exact this
          by_cases hjl : j < N
          · have ca := ownB_cell ho HTL.out j hjl
            rw [HTX.out j hjl] at ca
            have hst : (List.range (j + 1)).filter P = (List.range j).filter P ++ if P j = true then [j] else [] := by
              rw [List.range_succ, List.filter_append]
              congr 1
              cases hb : P j <;> simp [List.filter_cons, hb]
            have hgl := (World.ownsRow.lt HO2.out w.heap.size rfl).2
            have hjN : (j : Int) < N := by omega
            cases hpj : P j with
            | false =>
              rw [hpj] at ca
              rw [if_neg (by rw [hpj]; simp), List.append_nil] at hst
              have HS2 : Hid (OwnI wr w7.heap.size u11 (zi ((List.range (j + 1)).filter P))) := Lib.hid (by rw [hst]; exact hs)
              have HO3 := Lib.hid ho
              have HB3 := Lib.hid hB
              clear hs ho hB hst hpj hfs
              go_wp2_with fail
              go_roundw
              case rel => exact ⟨j + 1, by go_num, by omega, HS2.out, HO3.out, HB3.out⟩
              case measure => simp [intOf]; omega
            | true =>
              rw [hpj] at ca
              rw [if_pos hpj] at hst
              obtain ⟨S, hS⟩ : ∃ S, (List.range j).filter P = S := ⟨_, rfl⟩
              rw [hS] at hst hs hfs hfl
              subst hfs
              have hbs := hB.size
              have HOW : Hid (wr.ownsRow w7.heap.size 3 1 (.slice FA S.length fcap) S.length (iv (zi S))) := Lib.hid (by have := hs; unfold OwnI at this; rw [zi_length] at this; exact this)
              have HAP : Hid (∀ (v' : Value) (w4 : World), w4.ownsRow w7.heap.size 3 1 v' (S.length + 1) (iv (zi S) ++ [.int .i64 (j : Int)]) → (wr.alloc (.cells #[.int .i64 (j : Int)] 3)).grownBy w4 (Value.slice FA S.length fcap).ownBlock → OwnI w4 w7.heap.size v' (zi ((List.range (j + 1)).filter P)) ∧ OwnB w4 w.heap.size (.slice (some ⟨w.heap.size, 0, none⟩) N N) T ∧ Below w7.heap.size w7 w4) := Lib.hid (fun v' w4 h1 h2 => by
                refine ⟨?_, (ho.below (below_new wr _)).kept h2 (.inr (fun e => own_ne HOW.out hgl e)), (hB.alloc hbs _).grown h2 (by simp; omega) (fun j hj => (World.ownsRow.lt HOW.out j hj).1)⟩
                unfold OwnI
                rw [hst, zi_append, List.length_append, zi_length, iv_append]; exact h1)
              have HL1 : Hid (S.length + 1 ≤ maxLen) := Lib.hid (by unfold maxLen; omega)
              have HL2 : Hid ((S.length + 1) * 8 ≤ 140737488355328) := Lib.hid (by omega)
              have HL3 : Hid (w7.heap.size ≤ (wr.alloc (.cells #[.int .i64 (j : Int)] 3)).heap.size) := Lib.hid (by simp; omega)
              clear hs ho hB hst hpj hS hbs
              go_wp2_with (at_builtin; refine wpList_append_own _ rfl _ _ 23 rfl w7.heap.size 3 i0 (.int .i64 0) 1 8 Try.underlying23 hi hz0 hz1 hz2 rfl (by decide) _ _ _ rfl (World.ownsRow.alloc HOW.out _) ⟨wr.heap.size, 0, none⟩ 1 1 [.int .i64 (j : Int)] rfl rfl (cell_one_new _ _ _) (by simp [Value.oneCell']) HL1.out HL2.out HL3.out ?_; intro v' w9 hown' hgrow _; obtain ⟨hq1, hq2, hq3⟩ := HAP.out v' w9 hown' hgrow; replace hq1 := Lib.hid hq1; replace hq2 := Lib.hid hq2; replace hq3 := Lib.hid hq3; clear hown' hgrow)
              go_roundw
              case rel => exact ⟨j + 1, by go_num, by omega, hq1.out, hq2.out, hq3.out⟩
              case measure => simp [intOf]; omega
          · obtain rfl : N = j := by omega
            have HF : Hid (NPost (reachAny (N : Int) l rs) w (.returned u11) wr) := Lib.hid ⟨u11, rfl, by rw [HRE.out]; exact hs.irow (by rw [zi_length]; omega), HB2.out.trans (hB.mono HB2.out.size)⟩
            clear hs ho hB
            subst hfs
            go_wp2_with fail
            go_ret
            exact HF.out
end Go.Proofs.Ytcljgpgdbjpemaa
