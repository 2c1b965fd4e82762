/-
  The law's where: for each node the index of its part.
-/
import Derived.Test.YtobpolmlblpmjaaLawM
namespace Go.Proofs.Ytobpolmlblpmjaa
set_option linter.unusedVariables false
set_option linter.unusedSimpArgs false
open Go.RowKit

structure Wh (N : Nat) (P : List (List Nat)) (k j : Nat) (T : List Int) : Prop where
  len : T.length = N
  done : ∀ (i : Nat) (p : List Nat) (v : Nat), i < k → P[i]? = some p → v ∈ p → T.getD v 0 = i
  cur : ∀ (p : List Nat) (v : Nat), P[k]? = some p → v ∈ p.take j → T.getD v 0 = k
  free : ∀ (i : Nat) (p : List Nat) (v : Nat), k < i → P[i]? = some p → v ∈ p → T.getD v 0 = -1
  rest : ∀ (p : List Nat) (v : Nat), P[k]? = some p → v ∈ p.drop j → T.getD v 0 = -1
structure PartsFit (N : Nat) (P : List (List Nat)) : Prop where
  lt : ∀ p ∈ P, ∀ x ∈ p, x < N
  asc : ∀ p ∈ P, p.Pairwise (· < ·)
  one : ∀ (i j : Nat) (p q : List Nat) (v : Nat), P[i]? = some p → P[j]? = some q → v ∈ p → v ∈ q → i = j
theorem partsFit (A : Arcs) (N : Nat) : PartsFit N (partsOf A N) := by
  have h := partsOf_ok A N
  refine ⟨fun p hp x hx => ?_, fun p hp => ?_, fun i j p q v hi hj hp hq => ?_⟩
  · obtain ⟨v, _, rfl⟩ := h.each p hp
    exact (mem_partOf.1 hx).1
  · obtain ⟨v, _, rfl⟩ := h.each p hp
    exact partOf_asc0 _ _ _
  · have hnd := h.nd
    rw [List.pairwise_iff_getElem] at hnd
    have hi2 := List.getElem?_eq_some_iff.1 hi
    have hj2 := List.getElem?_eq_some_iff.1 hj
    rcases Nat.lt_trichotomy i j with e | e | e
    · exact absurd hq (hj2.2 ▸ hnd i j hi2.1 hj2.1 e v (hi2.2.symm ▸ hp))
    · exact e
    · exact absurd hp (hi2.2 ▸ hnd j i hj2.1 hi2.1 e v (hj2.2.symm ▸ hq))
theorem PartsFit.len {N : Nat} {P : List (List Nat)} (h : PartsFit N P) {p : List Nat} (hp : p ∈ P) : p.length ≤ N := nodup_le N p ((h.asc p hp).imp (fun h => Nat.ne_of_lt h)) (h.lt p hp)
theorem Wh.start {N : Nat} {P : List (List Nat)} {T : List Int} (hP : PartsFit N P) (hl : T.length = N) (h : ∀ v, v < N → T.getD v 0 = -1) : Wh N P 0 0 T :=
  ⟨hl, fun i p v hi => by omega, fun p v _ hv => by simp at hv, fun i p v _ hp hv => h v (hP.lt p (List.mem_of_getElem? hp) v hv), fun p v hp hv => h v (hP.lt p (List.mem_of_getElem? hp) v (List.mem_of_mem_drop hv))⟩
theorem Wh.step {N k j : Nat} {P : List (List Nat)} {T : List Int} {p : List Nat} (W : Wh N P k j T) (hP : PartsFit N P) (hp : P[k]? = some p) (hj : j < p.length) : T.getD p[j] 0 = -1 ∧ p[j] < N ∧ Wh N P k (j + 1) (T.set p[j] (k : Int)) := by
  have hpm := List.mem_of_getElem? hp
  have hx : p[j] < N := hP.lt p hpm _ (List.getElem_mem hj)
  have hdrop : p.drop j = p[j] :: p.drop (j + 1) := List.drop_eq_getElem_cons hj
  have hnd : p.Nodup := (hP.asc p hpm).imp (fun h => Nat.ne_of_lt h)
  have hset : ∀ v, v ≠ p[j] → (T.set p[j] (k : Int)).getD v 0 = T.getD v 0 := fun v hv => getD_set_ne _ _ _ _ _ (fun e => hv e.symm)
  refine ⟨W.rest p _ hp (by rw [hdrop]; exact List.mem_cons_self), hx, ⟨by rw [List.length_set]; exact W.len, fun i q v hi hq hv => ?_, fun q v hq hv => ?_, fun i q v hi hq hv => ?_, fun q v hq hv => ?_⟩⟩
  · rw [hset v (fun e => by have := hP.one i k q p v hq hp hv (e ▸ List.getElem_mem hj); omega)]
    exact W.done i q v hi hq hv
  · rw [hp] at hq; injection hq with hq; subst hq
    rw [List.take_succ_eq_append_getElem hj] at hv
    by_cases e : v = p[j]
    · rw [e]; exact getD_set_self _ _ _ _ (by rw [W.len]; exact hx)
    · rw [hset v e]
      rcases List.mem_append.1 hv with h | h
      · exact W.cur p v hp h
      · exact absurd (List.mem_singleton.1 h) e
  · rw [hset v (fun e => by have := hP.one i k q p v hq hp hv (e ▸ List.getElem_mem hj); omega)]
    exact W.free i q v hi hq hv
  · rw [hp] at hq; injection hq with hq; subst hq
    have hvn : v ≠ p[j] := fun e => by
      have h2 : (p.drop j).Nodup := hnd.sublist (List.drop_sublist j p)
      rw [hdrop] at h2
      exact (List.nodup_cons.1 h2).1 (e ▸ hv)
    rw [hset v hvn]
    exact W.rest p v hp (by rw [hdrop]; exact List.mem_cons_of_mem _ hv)
theorem Wh.next {N k : Nat} {P : List (List Nat)} {T : List Int} {p : List Nat} (W : Wh N P k p.length T) (hp : P[k]? = some p) : Wh N P (k + 1) 0 T := by
  refine ⟨W.len, fun i q v hi hq hv => ?_, fun q v _ hv => by simp at hv, fun i q v hi hq hv => W.free i q v (by omega) hq hv, fun q v hq hv => W.free (k + 1) q v (by omega) hq (List.mem_of_mem_drop hv)⟩
  by_cases e : i = k
  · subst e
    rw [hp] at hq; injection hq with hq; subst hq
    exact W.cur p v hp (by rw [List.take_length]; exact hv)
  · exact W.done i q v (by omega) hq hv
def WherePost (N : Nat) (P : List (List Nat)) (w : World) (e : Ending) (w' : World) : Prop := ∃ u T, e = .returned u ∧ OwnI w' w.heap.size u T ∧ T.length = N ∧ (∀ (i : Nat) (p : List Nat) (v : Nat), P[i]? = some p → v ∈ p → T.getD v 0 = i) ∧ Below w.heap.size w w'
theorem WherePost.mk {N : Nat} {P : List (List Nat)} {w w' : World} {e : Ending} (u : Value) (T : List Int) (h1 : e = .returned u) (h2 : OwnI w' w.heap.size u T) (h3 : T.length = N) (h4 : ∀ (i : Nat) (p : List Nat) (v : Nat), P[i]? = some p → v ∈ p → T.getD v 0 = i) (h5 : Below w.heap.size w w') : WherePost N P w e w' := ⟨u, T, h1, h2, h3, h4, h5⟩
def W1Rel (N g : Nat) (w : World) (i : Value) (wl : World) : Prop := ∃ (k : Nat) (T : List Int), i = .int .i64 k ∧ k ≤ N ∧ T.length = N ∧ (∀ v, v < k → T.getD v 0 = -1) ∧ OwnI wl w.heap.size (.slice (some ⟨g, 0, none⟩) N N) T ∧ Below w.heap.size w wl
def W2Rel (N g : Nat) (P : List (List Nat)) (w : World) (i : Value) (wl : World) : Prop := ∃ (k : Nat) (T : List Int), i = .int .i64 k ∧ k ≤ P.length ∧ Wh N P k 0 T ∧ OwnI wl w.heap.size (.slice (some ⟨g, 0, none⟩) N N) T ∧ Below w.heap.size w wl
def W3Rel (N g k m : Nat) (P : List (List Nat)) (w : World) (i : Value) (wl : World) : Prop := ∃ (j : Nat) (T : List Int), i = .int .i64 j ∧ j ≤ m ∧ Wh N P k j T ∧ OwnI wl w.heap.size (.slice (some ⟨g, 0, none⟩) N N) T ∧ Below w.heap.size w wl
set_option maxRecDepth 100000 in
set_option maxHeartbeats 8000000 in
theorem whereP (N : Nat) (P : List (List Nat)) (v : Value) (w : World) (hP : PartsFit N P) (hPl : P.length ≤ N) (hN : N ≤ 900) (hr : LRow w w.heap.size v (P.map zi)) :
    Calls Try.prog 24 #[.int .i64 N, v] w (WherePost N P w) := by
  obtain ⟨PA, pcap, rfl, hprd⟩ := hr.rd (rfl : P.length = P.length)
  obtain ⟨w1, hmk, hown, hb1⟩ := run_mkI w N (by omega)
  have HPR := Lib.hid hprd
  have HPF := Lib.hid hP
  have HOW := Lib.hid hown
  have HB1 := Lib.hid hb1
  have hN0 : (0 : Int) ≤ N := by omega
  clear hprd hP hown hb1 hr
  go_enter Try.func24, Try.ntmps24
  go_wp2_with fail
  clear hmk
  obtain ⟨g, hg⟩ : ∃ g, w.heap.size = g := ⟨_, rfl⟩
  go_loopw [6] (fun i wl => W1Rel N w.heap.size w i wl) (fun i _ => N - (intOf i).toNat)
  case atStart => exact ⟨0, _, rfl, by omega, by simp, fun v hv => by omega, HOW.out, HB1.out⟩
  case round =>
    obtain ⟨k, T, rfl, hk, hT, hm, ho, hB⟩ := hrel
    by_cases hlt : k < N
    · have ho1 := ho.store k (by omega) (-1)
      have hfz : wr.frozen? ⟨w.heap.size, k, none⟩ = false := by
        have h1 := ho
        unfold OwnI at h1
        rw [hT] at h1
        exact own_free h1 k
      obtain ⟨t, cz⟩ : ∃ t, wr.cell? ⟨w.heap.size, k, none⟩ = some t := ⟨_, ho.cell k (by omega)⟩
      have HO1 := Lib.hid ho1
      have HB2 := Lib.hid (hB.setCell (p := ⟨w.heap.size, k, none⟩) (Nat.le_refl _) (.int .i64 (-1)))
      have HM2 : Hid (∀ v, v < k + 1 → (T.set k (-1)).getD v 0 = -1) := Lib.hid (fun v hv => by
        by_cases e : k = v
        · subst e; exact getD_set_self _ _ _ _ (by omega)
        · rw [getD_set_ne _ _ _ _ _ e]; exact hm v (by omega))
      have hTs : (T.set k (-1)).length = N := by rw [List.length_set]; exact hT
      have HTS := Lib.hid hTs
      have hkN : (k : Int) < N := by omega
      clear ho1 ho hB hm hT hTs hg
      go_wp2_with fail
      go_roundw
      case rel => exact ⟨k + 1, _, by go_num, by omega, HTS.out, HM2.out, HO1.out, HB2.out⟩
      case measure => simp [intOf]; omega
    · have HW := Lib.hid (Wh.start HPF.out hT (fun v hv => hm v (by omega)))
      have HO1 := Lib.hid ho
      have HB2 := Lib.hid hB
      clear hm ho hB hT hk HOW HB1
      obtain ⟨wo, hwo⟩ : ∃ wo : World, wo = wr := ⟨_, rfl⟩
      subst hwo
      clear hg
      go_wp2_with fail
      go_loopw [7] (fun i wl => W2Rel N w.heap.size P w i wl) (fun i _ => P.length - (intOf i).toNat)
      case atStart => exact ⟨0, T, rfl, by omega, HW.out, HO1.out, HB2.out⟩
      case round =>
        obtain ⟨k, T, rfl, hk, hW, ho, hB⟩ := hrel
        by_cases hlt : k < P.length
        · obtain ⟨b, off, u, A2, cap2, rfl, hb1, hc1, rfl, hin⟩ := HPR.out k hlt
          have hpk : P[k]? = some (P.getD k []) := by rw [List.getD_eq_getElem?_getD, List.getElem?_eq_getElem hlt]; rfl
          have hpN := HPF.out.len (List.mem_of_getElem? hpk)
          obtain ⟨p, hp⟩ : ∃ p, P.getD k [] = p := ⟨_, rfl⟩
          rw [hp] at hpk hc1 hin hpN
          have c1 := (hB.cell (p := ⟨b, off + k, none⟩) hb1).trans hc1
          have HC1 := Lib.hid hc1
          have HIN := Lib.hid hin
          have HPK := Lib.hid hpk
          have HW2 := Lib.hid hW
          have HO2 := Lib.hid ho
          have HB3 := Lib.hid hB
          clear hW ho hB hc1 hin hpk hp
          obtain ⟨wo2, hwo2⟩ : ∃ wo2 : World, wo2 = wr := ⟨_, rfl⟩
          subst hwo2
          go_wp2_with fail
          go_loopw [8] (fun i wl => W3Rel N w.heap.size k p.length P w i wl) (fun i _ => p.length - (intOf i).toNat)
          case atStart => exact ⟨0, T, rfl, by omega, HW2.out, HO2.out, HB3.out⟩
          case round =>
            obtain ⟨j, T2, rfl, hj, hW, ho, hB⟩ := hrel
            have c1 := (hB.cell (p := ⟨b, off + k, none⟩) hb1).trans HC1.out
            by_cases hjl : j < p.length
            · obtain ⟨b2, off2, rfl, hb2, hcs⟩ := HIN.out (by omega)
              have c2 := (hB.cell (p := ⟨b2, off2 + j, none⟩) hb2).trans (hcs j hjl)
              have hst := hW.step HPF.out HPK.out hjl
              have hasc := HPF.out.asc p (List.mem_of_getElem? HPK.out)
              rw [List.pairwise_iff_getElem] at hasc
              have hprev : ∀ (h : 0 < j), p[j - 1]'(by omega) < p[j] := fun h => hasc (j - 1) j (by omega) hjl (by omega)
              have cp : ∀ (h : 0 < j), wr.cell? ⟨b2, off2 + (j - 1), none⟩ = some (.int .i64 (p[j - 1]'(by omega) : Nat)) := fun h => (hB.cell (p := ⟨b2, off2 + (j - 1), none⟩) hb2).trans (hcs (j - 1) (by omega))
              obtain ⟨x, hx⟩ : ∃ x, p[j] = x := ⟨_, rfl⟩
              rw [hx] at c2 hst hprev
              obtain ⟨s1, hxN, s3⟩ := hst
              have hTl := hW.len
              have cT := ho.cell x (by omega)
              have s1' : T2[x]'(by omega) = -1 := by rw [List.getD_eq_getElem?_getD, List.getElem?_eq_getElem (by omega)] at s1; exact s1
              rw [s1'] at cT
              have ho1 := ho.store x (by omega) (k : Int)
              have hfz : wr.frozen? ⟨w.heap.size, x, none⟩ = false := by
                have h1 := ho
                unfold OwnI at h1
                rw [hTl] at h1
                exact own_free h1 x
              have HO3 := Lib.hid ho1
              have HB4 := Lib.hid (hB.setCell (p := ⟨w.heap.size, x, none⟩) (Nat.le_refl _) (.int .i64 (k : Int)))
              have HW3 := Lib.hid s3
              have t1 : decide ((x : Int) < 0) = false := by rw [decide_eq_false_iff_not]; omega
              have t2 : decide ((N : Int) ≤ x) = false := by rw [decide_eq_false_iff_not]; omega
              have t2n : decide (N ≤ x) = false := by rw [decide_eq_false_iff_not]; omega
              have hx0 : (0 : Int) ≤ x := by omega
              have hxi : (x : Int) < N := by omega
              clear hW ho hB hcs hx s1 s3 hTl s1' ho1 hasc
              by_cases hj0 : j = 0
              · subst hj0
                rw [Nat.add_zero] at c2
                clear hprev cp
                go_wp2_with fail
                go_roundw
                case rel => exact ⟨1, _, by go_num, by omega, HW3.out, HO3.out, HB4.out⟩
                case measure => simp [intOf]; omega
              · have cy := cp (by omega)
                have hyx := hprev (by omega)
                obtain ⟨y, hy⟩ : ∃ y, p[j - 1]'(by omega) = y := ⟨_, rfl⟩
                rw [hy] at cy hyx
                have t3 : decide ((x : Int) ≤ y) = false := by rw [decide_eq_false_iff_not]; omega
                have t3n : decide (x ≤ y) = false := by rw [decide_eq_false_iff_not]; omega
                have hk1 : (0 : Int) < j := by omega
                have hk1n : 0 < j := by omega
                have hb3 : j - 1 < p.length := by omega
                have hb4 : ((j - 1 : Nat) : Int) < p.length := by omega
                have hb5 : (j : Int) - 1 < p.length := by omega
                have v2 : (0 : Int) ≤ (j : Int) - 1 := by omega
                have v3 : ((j : Int) - 1).toNat = j - 1 := by omega
                clear hprev cp hy
                go_wp2_with fail
                go_roundw
                case rel => exact ⟨j + 1, _, by go_num, by omega, HW3.out, HO3.out, HB4.out⟩
                case measure => simp [intOf]; omega
            · obtain rfl : j = p.length := by omega
              have HW3 := Lib.hid (hW.next HPK.out)
              have HO3 := Lib.hid ho
              have HB4 := Lib.hid hB
              clear hW ho hB hj
              go_wp2_with fail
              go_roundw
              case rel => exact ⟨k + 1, _, by go_num, by omega, HW3.out, HO3.out, HB4.out⟩
              case measure => simp [intOf]; omega
        · have HF : Hid (WherePost N P w (.returned (.slice (some ⟨w.heap.size, 0, none⟩) N N)) wr) := Lib.hid (WherePost.mk _ T rfl ho hW.len (fun i p v hp hv => hW.done i p v (by have := (List.getElem?_eq_some_iff.1 hp).1; omega) hp hv) hB)
          clear hW ho hB hk
          go_wp2_with fail
          go_ret
          exact HF.out
end Go.Proofs.Ytobpolmlblpmjaa
