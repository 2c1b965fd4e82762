/-
  The program's search.
-/
import Derived.Test.YtmnhnighlgpjmaaGreatVisit
import Derived.Test.YtmnhnighlgpjmaaGreatMathA
import Derived.Test.YtmnhnighlgpjmaaGreatRept
namespace Go.Proofs.YtmnhnighlgpjmaaGreat
set_option linter.unusedVariables false
set_option linter.unusedSimpArgs false
open Go.RowKit

theorem own_rd {w : World} {base n cap : Nat} {A : Option Addr} {l : List Int} (h : OwnI w base (.slice A n cap) l) (i : Nat) (hi : i < l.length) : ∃ g, A = some ⟨g, 0, none⟩ ∧ w.cell? ⟨g, i, none⟩ = some (.int .i64 l[i]) := by
  rcases h.form with ⟨_, rfl⟩ | ⟨g, cap2, cur, hv, _⟩
  · simp at hi
  · injection hv with e1 e2 e3
    subst e1
    exact ⟨g, rfl, h.cell i hi⟩
theorem own_slice {w : World} {base : Nat} {v : Value} {l : List Int} (h : OwnI w base v l) : ∃ A cap, v = .slice A l.length cap := by
  rcases h.form with ⟨rfl, rfl⟩ | ⟨g, cap2, cur, hv, _⟩
  · exact ⟨none, 0, rfl⟩
  · exact ⟨_, _, hv⟩
theorem Bfs.len {A : Arcs} {R : List Nat} {P : List (List Nat)} {i n : Nat} {T : List Nat} {B : List Int} (h : Bfs A R P i T) (hB : BefOk n B P) : P.length ≤ n := by
  have := nodup_le n (P.map lst) h.nd (fun x hx => by
    obtain ⟨p, hp, rfl⟩ := List.mem_map.1 hx
    exact (hB.par p hp).1)
  simpa using this
def SrchPost (A : Arcs) (n : Nat) (rs : List Int) (w : World) (e : Ending) (w' : World) : Prop := ∃ g B P, e = .returned (.slice (some ⟨g, 0, none⟩) n n) ∧ OwnI w' w.heap.size (.slice (some ⟨g, 0, none⟩) n n) B ∧ Found A (rootsN n rs) n B P ∧ Below w.heap.size w w'
theorem SrchPost.mk {A : Arcs} {n : Nat} {rs : List Int} {w w' : World} {e : Ending} (g : Nat) (B : List Int) (P : List (List Nat)) (h1 : e = .returned (.slice (some ⟨g, 0, none⟩) n n)) (h2 : OwnI w' w.heap.size (.slice (some ⟨g, 0, none⟩) n n) B) (h3 : Found A (rootsN n rs) n B P) (h4 : Below w.heap.size w w') : SrchPost A n rs w e w' := ⟨g, B, P, h1, h2, h3, h4⟩
def RootRel (n : Nat) (srt : List Int) (w0 : World) (bb bq gb : Nat) (sv : Value) (i : Value) (wl : World) : Prop := ∃ (k : Nat) (L : List Nat) (q : Value) (B : List Int), i = .int .i64 k ∧ k ≤ srt.length ∧ Rt n srt k L ∧ BefOk n B (L.map one) ∧ SrchAt wl w0.heap.size bb bq gb n sv srt q B L ∧ Below w0.heap.size w0 wl
def LoopRel (A : Arcs) (R : List Nat) (n : Nat) (srt : List Int) (w0 : World) (bb bq gb : Nat) (sv : Value) (i : Value) (wl : World) : Prop := ∃ (k : Nat) (P : List (List Nat)) (q : Value) (B : List Int), i = .int .i64 k ∧ k ≤ P.length ∧ Bfs A R P k [] ∧ BefOk n B P ∧ SrchAt wl w0.heap.size bb bq gb n sv srt q B (P.map lst) ∧ Below w0.heap.size w0 wl
def InRel (A : Arcs) (R : List Nat) (n : Nat) (srt : List Int) (w0 : World) (bb bq gb : Nat) (sv : Value) (k m : Nat) (p l : List Nat) (i : Value) (wl : World) : Prop := ∃ (j : Nat) (P : List (List Nat)) (q : Value) (B : List Int), i = .int .i64 j ∧ j ≤ m ∧ P[k]? = some p ∧ Bfs A R P k (l.take j) ∧ BefOk n B P ∧ SrchAt wl w0.heap.size bb bq gb n sv srt q B (P.map lst) ∧ Below w0.heap.size w0 wl

set_option maxRecDepth 100000 in
set_option maxHeartbeats 8000000 in
theorem searchP (v rv : Value) (N : List (List Nat)) (A : Arcs) (rs : List Int) (n : Nat) (w : World) (hN : Succ n N) (hA : ∀ v, v < n → ∀ w, w ∈ N.getD v [] ↔ (v, w) ∈ A) (hS : ∀ v, (N.getD v []).Pairwise (· ≤ ·)) (hL : ∀ v, (N.getD v []).length ≤ 1000000) (hn : n ≤ 900) (hr : LRow w w.heap.size v (N.map zi)) (hrr : IRow w w.heap.size rv rs) :
    Calls Tryz.prog 50 #[v, rv] w (SrchPost A n rs w) := by
  obtain ⟨AN, capN, hv, hrd⟩ := hr.rd hN.len
  subst hv
  obtain ⟨AR, capR, hv2⟩ : ∃ A cap, rv = .slice A rs.length cap := by obtain ⟨_, A, cap, h, _⟩ := hrr; exact ⟨A, cap, h⟩
  subst hv2
  obtain ⟨W0, hW0⟩ : ∃ W0, w.alloc (.cells #[.int .i64 (-1)] 3) = W0 := ⟨_, rfl⟩
  have hb0 : Below w.heap.size w W0 := by rw [← hW0]; exact below_new w _
  have hc0 : W0.cell? ⟨w.heap.size, 0, none⟩ = some (.int .i64 (-1)) := by rw [← hW0]; exact (Blk.new w 3 _).cell 0
  have hlt0 : w.heap.size < W0.heap.size := by rw [← hW0]; simp
  have HR := Lib.hid (repeatP w.heap.size 0 1 n (-1) W0 hlt0 hc0 (by omega))
  have HRD := Lib.hid hrd
  have HN := Lib.hid hN
  have HA := Lib.hid hA
  have HS := Lib.hid hS
  have HLN := Lib.hid hL
  have HRR := Lib.hid hrr
  have HB0 := Lib.hid hb0
  have HW0 := Lib.hid hW0
  clear hr hrd hN hA hS hL hrr hb0 hc0
  go_enter Tryz.func50, Tryz.ntmps50
  go_wp2_with fail
  refine HR.out.mono ?_; rintro e w1 ⟨rfl, hown, hb1⟩
  obtain ⟨gb, hgb⟩ : ∃ gb, W0.heap.size = gb := ⟨_, rfl⟩
  rw [hgb] at hown hb1 ⊢
  have hB1 := HB0.out.trans (hb1.mono (show w.heap.size ≤ gb by omega))
  have hown1 := hown.base (show w.heap.size ≤ gb by omega)
  have x1 := Boxed.new w1 33 (.slice (some ⟨gb, 0, none⟩) n n)
  obtain ⟨bb, hbb⟩ : ∃ bb, w1.heap.size = bb := ⟨_, rfl⟩
  rw [hbb] at x1
  have x2 := Boxed.new (w1.alloc (.cells #[.slice (some ⟨gb, 0, none⟩) n n] 33)) 33 (.slice none 0 0)
  have hs2 : (w1.alloc (.cells #[.slice (some ⟨gb, 0, none⟩) n n] 33)).heap.size = bb + 1 := by rw [size_new, hbb]
  rw [hs2] at x2
  have hb2 := (below_new w1 (.cells #[.slice (some ⟨gb, 0, none⟩) n n] 33)).trans ((below_new _ (.cells #[.slice none 0 0] 33)).mono (by simp))
  obtain ⟨W2, hW2⟩ : ∃ W2, (w1.alloc (.cells #[.slice (some ⟨gb, 0, none⟩) n n] 33)).alloc (.cells #[.slice none 0 0] 33) = W2 := ⟨_, rfl⟩
  have x1' : Boxed W2 bb 33 (.slice (some ⟨gb, 0, none⟩) n n) := by rw [← hW2]; exact x1.alloc _
  have x2' : Boxed W2 (bb + 1) 33 (.slice none 0 0) := by rw [← hW2]; exact x2
  rw [hW2] at hb2
  have hs3 : W2.heap.size = bb + 2 := by rw [← hW2, size_new, hs2]
  have hgbb : w.heap.size ≤ bb := by rw [← hbb]; exact hB1.size
  have hown2 := hown1.below hb2
  have hB2 := hB1.trans (hb2.mono (by rw [hbb]; exact hgbb))
  have HOWN2 := Lib.hid hown2
  have HB2 := Lib.hid hB2
  have HX1 := Lib.hid x1'
  have HX2 := Lib.hid x2'
  have HS3 := Lib.hid hs3
  have hb3 := below_new W2 (.cells #[.slice AR rs.length capR] 33)
  have HSO := Lib.hid (sortedP (bb + 2) (.slice AR rs.length capR) rs (W2.alloc (.cells #[.slice AR rs.length capR] 33)) (by rw [size_new, hs3]; omega) (by have := (Blk.new W2 33 #[.slice AR rs.length capR]).cell 0; rw [hs3] at this; exact this) ((HRR.out.below hB2).below (hb3.mono (by rw [hs3]; omega)) |>.mono (by rw [size_new, hs3]; omega)))
  have HB3 := Lib.hid (hB2.trans (hb3.mono (by rw [hs3]; omega)))
  have HK3 := Lib.hid hb3
  have hrl := HRR.out.1
  clear hown hb1 hB1 hown1 x1 x2 hb2 x1' x2' hown2 hB2 hb3 hgb hs2
  go_wp2_with fail
  refine (valuesP _ _ _ _).mono ?_; rintro e w3 ⟨rfl, hw3⟩
  rw [HS3.out]
  subst hw3
  go_wp2_with fail
  refine HSO.out.mono ?_; rintro e w4 ⟨sv, rfl, hsv, hb4⟩
  obtain ⟨SA, scap, rfl⟩ := own_slice hsv
  have hsl : (rs.mergeSort fun x y => decide (x ≤ y)).length = rs.length := by simp
  rw [hsl] at hsv ⊢
  have HP : Hid ((rs.mergeSort fun x y => decide (x ≤ y)).Perm rs) := Lib.hid (List.mergeSort_perm _ _)
  have HAS : Hid ((rs.mergeSort fun x y => decide (x ≤ y)).Pairwise (· ≤ ·)) := Lib.hid ((List.pairwise_mergeSort (le := fun x y : Int => decide (x ≤ y)) (fun a b c h1 h2 => by simp at *; omega) (fun a b => by simp; omega) rs).imp (fun h => by simpa using h))
  obtain ⟨srt, hsrt⟩ : ∃ s, (rs.mergeSort fun x y => decide (x ≤ y)) = s := ⟨_, rfl⟩
  rw [hsrt] at hsv hsl HP HAS
  have hs4 : (W2.alloc (.cells #[.slice AR rs.length capR] 33)).heap.size = bb + 3 := by rw [size_new, HS3.out]
  have hb24 := HK3.out.trans (hb4.mono (by rw [hs4, HS3.out]; omega))
  have hst : SrchAt w4 w.heap.size bb (bb + 1) gb n (.slice SA rs.length scap) srt (.slice none 0 0) (List.replicate n (-1)) [] := by
    refine ⟨hgbb, by omega, by omega, HX1.out.kept (grown_below hb24 none) (by simp), HOWN2.out.below hb24, HX2.out.kept (grown_below hb24 none) (by simp), OwnI.nil _ _, by simp [Value.ownBlock], hsv.base (by rw [hs4]; omega), fun e => ?_, fun k _ => by simp [Value.ownBlock]⟩
    have h1 := (World.ownsRow.lt hsv gb e).1
    have h2 := (World.ownsRow.lt HOWN2.out gb rfl).2
    rw [hs4] at h1
    rw [HS3.out] at h2
    omega
  have HST := Lib.hid hst
  have HB4 := Lib.hid (HB3.out.trans (hb4.mono (by rw [hs4]; omega)))
  clear hsrt hsv hb4 hs4 hb24 hst HSO HB3 HK3 HX1 HX2 HOWN2 HB2 HR
  have HSL := Lib.hid hsl
  clear hsl
  go_wp2_with fail
  go_loopw [22] (fun i wl => RootRel n srt w bb (bb + 1) gb (.slice SA rs.length scap) i wl) (fun i _ => rs.length - (intOf i).toNat)
  case atStart => exact ⟨0, [], _, _, rfl, by omega, Rt.start _ _, BefOk.start n, HST.out, HB4.out⟩
  case round =>
    obtain ⟨k, L, q, B, rfl, hk, hRt, hBef, hst, hB⟩ := hrel
    rw [HSL.out] at hk
    by_cases hlt : k < rs.length
    · have hks : k < srt.length := by rw [HSL.out]; exact hlt
      obtain ⟨gs, rfl, c1⟩ := own_rd hst.sown k hks
      have hbs := hB.size
      obtain ⟨z, hz⟩ : ∃ z, srt[k] = z := ⟨_, rfl⟩
      rw [hz] at c1
      have HNP := Lib.hid (nodeP n z wr)
      by_cases hnd : 0 ≤ z ∧ z < n
      · have hnb : nodeB n z = true := nodeB_iff.2 hnd
        rw [hnb] at HNP
        obtain ⟨r, hr⟩ : ∃ r : Nat, z = r := ⟨z.toNat, by omega⟩
        subst hr
        have hrn : r < n := by omega
        have HZ := Lib.hid hz
        by_cases hm : r ∈ L
        · have hBr : B.getD r 0 ≠ -1 := fun e => (hBef.has hrn).1 e (by rw [map_one]; exact hm)
          have HV := Lib.hid (visit_old hst r r hrn hBr hB)
          have HR2 := Lib.hid (hRt.old hks hz hm)
          have HBF := Lib.hid hBef
          clear hz hnb hnd hRt hBef hst hB hm hBr
          go_wp2_with fail
          refine HNP.out.mono ?_; rintro e w5 ⟨rfl, rfl⟩
          go_wp2_with fail
          refine HV.out.mono ?_; rintro e w5 ⟨rfl, q2, h1, h2⟩
          have H1 := Lib.hid h1
          have H2 := Lib.hid h2
          clear h1 h2
          go_wp2_with fail
          go_roundw
          case rel => exact ⟨k + 1, L, q2, B, by go_num, by omega, HR2.out, HBF.out, H1.out, H2.out⟩
          case measure => simp [intOf]; omega
        · have hBr : B.getD r 0 = -1 := (hBef.has hrn).2 (by rw [map_one]; exact hm)
          have hLn : L.length ≤ 1000 := by
            have h1 := hRt.asc
            have := nodup_le n L (h1.imp (fun h => by omega)) (fun x hx => ((hRt.mem x).1 hx).2)
            omega
          have HV := Lib.hid (visit_new hst r r hrn hBr hB hbs hLn)
          have HR2 := Lib.hid (hRt.new HAS.out hks hz hrn hm)
          have HBF : Hid (BefOk n (B.set r (r : Int)) ((L ++ [r]).map one)) := Lib.hid (by
            have h1 := hBef.mark (p := [r]) hrn rfl (par_one r) (by rw [map_one]; exact hm)
            rw [List.map_append]; exact h1)
          clear hz hnb hnd hRt hBef hst hB hm hBr hLn
          go_wp2_with fail
          refine HNP.out.mono ?_; rintro e w5 ⟨rfl, rfl⟩
          go_wp2_with fail
          refine HV.out.mono ?_; rintro e w5 ⟨rfl, q2, h1, h2⟩
          have H1 := Lib.hid h1
          have H2 := Lib.hid h2
          clear h1 h2
          go_wp2_with fail
          go_roundw
          case rel => exact ⟨k + 1, _, q2, _, by go_num, by omega, HR2.out, HBF.out, H1.out, H2.out⟩
          case measure => simp [intOf]; omega
      · have hnb : nodeB n z = false := by
          cases h : nodeB n z
          · rfl
          · exact absurd (nodeB_iff.1 h) hnd
        rw [hnb] at HNP
        have HR2 := Lib.hid (hRt.bad hks (by rw [hz]; exact hnd))
        have HBF := Lib.hid hBef
        have H1 := Lib.hid hst
        have H2 := Lib.hid hB
        clear hz hnb hnd hRt hBef hst hB
        go_wp2_with fail
        refine HNP.out.mono ?_; rintro e w5 ⟨rfl, rfl⟩
        go_wp2_with fail
        go_roundw
        case rel => exact ⟨k + 1, L, q, B, by go_num, by omega, HR2.out, HBF.out, H1.out, H2.out⟩
        case measure => simp [intOf]; omega
    · have hkl : k = srt.length := by rw [HSL.out]; omega
      subst hkl
      have HBS := Lib.hid (hRt.bfs (A := A) HP.out)
      have HBF := Lib.hid hBef
      have HST2 : Hid (SrchAt wr w.heap.size bb (bb + 1) gb n (.slice SA rs.length scap) srt q B ((L.map one).map lst)) := Lib.hid (by rw [map_one]; exact hst)
      have HB5 := Lib.hid hB
      have hge : ¬ ((srt.length : Int) < rs.length) := by rw [HSL.out]; omega
      rw [HSL.out] at hge ⊢
      clear hRt hBef hst hB hlt hk
      obtain ⟨wo, rfl⟩ : ∃ wo : World, wo = wr := ⟨_, rfl⟩
      go_wp2_with fail
      go_loopw [10] (fun i wl => LoopRel A (rootsN n rs) n srt w bb (bb + 1) gb (.slice SA rs.length scap) i wl) (fun i _ => n - (intOf i).toNat)
      case atStart => exact ⟨0, L.map one, q, B, rfl, by omega, HBS.out, HBF.out, HST2.out, HB5.out⟩
      case round =>
        obtain ⟨k, P, q3, B3, rfl, hk, hBfs, hBef, hst, hB⟩ := hrel
        have hPn := hBfs.len hBef
        obtain ⟨QA, qcap, rfl⟩ := own_slice hst.qown
        have hql : (zi (P.map lst)).length = P.length := by rw [zi_length, List.length_map]
        have cq := hst.qx.cell
        rw [hql] at cq
        by_cases hlt : k < P.length
        · obtain ⟨p, hp⟩ : ∃ p, P[k]? = some p := ⟨_, List.getElem?_eq_getElem hlt⟩
          have hpm := List.mem_of_getElem? hp
          have hpn := hBef.par p hpm
          obtain ⟨gq, rfl, cq1⟩ := own_rd hst.qown k (by rw [hql]; exact hlt)
          have hqk : (zi (P.map lst))[k]'(by rw [hql]; exact hlt) = ((lst p : Nat) : Int) := by
            have h1 := (List.getElem?_eq_some_iff.1 hp).2
            simp [zi, h1]
          rw [hqk] at cq1
          obtain ⟨u, hu⟩ : ∃ u, lst p = u := ⟨_, rfl⟩
          rw [hu] at cq1 hpn
          obtain ⟨b, off, uv, A2, cap2, rfl, hbn, hun, rfl, hin⟩ := HRD.out u hpn.1
          have cn := (hB.cell (p := ⟨b, off + u, none⟩) hbn).trans hun
          obtain ⟨m, hm⟩ : ∃ m, (N.getD u []).length = m := ⟨_, rfl⟩
          have HIN := Lib.hid hin
          have hmb := HLN.out u
          rw [hm] at cn hmb
          have HU := Lib.hid hu
          have HM := Lib.hid hm
          have HP0 := Lib.hid hp
          have HBS2 := Lib.hid hBfs
          have HBF2 := Lib.hid hBef
          have HST3 := Lib.hid hst
          have HB6 := Lib.hid hB
          have hun2 := hpn.1
          clear hp hpm hpn hu hm hun hin hBfs hBef hst hB hqk hql
          obtain ⟨wi, rfl⟩ : ∃ wi : World, wi = wr := ⟨_, rfl⟩
          go_wp2_with fail
          go_loopw [49] (fun i wl => InRel A (rootsN n rs) n srt w bb (bb + 1) gb (.slice SA rs.length scap) k m p (N.getD u []) i wl) (fun i _ => m - (intOf i).toNat)
          case atStart => exact ⟨0, P, _, B3, rfl, by omega, HP0.out, HBS2.out, HBF2.out, HST3.out, HB6.out⟩
          case round =>
            obtain ⟨j, P2, q4, B4, rfl, hj, hp2, hBfs, hBef, hst, hB⟩ := hrel
            have hPn2 := hBfs.len hBef
            by_cases hlt2 : j < m
            · have hjl : j < (N.getD u []).length := by rw [HM.out]; exact hlt2
              obtain ⟨b2, off2, rfl, hb2, hcs⟩ := HIN.out (by rw [HM.out]; omega)
              have c2 := (hB.cell (p := ⟨b2, off2 + j, none⟩) hb2).trans (hcs j hjl)
              obtain ⟨QA2, qcap2, rfl⟩ := own_slice hst.qown
              have hql2 : (zi (P2.map lst)).length = P2.length := by rw [zi_length, List.length_map]
              have hkP2 := (List.getElem?_eq_some_iff.1 hp2).1
              have cq2 := hst.qx.cell
              rw [hql2] at cq2
              obtain ⟨gq2, rfl, cq3⟩ := own_rd hst.qown k (by rw [hql2]; exact hkP2)
              have hqk : (zi (P2.map lst))[k]'(by rw [hql2]; exact hkP2) = ((u : Nat) : Int) := by
                have h1 := (List.getElem?_eq_some_iff.1 hp2).2
                simp [zi, h1, HU.out]
              rw [hqk] at cq3
              have hxm := List.getElem_mem hjl
              have hTk : (N.getD u []).take (j + 1) = (N.getD u []).take j ++ [(N.getD u [])[j]] := List.take_succ_eq_append_getElem hjl
              have hTle : ∀ t ∈ (N.getD u []).take j, t ≤ (N.getD u [])[j] := fun t ht => by
                obtain ⟨i, hi, rfl⟩ := List.getElem_of_mem ht
                rw [List.length_take] at hi
                rw [List.getElem_take]
                exact List.pairwise_iff_getElem.1 (HS.out u) i j (by omega) hjl (by omega)
              have hxn := HN.out.get _ hxm
              have hxA := (HA.out u hun2 _).1 hxm
              obtain ⟨x, hx⟩ : ∃ x, (N.getD u [])[j] = x := ⟨_, rfl⟩
              rw [hx] at c2 hTk hTle hxn hxA
              have hbs2 := hB.size
              have hpu := HU.out
              by_cases hm : x ∈ P2.map lst
              · have hBx : B4.getD x 0 ≠ -1 := fun e => (hBef.has hxn).1 e hm
                have HV := Lib.hid (visit_old hst x u hxn hBx hB)
                have HB2 : Hid (Bfs A (rootsN n rs) P2 k ((N.getD u []).take (j + 1))) := Lib.hid (by rw [hTk]; exact hBfs.old hp2 hm)
                have HBF3 := Lib.hid hBef
                have HP2 := Lib.hid hp2
                clear hst hB hBfs hBef hm hBx hTk hTle hxA hx hxm hcs hp2 hqk hql2
                go_wp2_with fail
                refine HV.out.mono ?_; rintro e w5 ⟨rfl, q2, h1, h2⟩
                have H1 := Lib.hid h1
                have H2 := Lib.hid h2
                clear h1 h2
                go_wp2_with fail
                go_roundw
                case rel => exact ⟨j + 1, P2, q2, B4, by go_num, by omega, HP2.out, HB2.out, HBF3.out, H1.out, H2.out⟩
                case measure => simp [intOf]; omega
              · have hBx : B4.getD x 0 = -1 := (hBef.has hxn).2 hm
                have HV := Lib.hid (visit_new hst x u hxn hBx hB hbs2 (by rw [List.length_map]; omega))
                have hpne : p ≠ [] := hBfs.ne p (List.mem_of_getElem? hp2)
                have HB2 : Hid (Bfs A (rootsN n rs) (P2 ++ [p ++ [x]]) k ((N.getD u []).take (j + 1))) := Lib.hid (by rw [hTk]; exact hBfs.new hp2 hm (by rw [hpu]; exact hxA) hTle)
                have HBF3 := Lib.hid (hBef.mark (p := p ++ [x]) (u := u) hxn (lst_snoc p x) (by rw [par_snoc p x hpne, hpu]) hm)
                have HP2 : Hid ((P2 ++ [p ++ [x]])[k]? = some p) := Lib.hid (by rw [List.getElem?_append_left hkP2]; exact hp2)
                have HQ2 : Hid ((P2 ++ [p ++ [x]]).map lst = P2.map lst ++ [x]) := Lib.hid (by simp)
                clear hst hB hBfs hBef hm hBx hTk hTle hxA hx hxm hcs hp2 hqk hql2 hpne
                go_wp2_with fail
                refine HV.out.mono ?_; rintro e w5 ⟨rfl, q2, h1, h2⟩
                have H1 := Lib.hid h1
                have H2 := Lib.hid h2
                clear h1 h2
                go_wp2_with fail
                go_roundw
                case rel => exact ⟨j + 1, _, q2, _, by go_num, by omega, HP2.out, HB2.out, HBF3.out, by rw [HQ2.out]; exact H1.out, H2.out⟩
                case measure => simp [intOf]; omega
            · have hjm : j = m := by omega
              have HB2 : Hid (Bfs A (rootsN n rs) P2 (k + 1) []) := Lib.hid (hBfs.next hp2 (fun x hx => by
                rw [hjm, List.take_of_length_le (by rw [HM.out]; omega)]
                rw [HU.out] at hx
                exact (HA.out u hun2 x).2 hx))
              have hkP2 := (List.getElem?_eq_some_iff.1 hp2).1
              have HBF3 := Lib.hid hBef
              have HST4 := Lib.hid hst
              have HB7 := Lib.hid hB
              have hge2 : ¬ ((j : Int) < m) := by omega
              clear hjm hBfs hBef hst hB hp2
              go_wp2_with fail
              go_roundw
              case rel => exact ⟨k + 1, P2, q4, B4, by go_num, by omega, HB2.out, HBF3.out, HST4.out, HB7.out⟩
              case measure => simp [intOf]; omega
        · have hkP : k = P.length := by omega
          have HF : Hid (Found A (rootsN n rs) n B3 P) := Lib.hid ⟨by rw [hkP] at hBfs; exact hBfs.ways, hBef⟩
          have HOW := Lib.hid hst.own
          have HB6 := Lib.hid hB
          have cb := hst.bx.cell
          have hge2 : ¬ ((k : Int) < P.length) := by omega
          clear hkP hBfs hBef hst hB hql
          go_wp2_with fail
          go_ret
          exact SrchPost.mk gb B3 P rfl HOW.out HF.out HB6.out
end Go.Proofs.YtmnhnighlgpjmaaGreat
