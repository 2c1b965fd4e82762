/-
  The program's Way.
-/
import Derived.Test.YtmnhnighlgpjmaaGreatReachP
namespace Go.Proofs.YtmnhnighlgpjmaaGreat
set_option linter.unusedVariables false
set_option linter.unusedSimpArgs false
open Go.RowKit

def slLen : Value → Nat
  | .slice _ n _ => n
  | _ => 0
set_option maxHeartbeats 2000000 in
theorem way_bad (n tt : Int) (v rv : Value) (l : List Sp) (w : World) (hri : rightB n l = false ∨ nodeB n tt = false) (hr : SRow w w.heap.size v l) :
    Calls Tryz.prog 36 #[.int .i64 n, v, rv, .int .i64 tt] w (NilPost w) := by
  have HC := Lib.hid (rightP n v l w hr)
  have HNO := Lib.hid (fun w => nodeP n tt w)
  obtain ⟨b1, hb1⟩ : ∃ b, rightB n l = b := ⟨_, rfl⟩
  obtain ⟨b2, hb2⟩ : ∃ b, nodeB n tt = b := ⟨_, rfl⟩
  rw [hb1] at HC hri
  rw [hb2] at HNO hri
  clear hb1 hb2 hr
  cases b1
  · clear hri
    go_enter Tryz.func36, Tryz.ntmps36
    go_wp2_with fail
    refine HC.out.mono ?_; rintro e w1 ⟨rfl, hb⟩
    have HB := Lib.hid hb
    clear hb
    go_wp2_with fail
    go_ret
    exact ⟨rfl, HB.out⟩
  · have e : b2 = false := by rcases hri with h | h; cases h; exact h
    subst e
    clear hri
    go_enter Tryz.func36, Tryz.ntmps36
    go_wp2_with fail
    refine HC.out.mono ?_; rintro e w1 ⟨rfl, hb⟩
    have HB := Lib.hid hb
    clear hb
    go_wp2_with fail
    refine (HNO.out _).mono ?_; rintro e w2 ⟨rfl, rfl⟩
    go_wp2_with fail
    go_ret
    exact ⟨rfl, HB.out⟩
def WayPost (A : Arcs) (R : List Nat) (tt : Nat) (w : World) (e : Ending) (w' : World) : Prop := ∃ u p, e = .returned u ∧ OwnI w' w.heap.size u (zi p) ∧ WayOk A R tt p ∧ Below w.heap.size w w'
theorem WayPost.mk {A : Arcs} {R : List Nat} {tt : Nat} {w w' : World} {e : Ending} (u : Value) (p : List Nat) (h1 : e = .returned u) (h2 : OwnI w' w.heap.size u (zi p)) (h3 : WayOk A R tt p) (h4 : Below w.heap.size w w') : WayPost A R tt w e w' := ⟨u, p, h1, h2, h3, h4⟩
def StepRel (P : List (List Nat)) (p : List Nat) (w0 : World) (s i : Value) (wl : World) : Prop := ∃ q r, i = .int .i64 ((lst q : Nat) : Int) ∧ q ∈ P ∧ p = q ++ r ∧ OwnI wl w0.heap.size s (zi (lst q :: r).reverse) ∧ Below w0.heap.size w0 wl
set_option maxRecDepth 100000 in
set_option maxHeartbeats 4000000 in
theorem way_ok (n tt : Nat) (v rv : Value) (l : List Sp) (rs : List Int) (w : World) (hri : rightB n l = true) (ht : tt < n) (hn : n ≤ 900) (hl : l.length ≤ 1000) (hr : SRow w w.heap.size v l) (hrr : IRow w w.heap.size rv rs) :
    Calls Tryz.prog 36 #[.int .i64 n, v, rv, .int .i64 tt] w (WayPost (toA l) (rootsN n rs) tt w) := by
  obtain ⟨i0, hi, hz0, hz1, hz2⟩ := info_parts infoI
  have HC := rightP n v l w hr
  have HRI : Hid (rightB (n : Int) l = true) := hri
  rw [hri] at HC
  have HC2 := Lib.hid HC
  have HNO := fun w => nodeP n tt w
  rw [show nodeB n tt = true from nodeB_iff.2 (by omega)] at HNO
  have HNO2 := Lib.hid HNO
  have HR := Lib.hid hr
  have HRR := Lib.hid hrr
  clear HC hri hr hrr HNO
  go_enter Tryz.func36, Tryz.ntmps36
  go_wp2_with fail
  refine HC2.out.mono ?_; rintro e w1 ⟨rfl, hb⟩
  have HSU := Lib.hid (succP v l n w1 HRI.out (by omega) hl (HR.out.keep hb))
  have HB1 := Lib.hid hb
  clear hb HC2
  go_wp2_with fail
  refine (HNO2.out _).mono ?_; rintro e w2 ⟨rfl, rfl⟩
  go_wp2_with fail
  refine HSU.out.mono ?_; rintro e w2 ⟨g, vs, rfl, hne, hb2⟩
  have HB2 := Lib.hid (HB1.out.trans (hb2.mono HB1.out.size))
  have HSR := Lib.hid (searchA l rv rs n g vs w1 w2 HRI.out hn hl hne (HRR.out.keep HB2.out))
  clear hne hb2 HSU HNO2
  go_wp2_with fail
  refine HSR.out.mono ?_; rintro e w3 ⟨gb, B, P, rfl, hown, hF, hb3⟩
  have HB3 := Lib.hid (HB2.out.trans (hb3.mono HB2.out.size))
  have HF := Lib.hid hF
  have hBl : B.length = n := hF.bef.len
  have HCELL : Hid (∀ k (h : k < n), w3.cell? ⟨gb, k, none⟩ = some (.int .i64 (B.getD k 0))) := fun k hk => by
    rw [hown.cell k (by omega), List.getD_eq_getElem?_getD, List.getElem?_eq_getElem (by omega)]; rfl
  have hgl := (World.ownsRow.lt hown gb rfl).2
  have hbs3 := HB3.out.size
  have c0 := HCELL.out tt ht
  obtain ⟨z, hz⟩ : ∃ z, B.getD tt 0 = z := ⟨_, rfl⟩
  rw [hz] at c0
  clear hb3 hF hown HSR HB1 HB2
  by_cases hzm : z = -1
  · have hzb : (z == -1) = true := by simpa using hzm
    have HW := Lib.hid (HF.out.none ht (by rw [hz, hzm]))
    clear hz hzm
    go_wp2_with fail
    go_ret
    exact WayPost.mk _ [] rfl (OwnI.nil _ _) HW.out HB3.out
  · have hzb : (z == -1) = false := by simpa using hzm
    obtain ⟨p, hp, rfl⟩ := HF.out.at ht (by rw [hz]; exact hzm)
    have HW := Lib.hid (HF.out.way hp)
    have HP := Lib.hid hp
    have hst : OwnI (w3.alloc (.cells #[.int .i64 (lst p : Int)] 3)) w3.heap.size (.slice (some ⟨w3.heap.size, 0, none⟩) 1 1) (zi (lst p :: []).reverse) := by
      exact ⟨rfl, .inr ⟨w3.heap.size, 1, _, rfl, Nat.le_refl _, heap_alloc_new w3 _, Nat.le_refl _, by decide, rfl, rfl⟩⟩
    have HST := Lib.hid hst
    have HBN := Lib.hid (below_new w3 (.cells #[.int .i64 (lst p : Int)] 3))
    have HPN : Hid (p.length ≤ n) := Lib.hid (by
      have h1 := nodup_le n (P.map lst) HF.out.ways.nd (fun x hx => by
        obtain ⟨q, hq, rfl⟩ := List.mem_map.1 hx
        exact (HF.out.bef.par q hq).1)
      have key : ∀ (k : Nat) (q : List Nat), q.length ≤ k → q ∈ P → ∃ S : List (List Nat), S.length = q.length ∧ (∀ x ∈ S, x ∈ P ∧ x.length ≤ q.length) ∧ (S.map List.length).Nodup := by
        intro k
        induction k with
        | zero => intro q hq hqP; exact absurd (List.eq_nil_of_length_eq_zero (by omega)) (HF.out.ways.ne q hqP)
        | succ k ih =>
          intro q hq hqP
          rcases (HF.out.step hqP).2.2 with ⟨h2, _⟩ | ⟨q2, h2, _, _, _, h5⟩
          · refine ⟨[q], ?_, ?_, by simp⟩
            · rw [h2]; rfl
            · intro x hx; rw [List.mem_singleton.1 hx]; exact ⟨hqP, Nat.le_refl _⟩
          · obtain ⟨S, g1, g2, g3⟩ := ih q2 (by omega) h2
            refine ⟨q :: S, by simp; omega, fun x hx => ?_, ?_⟩
            · rcases List.mem_cons.1 hx with rfl | hx
              · exact ⟨hqP, Nat.le_refl _⟩
              · exact ⟨(g2 x hx).1, by have := (g2 x hx).2; omega⟩
            · rw [List.map_cons, List.nodup_cons]
              refine ⟨fun hm => ?_, g3⟩
              obtain ⟨x, hx, e⟩ := List.mem_map.1 hm
              have := (g2 x hx).2
              omega
      obtain ⟨S, g1, g2, g3⟩ := key _ p (Nat.le_refl _) hp
      have g4 : (S.map lst).Nodup := by
        rw [List.nodup_iff_pairwise_ne, List.pairwise_iff_getElem]
        intro i j hi hj hij e
        simp at hi hj e
        have e2 := HF.out.ways.inj (g2 _ (List.getElem_mem hi)).1 (g2 _ (List.getElem_mem hj)).1 e
        rw [List.nodup_iff_pairwise_ne, List.pairwise_iff_getElem] at g3
        have := g3 i j (by simpa using hi) (by simpa using hj) hij
        simp [e2] at this
      have g5 := nodup_le n (S.map lst) g4 (fun x hx => by
        obtain ⟨q, hq, rfl⟩ := List.mem_map.1 hx
        exact (HF.out.bef.par q (g2 q hq).1).1)
      rw [List.length_map] at g5
      omega)
    have hto : (0 : Int) ≤ (lst p : Nat) := by omega
    clear hz hzm hst hp
    go_wp2_with fail
    go_loopw [10, 11] (fun s i wl => StepRel P p w3 s i wl) (fun s i _ => p.length - slLen s)
    case atStart => exact ⟨p, [], rfl, HP.out, by simp, HST.out, HBN.out⟩
    case round =>
      obtain ⟨q, r, rfl, hq, hpq, hs, hB⟩ := hrel
      obtain ⟨SA, scap, hsv⟩ := own_slice hs
      have hrl : (zi (lst q :: r).reverse).length = r.length + 1 := by rw [zi_length, List.length_reverse]; simp
      rw [hrl] at hsv
      subst hsv
      obtain ⟨h1, h2, h3⟩ := HF.out.step hq
      have c1 := (hB.cell (p := ⟨gb, lst q, none⟩) hgl).trans (HCELL.out (lst q) h1)
      rw [h2] at c1
      have hqne := HF.out.ways.ne q hq
      have hql : 0 < q.length := List.length_pos_iff.2 hqne
      have hpl : p.length = q.length + r.length := by rw [hpq, List.length_append]
      have hPN := HPN.out
      rcases h3 with ⟨h4, h5⟩ | ⟨q2, h4, h5, h6, h7, h8⟩
      · rw [h5] at c1
        have HE : Hid (OwnI wr w3.heap.size (.slice SA (r.length + 1) scap) (zi p.reverse)) := Lib.hid (by
          have e : p = lst q :: r := by rw [hpq]; conv => lhs; rw [h4]
                                        rfl
          rw [e]; exact hs)
        have HB5 := Lib.hid hB
        have heq : ((lst q : Int) != (lst q : Int)) = false := by simp
        have hlr : (zi p.reverse).length ≤ 1000000 := by rw [zi_length, List.length_reverse]; omega
        have HRV := Lib.hid (reverseP HE.out hlr)
        have HBG : Hid (∀ w5 : World, wr.grownBy w5 (Value.slice SA (r.length + 1) scap).ownBlock → Below w.heap.size w w5) := fun w5 hg =>
          HB3.out.trans ((hB.grown hg hB.size (fun j hj => (World.ownsRow.lt hs j hj).1)).mono hbs3)
        clear hs hB hpq h4 h5 hqne hpl hrl hlr h2
        go_wp2_with fail
        refine HRV.out.mono ?_; rintro e w5 ⟨rfl, g1, g2⟩
        have G1 : Hid (OwnI w5 w.heap.size (.slice SA (r.length + 1) scap) (zi p)) := Lib.hid (by
          have e : (zi p.reverse).reverse = zi p := by unfold zi; rw [List.map_reverse, List.reverse_reverse]
          rw [e] at g1; exact g1.base hbs3)
        have G2 := Lib.hid (HBG.out w5 g2)
        clear g1 g2 HBG
        go_wp2_with fail
        go_ret
        exact WayPost.mk _ p rfl G1.out HW.out G2.out
      · rw [h6] at c1
        obtain ⟨a, ha⟩ : ∃ a, lst q = a := ⟨_, rfl⟩
        obtain ⟨b, hb⟩ : ∃ b, lst q2 = b := ⟨_, rfl⟩
        rw [ha] at c1 hs h1 h5 h7 ⊢
        rw [hb] at c1 h7
        have hne : ((b : Int) != (a : Int)) = true := by simp; omega
        have hown : wr.ownsRow w3.heap.size 3 1 (.slice SA (r.length + 1) scap) (r.length + 1) (iv (zi (a :: r).reverse)) := by
          have := hs; unfold OwnI at this
          have e : (zi (a :: r).reverse).length = r.length + 1 := by rw [zi_length, List.length_reverse]; simp
          rw [e] at this; exact this
        have HOW := Lib.hid hown
        have hbs := hB.size
        have HL1 : Hid (r.length + 1 + 1 ≤ maxLen) := Lib.hid (by unfold maxLen; omega)
        have HL2 : Hid ((r.length + 1 + 1) * 8 ≤ 140737488355328) := Lib.hid (by omega)
        have HL3 : Hid (w3.heap.size ≤ (wr.alloc (.cells #[.int .i64 (b : Int)] 3)).heap.size) := Lib.hid (by simp; omega)
        have HBG : Hid (∀ w2 : World, (wr.alloc (.cells #[.int .i64 (b : Int)] 3)).grownBy w2 (Value.slice SA (r.length + 1) scap).ownBlock → Below w3.heap.size w3 w2 ∧ w2.cell? ⟨gb, a, none⟩ = some (.int .i64 (b : Int))) := fun w2 hg => by
          have h9 := (hB.alloc hbs (.cells #[.int .i64 (b : Int)] 3)).grown hg (by simp; omega) (fun j hj => (hown.lt j hj).1)
          refine ⟨h9, (h9.cell (p := ⟨gb, a, none⟩) hgl).trans ?_⟩
          have h10 := (hB.cell (p := ⟨gb, a, none⟩) hgl).symm.trans c1
          exact h10
        have HPQ : Hid (p = q2 ++ (a :: r)) := Lib.hid (by rw [hpq, h5]; simp)
        have HQ2 := Lib.hid h4
        have HB2 := Lib.hid hb
        have hq2l : 0 < q2.length := List.length_pos_iff.2 (HF.out.ways.ne q2 h4)
        have hrp : r.length + 2 ≤ p.length := by omega
        clear hs hB hpq h4 h5 hqne hpl hrl h2 hown hb ha hq h6 h7 h8 hbs hPN hq2l
        go_wp2_with (at_builtin; refine wpList_append_own _ rfl _ _ 33 rfl w3.heap.size 3 i0 (.int .i64 0) 1 8 Tryz.underlying33 hi hz0 hz1 hz2 rfl (by decide) _ _ _ rfl (World.ownsRow.alloc HOW.out _) ⟨wr.heap.size, 0, none⟩ 1 1 [.int .i64 (b : Int)] rfl rfl (cell_one_new _ _ _) (by simp [Value.oneCell']) HL1.out HL2.out HL3.out ?_; intro v' w4 hown' hgrow _; obtain ⟨g', cap', rfl⟩ := own_succ hown'; obtain ⟨hb4, hc4⟩ := HBG.out w4 hgrow; replace hown' := Lib.hid hown'; replace hb4 := Lib.hid hb4; clear hgrow)
        go_roundw
        case rel => exact ⟨q2, a :: r, by rw [HB2.out], HQ2.out, HPQ.out, by
          rw [HB2.out]
          have e : (b :: a :: r).reverse = (a :: r).reverse ++ [b] := List.reverse_cons
          have e2 : (zi (a :: r).reverse).length = r.length + 1 := by rw [zi_length, List.length_reverse]; simp
          rw [e, zi_append]; unfold OwnI; rw [List.length_append, iv_append, e2]; exact hown'.out, hb4.out⟩
        case measure => simp [slLen]; omega
end Go.Proofs.YtmnhnighlgpjmaaGreat
