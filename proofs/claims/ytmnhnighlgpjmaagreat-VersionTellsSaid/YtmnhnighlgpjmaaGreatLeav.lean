/-
  The program's leaving.
-/
import Derived.Test.YtmnhnighlgpjmaaGreatLeavA
namespace Go.Proofs.YtmnhnighlgpjmaaGreat
set_option linter.unusedVariables false
set_option linter.unusedSimpArgs false
open Go.RowKit

theorem DfsAt.drewN {w : World} {base gs gt n : Nat} {lv sv : Value} {L S T : List Nat} {V : List Bool} (h : DfsAt w base gs gt n lv sv L S T V) (q : Nat) : DfsAt (w.drewN q) base gs gt n lv sv L S T V := ⟨h.l, h.s, h.b, h.t, h.als, h.alt, h.ast⟩
theorem below_drewN {B : Nat} {w w' : World} (h : Below B w w') (q : Nat) : Below B w (w'.drewN q) := ⟨h.os, h.tape, h.output, h.size, h.block⟩
def LeavPost (A : Arcs) (n : Nat) (w : World) (e : Ending) (w' : World) : Prop := ∃ u L, e = .returned u ∧ OwnI w' w.heap.size u (zi L) ∧ LeaveOk A n L ∧ Below w.heap.size w w'
theorem LeavPost.mk {A : Arcs} {n : Nat} {w w' : World} {e : Ending} (u : Value) (L : List Nat) (h1 : e = .returned u) (h2 : OwnI w' w.heap.size u (zi L)) (h3 : LeaveOk A n L) (h4 : Below w.heap.size w w') : LeavPost A n w e w' := ⟨u, L, h1, h2, h3, h4⟩
def LvRel0 (A : Arcs) (N : List (List Nat)) (n gs gt : Nat) (w0 : World) (lv sv i : Value) (wl : World) : Prop := ∃ (k : Nat) (L T : List Nat) (V : List Bool), i = .int .i64 k ∧ k ≤ n ∧ Dfs A N n L [] T V ∧ (∀ v, v < k → V.getD v false = true) ∧ DfsAt wl w0.heap.size gs gt n lv sv L [] T V ∧ Below w0.heap.size w0 wl
def LvRel (A : Arcs) (N : List (List Nat)) (n gs gt k : Nat) (w0 : World) (g : Nat) (lv sv : Value) (wl : World) : Prop := ∃ (L S T : List Nat) (V : List Bool), g = dfsLeft N n T S ∧ Dfs A N n L S T V ∧ (∀ v, v < k + 1 → V.getD v false = true) ∧ DfsAt wl w0.heap.size gs gt n lv sv L S T V ∧ Below w0.heap.size w0 wl
theorem seen_set {V : List Bool} {k x : Nat} (h : ∀ v, v < k → V.getD v false = true) (hx : x < V.length) : ∀ v, v < k → (V.set x true).getD v false = true := fun v hv => by
  by_cases e : x = v
  · subst e; exact getD_set_self _ _ _ _ hx
  · rw [getD_set_ne _ _ _ _ _ e]; exact h v hv

set_option maxRecDepth 100000 in
set_option maxHeartbeats 8000000 in
theorem leavP (v : Value) (N : List (List Nat)) (A : Arcs) (n : Nat) (w : World) (hN : Succ n N) (hA : ∀ v, v < n → ∀ w, w ∈ N.getD v [] ↔ (v, w) ∈ A) (hL : ∀ v, (N.getD v []).length ≤ 1000000) (hn : n ≤ 900) (hr : LRow w w.heap.size v (N.map zi)) :
    Calls Tryz.prog 80 #[v] w (LeavPost A n w) := by
  obtain ⟨i0, hi, hz0, hz1, hz2⟩ := info_parts infoI
  obtain ⟨AN, capN, hv, hrd⟩ := hr.rd hN.len
  subst hv
  obtain ⟨w1, hmk1, hown1, hb1⟩ := run_mkB w n (by omega)
  obtain ⟨w2, hmk2, hown2, hb2⟩ := run_mkI w1 n (by omega)
  have hb12 := hb1.trans (hb2.mono hb1.size)
  have hst : DfsAt w2 w.heap.size w.heap.size w1.heap.size n (.slice none 0 0) (.slice none 0 0) [] [] (List.replicate n 0) (List.replicate n false) := by
    refine ⟨OwnI.nil _ _, OwnI.nil _ _, hown1.below hb2, ?_, fun k hk => by simp [Value.ownBlock] at hk, by simp [Value.ownBlock], by simp [Value.ownBlock]⟩
    have e : zi (List.replicate n 0) = List.replicate n 0 := by simp [zi]
    rw [e]
    exact hown2.base hb1.size
  obtain ⟨gt, hgt⟩ : ∃ gt, w1.heap.size = gt := ⟨_, rfl⟩
  rw [hgt] at hst
  have hmk2' := hmk2
  rw [hgt] at hmk2'
  have HRD := Lib.hid hrd
  have HN := Lib.hid hN
  have HA := Lib.hid hA
  have HLN := Lib.hid hL
  have HST := Lib.hid hst
  have HB2 := Lib.hid hb12
  clear hr hrd hN hA hL hst hb12 hb1 hb2 hown1 hown2 hmk2 hgt
  go_enter Tryz.func80, Tryz.ntmps80
  go_wp2_with fail
  clear hmk1 hmk2'
  go_loopw [3, 4, 18] (fun lv sv i wl => LvRel0 A N n w.heap.size gt w lv sv i wl) (fun _ _ i _ => n - (intOf i).toNat)
  case atStart => exact ⟨0, [], _, _, rfl, by omega, Dfs.start A N n, fun v hv => by omega, HST.out, HB2.out⟩
  case round =>
    obtain ⟨k, L, T, V, rfl, hk, hD, hV, hat, hB⟩ := hrel
    obtain ⟨rl, rfl⟩ : ∃ x, x = u3 := ⟨_, rfl⟩
    obtain ⟨rs, rfl⟩ : ∃ x, x = u4 := ⟨_, rfl⟩
    have hVl := hD.vl
    by_cases hlt : k < n
    · have cV := hat.b.cell k (by omega)
      have hbs := hB.size
      obtain ⟨b, hb⟩ : ∃ b, V.getD k false = b := ⟨_, rfl⟩
      have hb' : V[k]'(by omega) = b := by rw [← hb, List.getD_eq_getElem?_getD, List.getElem?_eq_getElem (by omega)]; rfl
      rw [hb'] at cV
      clear hb'
      cases b
      · -- a root
        have hD2 := hD.root hlt hb
        have hV2 : ∀ v, v < k + 1 → (V.set k true).getD v false = true := fun v hv => by
          by_cases e : v = k
          · subst e; exact getD_set_self _ _ _ _ (by omega)
          · exact seen_set hV (by omega) v (by omega)
        have hat2 := hat.see k (by omega)
        have hBs := hB.setCell (p := ⟨w.heap.size, k, none⟩) (Nat.le_refl _) (.bool true)
        have hsz : (wr.setCell ⟨w.heap.size, k, none⟩ (.bool true)).heap.size = wr.heap.size := by simp [World.setCell]
        have f1 : wr.frozen? ⟨w.heap.size, k, none⟩ = false := by
          have h1 := hat.b
          unfold OwnB at h1
          rw [hVl] at h1
          exact own_free h1 k
        have HPS := Lib.hid (fun (v' : Value) (w2 : World) h1 h2 h3 => hat2.pushS (w0 := w) (v' := v') (w2 := w2) k (.cells #[.int .i64 (k : Int)] 3) h1 h2 h3 hBs (by rw [hsz]; exact hbs))
        have HOW : Hid ((wr.setCell ⟨w.heap.size, k, none⟩ (.bool true)).ownsRow w.heap.size 3 1 rs 0 (iv (zi []))) := hat2.s
        have HL3 : Hid (w.heap.size ≤ ((wr.setCell ⟨w.heap.size, k, none⟩ (.bool true)).alloc (.cells #[.int .i64 (k : Int)] 3)).heap.size) := Lib.hid (by simp; omega)
        have HD2 := Lib.hid hD2
        have HV2 := Lib.hid hV2
        clear hat hB hD hV hD2 hV2 hat2 hBs hsz hb
        obtain ⟨wo, rfl⟩ : ∃ wo : World, wo = wr := ⟨_, rfl⟩
        obtain ⟨W, hW⟩ : ∃ W, wo.setCell ⟨w.heap.size, k, none⟩ (.bool true) = W := ⟨_, rfl⟩
        rw [hW] at HPS HOW HL3
        go_wp2_with (at_builtin; refine wpList_append_own_at _ rfl _ _ 33 rfl w.heap.size 3 i0 (.int .i64 0) 1 8 Tryz.underlying33 hi hz0 hz1 hz2 rfl (by decide) _ _ _ rfl (World.ownsRow.alloc HOW.out _) ⟨W.heap.size, 0, none⟩ 1 1 [.int .i64 (k : Int)] rfl rfl (cell_one_new _ _ _) (by simp [Value.oneCell']) (by decide) (by decide) HL3.out ?_; intro v' w4 hown' hgrow _ hat; obtain ⟨g', cap', rfl⟩ := own_succ hown'; obtain ⟨hp1, hp2⟩ := HPS.out _ w4 hown' hgrow hat; replace hp1 := Lib.hid hp1; replace hp2 := Lib.hid hp2; clear hown' hgrow hat)
        go_loopg [3, 4] (dfsLeft N n T [k]) (fun g lv sv wl => LvRel A N n w.heap.size gt k w g lv sv wl)
        case atStart => exact ⟨L, [k], T, _, rfl, HD2.out, HV2.out, hp1.out, hp2.out⟩
        case round =>
          obtain ⟨L2, S2, T2, V2, hg, hD, hV, hat, hB⟩ := hrel
          obtain ⟨rl2, rfl⟩ : ∃ x, x = u3 := ⟨_, rfl⟩
          obtain ⟨rs2, rfl⟩ : ∃ x, x = u4 := ⟨_, rfl⟩
          have hlens := hD.len
          have hbs2 := hB.size
          have hTl := hD.tl
          have hVl2 := hD.vl
          have HG := Lib.hid hg
          clear hg
          rcases List.eq_nil_or_concat S2 with hS | ⟨S3, x, hS⟩
          · subst hS
            obtain ⟨SA, scap, hsv⟩ := own_slice hat.s
            subst hsv
            have HR : Hid (LvRel0 A N n w.heap.size gt w rl2 (.slice SA 0 scap) (.int .i64 ((k + 1 : Nat) : Int)) wr) := ⟨k + 1, L2, T2, V2, rfl, by omega, hD, hV, hat, hB⟩
            have hz : (zi ([] : List Nat)).length = 0 := rfl
            rw [hz]
            clear hat hB hD hV
            go_wp2_with fail
            go_roundw
            case rel => exact HR.out
            case measure => simp [intOf]; omega
          · rw [List.concat_eq_append] at hS
            subst hS
            obtain ⟨m, hm⟩ : ∃ m, S3.length = m := ⟨_, rfl⟩
            have hzl : (zi (S3 ++ [x])).length = m + 1 := by rw [zi_length, List.length_append, hm]; rfl
            obtain ⟨SA, scap, hsv⟩ := own_slice hat.s
            rw [hzl] at hsv
            subst hsv
            obtain ⟨gS, rfl, cS⟩ := own_rd hat.s m (by rw [hzl]; omega)
            have hxx : (zi (S3 ++ [x]))[m]'(by rw [hzl]; omega) = (x : Int) := by
              subst hm; simp [zi]
            rw [hxx] at cS
            have hxn : x < n := hD.lt x (by simp)
            rw [List.length_append, hm] at hlens
            have cT := hat.t.cell x (by rw [zi_length]; omega)
            have hTx : (zi T2)[x]'(by rw [zi_length]; omega) = ((T2.getD x 0 : Nat) : Int) := by
              simp [zi, List.getD_eq_getElem?_getD, show x < T2.length by omega]
            rw [hTx] at cT
            obtain ⟨b, off, uv, A2, cap2, rfl, hbn, hun, rfl, hin⟩ := HRD.out x hxn
            have cn := (hB.cell (p := ⟨b, off + x, none⟩) hbn).trans hun
            have hle := hD.le x hxn
            have hnl := HLN.out x
            obtain ⟨t, ht⟩ : ∃ t, T2.getD x 0 = t := ⟨_, rfl⟩
            have HIN := Lib.hid hin
            obtain ⟨q, hq⟩ : ∃ q, (N.getD x []).length = q := ⟨_, rfl⟩
            rw [hq] at cn hle hnl
            rw [ht] at cT hle
            have w1 : IntKind.i64.wrap ((m : Int) + 1 - 1) = m := by rw [IntWalk.i64_in _ (by omega)]; omega
            have w2 : (m : Int) + 1 - 1 = m := by omega
            have w3 : IntKind.i64.wrap (m : Int) = m := IntWalk.i64_in _ (by omega)
            have w4 : (0 : Int) ≤ m := by omega
            have w5 : (m : Int) < (m : Int) + 1 := by omega
            have w6 : decide ((0 : Int) < (m : Int) + 1) = true := by rw [decide_eq_true_iff]; omega
            have w7 : decide ((m : Int) + 1 > 0) = true := by rw [decide_eq_true_iff]; omega
            have hx0 : (0 : Int) ≤ x := by omega
            have hxi : (x : Int) < n := by omega
            by_cases htq : t = q
            · -- the node is left
              have e1 : ((t : Int) == (q : Int)) = true := by simp [htq]
              have hD2 := hD.pop (fun u hu y hy => (HA.out u hu y).2 hy) (by rw [ht, hq]; exact htq)
              obtain ⟨hpop, hpe, hpc, hpm⟩ := own_pop (l := zi S3) (x := (x : Int)) (by have := hat.s; rw [zi_append] at this; exact this)
              have HAT := Lib.hid hat
              have HBB := Lib.hid hB
              have HPO : Hid (∀ (u : Value) (wz : World), DfsAt wz w.heap.size w.heap.size gt n u (.slice (some ⟨gS, 0, none⟩) (m + 1) scap) (L2 ++ [x]) (S3 ++ [x]) T2 V2 → DfsAt wz w.heap.size w.heap.size gt n u (.slice (some ⟨gS, 0, none⟩) m scap) (L2 ++ [x]) S3 T2 V2) := fun u wz h => by
                have h1 := (own_pop (l := zi S3) (x := (x : Int)) (by have := h.s; rw [zi_append] at this; exact this)).1
                exact ⟨h.l, h1, h.b, h.t, h.als, h.alt, h.ast⟩
              have HD2 := Lib.hid hD2
              have HV2 := Lib.hid hV
              have HMS : Hid (dfsLeft N n T2 S3 < gk) := Lib.hid (by rw [HG.out]; unfold dfsLeft; rw [List.length_append]; simp)
              have hw8 : ¬ scap < m := by omega
              have hw9 : m ≤ scap := by omega
              clear hat hB hD hV hD2 hpop hpe ht hq hin hun hm hzl hxx hTx htq
              go_wp2_with fail
              go_quiet (fail)
              have hat := HAT.out.drewN nq
              have hB := below_drewN HBB.out nq
              generalize wr.drewN nq = wq at *
              have hbs3 := hB.size
              have HPL := Lib.hid (fun (v' : Value) (w2 : World) h1 h2 h3 => hat.pushL (w0 := w) (v' := v') (w2 := w2) x (.cells #[.int .i64 (x : Int)] 3) h1 h2 h3 hB hbs3)
              have HOW : Hid (wq.ownsRow w.heap.size 3 1 rl2 L2.length (iv (zi L2))) := by have := hat.l; unfold OwnI at this; rw [zi_length] at this; exact this
              have HL1 : Hid (L2.length + 1 ≤ maxLen) := Lib.hid (by unfold maxLen; omega)
              have HL2 : Hid ((L2.length + 1) * 8 ≤ 140737488355328) := Lib.hid (by omega)
              have HL3 : Hid (w.heap.size ≤ (wq.alloc (.cells #[.int .i64 (x : Int)] 3)).heap.size) := Lib.hid (by simp; omega)
              clear hat hB hbs3 HAT HBB
              go_wp2_with (at_builtin; refine wpList_append_own_at _ rfl _ _ 33 rfl w.heap.size 3 i0 (.int .i64 0) 1 8 Tryz.underlying33 hi hz0 hz1 hz2 rfl (by decide) _ _ _ rfl (World.ownsRow.alloc HOW.out _) ⟨wq.heap.size, 0, none⟩ 1 1 [.int .i64 (x : Int)] rfl rfl (cell_one_new _ _ _) (by simp [Value.oneCell']) HL1.out HL2.out HL3.out ?_; intro v' w4 hown' hgrow _ hat; obtain ⟨g2', cap2', rfl⟩ := own_succ hown'; obtain ⟨hq1, hq2⟩ := HPL.out _ w4 hown' hgrow hat; replace hq1 := Lib.hid (HPO.out _ _ hq1); replace hq2 := Lib.hid hq2; clear hown' hgrow hat)
              go_roundg (dfsLeft N n T2 S3)
              case rel => exact ⟨L2 ++ [x], S3, T2, V2, rfl, HD2.out, HV2.out, hq1.out, hq2.out⟩
              case measure => exact HMS.out
            · -- one more arc
              have e1 : ((t : Int) == (q : Int)) = false := by simp; omega
              have htq2 : t < q := by omega
              obtain ⟨b2, off2, rfl, hb2n, hcs⟩ := HIN.out (by rw [hq]; omega)
              have htl : t < (N.getD x []).length := by rw [hq]; exact htq2
              have c2 := (hB.cell (p := ⟨b2, off2 + t, none⟩) hb2n).trans (hcs t htl)
              have hym := List.getElem_mem htl
              have hyn := HN.out.get _ hym
              have hyA := (HA.out x hxn _).1 hym
              have hyg : (N.getD x []).getD t 0 = (N.getD x [])[t] := by rw [List.getD_eq_getElem?_getD, List.getElem?_eq_getElem htl]; rfl
              obtain ⟨y, hy⟩ : ∃ y, (N.getD x [])[t] = y := ⟨_, rfl⟩
              rw [hy] at c2 hyn hyA hyg
              have HAT := Lib.hid hat
              have HBB := Lib.hid hB
              have HD1 := Lib.hid hD
              have HV2 := Lib.hid hV
              have HTX := Lib.hid ht
              have HQQ := Lib.hid hq
              have HYG := Lib.hid hyg
              have htB : (t : Int) < q := by omega
              have ht0 : (0 : Int) ≤ t := by omega
              have htw : IntKind.i64.wrap ((t : Int) + 1) = (t : Int) + 1 := IntWalk.i64_in _ (by omega)
              have hy0 : (0 : Int) ≤ y := by omega
              have hyi : (y : Int) < n := by omega
              clear hat hB hD hV ht hq hin hun hm hzl hxx hTx htq hcs hym hyg hy htl
              go_wp2_with fail
              go_quiet (fail)
              have d1 : (wr.drewN nq).cell? ⟨gt, x, none⟩ = some (.int .i64 (t : Int)) := cT
              have d2 : (wr.drewN nq).cell? ⟨b, off + x, none⟩ = some (.slice (some ⟨b2, off2, none⟩) q cap2) := cn
              have d3 : (wr.drewN nq).cell? ⟨b2, off2 + t, none⟩ = some (.int .i64 (y : Int)) := c2
              have hat := HAT.out.drewN nq
              have hB := below_drewN HBB.out nq
              generalize wr.drewN nq = wq at *
              replace HAT := Lib.hid hat
              replace HBB := Lib.hid hB
              clear cT cn c2 cS hat hB
              go_wp2_with fail
              go_quiet (fail)
              have d4 : (wq.drewN nq).cell? ⟨gt, x, none⟩ = some (.int .i64 (t : Int)) := d1
              have hat := HAT.out.drewN nq
              have hB := below_drewN HBB.out nq
              generalize wq.drewN nq = wz at *
              have hTl2 := HD1.out.tl
              have hVl3 := HD1.out.vl
              have f1 : wz.frozen? ⟨gt, x, none⟩ = false := by
                have h1 := hat.t
                unfold OwnI at h1
                rw [zi_length, hTl2] at h1
                exact own_free h1 x
              have hat2 := hat.take x (t + 1) (by omega)
              have hB2 := hB.setCell (p := ⟨gt, x, none⟩) hat.gst.2.2 (.int .i64 ((t + 1 : Nat) : Int))
              have cy := hat2.b.cell y (by omega)
              obtain ⟨bo, hbo⟩ : ∃ b, V2.getD y false = b := ⟨_, rfl⟩
              have hbo' : V2[y]'(by omega) = bo := by rw [← hbo, List.getD_eq_getElem?_getD, List.getElem?_eq_getElem (by omega)]; rfl
              rw [hbo'] at cy
              have fy : (wz.setCell ⟨gt, x, none⟩ (.int .i64 ((t + 1 : Nat) : Int))).frozen? ⟨w.heap.size, y, none⟩ = false := by
                have h1 := hat2.b
                unfold OwnB at h1
                rw [hVl3] at h1
                exact own_free h1 y
              have hcast : ((t + 1 : Nat) : Int) = (t : Int) + 1 := by omega
              have hsz2 : (wz.setCell ⟨gt, x, none⟩ (.int .i64 ((t + 1 : Nat) : Int))).heap.size = wz.heap.size := by simp [World.setCell]
              have hbs3 := hB.size
              clear hbo' d1 d2 d3 HAT HBB
              cases bo
              · -- not seen
                have hD2 := HD1.out.push (w := y) (by rw [HTX.out, HQQ.out]; exact htq2) (by rw [HTX.out]; exact HYG.out) hyn hbo hyA
                rw [HTX.out] at hD2
                have hat3 := hat2.see y (by omega)
                have hB3 := hB2.setCell (p := ⟨w.heap.size, y, none⟩) (Nat.le_refl _) (.bool true)
                have HV3 : Hid (∀ v, v < k + 1 → (V2.set y true).getD v false = true) := seen_set HV2.out (by omega)
                have HD2 := Lib.hid hD2
                have HMS : Hid (dfsLeft N n (T2.set x (t + 1)) (S3 ++ [x] ++ [y]) < gk) := Lib.hid (by
                  have h1 := dfsLeft_take N n T2 (S3 ++ [x]) x hxn hTl2 (by rw [HTX.out, HQQ.out]; exact htq2)
                  rw [HTX.out] at h1
                  rw [HG.out]
                  have h5 : (S3 ++ [x] ++ [y]).length = (S3 ++ [x]).length + 1 := by rw [List.length_append]; rfl
                  unfold dfsLeft at h1 ⊢
                  omega)
                obtain ⟨W3, hW3⟩ : ∃ W3, (wz.setCell ⟨gt, x, none⟩ (.int .i64 ((t + 1 : Nat) : Int))).setCell ⟨w.heap.size, y, none⟩ (.bool true) = W3 := ⟨_, rfl⟩
                have hs3 : W3.heap.size = wz.heap.size := by rw [← hW3]; simp [World.setCell]
                rw [hW3] at hat3 hB3
                have HPS := Lib.hid (fun (v' : Value) (w2 : World) h1 h2 h3 => hat3.pushS (w0 := w) (v' := v') (w2 := w2) y (.cells #[.int .i64 (y : Int)] 3) h1 h2 h3 hB3 (by rw [hs3]; exact hbs3))
                have hSl : (S3 ++ [x]).length = m + 1 := by
                  have h1 := hat3.s
                  rcases h1.form with ⟨hv, _⟩ | ⟨_, _, _, hv, _⟩
                  · cases hv
                  · injection hv with _ h2 _
                    rw [zi_length] at h2; omega
                have HOW : Hid (W3.ownsRow w.heap.size 3 1 (.slice (some ⟨gS, 0, none⟩) (m + 1) scap) (m + 1) (iv (zi (S3 ++ [x])))) := by have := hat3.s; unfold OwnI at this; rw [zi_length, hSl] at this; exact this
                have HPS2 : Hid (∀ (v' : Value) (w2 : World), w2.ownsRow w.heap.size 3 1 v' (m + 1 + 1) (iv (zi (S3 ++ [x])) ++ [.int .i64 (y : Int)]) → (W3.alloc (.cells #[.int .i64 (y : Int)] 3)).grownBy w2 (Value.slice (some ⟨gS, 0, none⟩) (m + 1) scap).ownBlock → (v'.ownBlock = (Value.slice (some ⟨gS, 0, none⟩) (m + 1) scap).ownBlock ∨ v'.ownBlock = some (W3.alloc (.cells #[.int .i64 (y : Int)] 3)).heap.size) → DfsAt w2 w.heap.size w.heap.size gt n rl2 v' L2 (S3 ++ [x] ++ [y]) (T2.set x (t + 1)) (V2.set y true) ∧ Below w.heap.size w w2) := fun v' w2 h1 h2 h3 => HPS.out v' w2 (by rw [hSl]; exact h1) h2 h3
                have HL1 : Hid (m + 1 + 1 ≤ maxLen) := Lib.hid (by unfold maxLen; omega)
                have HL2 : Hid ((m + 1 + 1) * 8 ≤ 140737488355328) := Lib.hid (by omega)
                have HL3 : Hid (w.heap.size ≤ (W3.alloc (.cells #[.int .i64 (y : Int)] 3)).heap.size) := Lib.hid (by simp; omega)
                clear hat hB hat2 hB2 hat3 hB3 hbo hD2 hSl hs3 HPS hsz2 hbs3 hTl hVl hVl2 hTl2 hVl3 hbs hbs2
                rw [hcast] at cy fy hW3
                clear hcast
                go_wp2_with (at_builtin; refine wpList_append_own_at _ rfl _ _ 33 rfl w.heap.size 3 i0 (.int .i64 0) 1 8 Tryz.underlying33 hi hz0 hz1 hz2 rfl (by decide) _ _ _ rfl (World.ownsRow.alloc HOW.out _) ⟨W3.heap.size, 0, none⟩ 1 1 [.int .i64 (y : Int)] rfl rfl (cell_one_new _ _ _) (by simp [Value.oneCell']) HL1.out HL2.out HL3.out ?_; intro v' w4 hown' hgrow _ hat; obtain ⟨g2', cap2', rfl⟩ := own_succ hown'; obtain ⟨hq1, hq2⟩ := HPS2.out _ w4 hown' hgrow hat; replace hq1 := Lib.hid hq1; replace hq2 := Lib.hid hq2; clear hown' hgrow hat)
                go_roundg (dfsLeft N n (T2.set x (t + 1)) (S3 ++ [x] ++ [y]))
                case rel => exact ⟨L2, S3 ++ [x] ++ [y], _, _, rfl, HD2.out, HV3.out, hq1.out, hq2.out⟩
                case measure => exact HMS.out
              · -- seen
                have hD2 := HD1.out.skip (by rw [HTX.out, HQQ.out]; exact htq2) (by rw [HTX.out, HYG.out]; exact hyn) (by rw [HTX.out, HYG.out]; exact hbo)
                rw [HTX.out] at hD2
                have HD2 := Lib.hid hD2
                have HA2 := Lib.hid hat2
                have HB3 := Lib.hid hB2
                have HMS : Hid (dfsLeft N n (T2.set x (t + 1)) (S3 ++ [x]) < gk) := Lib.hid (by
                  have h1 := dfsLeft_take N n T2 (S3 ++ [x]) x hxn hTl2 (by rw [HTX.out, HQQ.out]; exact htq2)
                  rw [HTX.out] at h1
                  rw [HG.out]
                  omega)
                clear hat hB hat2 hB2 hbo hD2 hsz2 hbs3
                rw [hcast] at cy fy HA2 HB3
                clear hcast
                go_wp2_with fail
                go_roundg (dfsLeft N n (T2.set x (t + 1)) (S3 ++ [x]))
                case rel => exact ⟨L2, S3 ++ [x], _, V2, rfl, HD2.out, HV2.out, HA2.out, HB3.out⟩
                case measure => exact HMS.out
      · have HR : Hid (LvRel0 A N n w.heap.size gt w rl rs (.int .i64 ((k + 1 : Nat) : Int)) wr) := ⟨k + 1, L, T, V, rfl, by omega, hD, fun v hv => by
          by_cases e : v = k
          · subst e; exact hb
          · exact hV v (by omega), hat, hB⟩
        clear hat hB hD hV hb
        go_wp2_with fail
        go_roundw
        case rel => exact HR.out
        case measure => simp [intOf]; omega
    · have hkn : k = n := by omega
      have HF := Lib.hid (hD.ok (by rw [← hkn]; exact hV))
      have HO := Lib.hid hat.l
      have HB3 := Lib.hid hB
      have hge : ¬ ((k : Int) < n) := by omega
      clear hkn hat hB hD hV
      go_wp2_with fail
      go_ret
      exact LeavPost.mk _ L rfl HO.out HF.out HB3.out
end Go.Proofs.YtmnhnighlgpjmaaGreat
