/-
  The reference's Parts.
-/
import Derived.Test.YtcljgpgdbjpemaaRefMat
import Derived.Test.YtcljgpgdbjpemaaWhere
namespace Go.Proofs.Ytcljgpgdbjpemaa
set_option linter.unusedVariables false
set_option linter.unusedSimpArgs false
open Go.RowKit

def Q1Rel (A : Arcs) (N g : Nat) (w7 : World) (c : Nat) (ov lv : Value) (wl : World) : Prop := ∃ (D : List Nat) (L : List (List Nat)) (T : List Bool), c = N - D.length ∧ lv = .int .i64 ((N : Int) - D.length) ∧ QSt A N g w7 D L T ov wl
def Q2Rel (A : Arcs) (N g m : Nat) (w7 : World) (D : List Nat) (L : List (List Nat)) (T : List Bool) (ov lv o2 l2 i : Value) (wl : World) : Prop := ∃ v : Nat, o2 = ov ∧ l2 = lv ∧ i = .int .i64 v ∧ v ≤ m ∧ QSt A N g w7 D L T ov wl
def Q3Rel (A : Arcs) (N g v bp : Nat) (w7 : World) (D : List Nat) (L : List (List Nat)) (T : List Bool) (ov rv pv i : Value) (wl : World) : Prop := ∃ k : Nat, i = .int .i64 k ∧ k ≤ N ∧ rv = .bool (rb A D v k) ∧ OwnI wl bp pv (zi (pt A v k)) ∧ bp ≤ wl.heap.size ∧ ORow wl w7.heap.size bp ov L ∧ OwnB wl w7.heap.size (.slice (some ⟨g, 0, none⟩) N N) T ∧ Below w7.heap.size w7 wl
def Q5Rel (A : Arcs) (N g bp : Nat) (w7 : World) (D p : List Nat) (L : List (List Nat)) (ov pv i : Value) (wl : World) : Prop := ∃ (k : Nat) (T : List Bool), i = .int .i64 k ∧ k ≤ p.length ∧ T.length = N ∧ (∀ x, x < N → T.getD x false = (D.contains x || (p.take k).contains x)) ∧ OwnI wl bp pv (zi p) ∧ bp ≤ wl.heap.size ∧ ORow wl w7.heap.size bp ov L ∧ OwnB wl w7.heap.size (.slice (some ⟨g, 0, none⟩) N N) T ∧ Below w7.heap.size w7 wl
set_option maxRecDepth 100000 in
set_option maxHeartbeats 8000000 in
theorem refParts (n : Int) (v : Value) (l : List Sp) (w : World) (hn : n ≤ 900) (hl : l.length ≤ 1000) (hr : SRow w w.heap.size v l) :
    Calls Try.prog 15 #[.int .i64 n, v] w (LLPost (partsAny n l) w) := by
  have HRP := refRight n v l w w.heap.size hr
  cases hri : rightB n l with
  | false =>
    have HF : Hid (LLPost (partsAny n l) w (.returned (.slice none 0 0)) w) := Lib.hid ⟨_, rfl, by unfold partsAny; rw [if_neg (by rw [hri]; simp)]; exact lrow_nil _ _, Below.refl _ _⟩
    rw [hri] at HRP
    replace HRP := Lib.hid HRP
    clear hri hr
    go_enter Try.func15, Try.ntmps15
    go_wp2_with fail
    refine HRP.out.mono ?_; rintro e w1 ⟨rfl, rfl⟩
    go_wp2_with fail
    go_ret
    exact HF.out
  | true =>
    obtain ⟨N, rfl⟩ := right_nat hri
    obtain ⟨iM, hiM, hzM0, hzM1, hzM2⟩ := info_parts infoM
    obtain ⟨iI, hiI, hzI0, hzI1, hzI2⟩ := info_parts infoI
    obtain ⟨iL, hiL, hzL0, hzL1, hzL2⟩ := info_parts infoL
    have HRI : Hid (rightB (N : Int) l = true) := hri
    have HPE : Hid (partsAny (N : Int) l = partsOf (toA l) N) := Lib.hid (by unfold partsAny; rw [if_pos hri, Int.toNat_natCast])
    rw [hri] at HRP
    replace HRP := Lib.hid HRP
    have HR := Lib.hid hr
    have hN9 : N ≤ 900 := by omega
    have hN0 : (0 : Int) ≤ N := by omega
    clear hri hr hn
    go_enter Try.func15, Try.ntmps15
    go_wp2_with fail
    refine HRP.out.mono ?_; rintro e w1 ⟨rfl, rfl⟩
    clear HRP
    go_wp2_with fail
    go_loopw [5, 6] (fun s i wl => M1Rel (toA l) N w s i wl) (fun _ i _ => N - (intOf i).toNat)
    case atStart => exact ⟨0, rfl, by omega, ⟨[], World.ownsRow_nil _ _ _ _, fun i hi => by omega⟩, Below.refl _ _⟩
    case round =>
      obtain ⟨k, rfl, hk, hM, hB⟩ := hrel
      by_cases hlt : k < N
      · have HFP := Lib.hid (fromP N k _ l wr HRI.out hlt hN9 (HR.out.keep hB))
        have HM := Lib.hid hM
        have HB1 := Lib.hid hB
        have hkN : (k : Int) < N := by omega
        clear hM hB
        obtain ⟨w4, hw4⟩ : ∃ w4 : World, w4 = wr := ⟨_, rfl⟩
        subst hw4
        go_wp2_with fail
        refine HFP.out.mono ?_; rintro e w5 ⟨uu, R, rfl, hown, hRl, hRr, hb⟩
        obtain ⟨gv, cap, rfl, hgv, _⟩ := ownB_form hown hRl (by omega)
        have hbs := HB1.out.size
        have hM5 := HM.out.below hb
        have hbs5 := hb.size
        have hown5 : OwnB w5 w.heap.size (.slice (some ⟨gv, 0, none⟩) N cap) R := row_base hown hbs
        have hB5 := HB1.out.trans (hb.mono hbs)
        have hMa := hM5.below (below_new w5 (.cells #[.slice (some ⟨gv, 0, none⟩) N cap] 64))
        have howna : OwnB (w5.alloc (.cells #[.slice (some ⟨gv, 0, none⟩) N cap] 64)) w.heap.size (.slice (some ⟨gv, 0, none⟩) N cap) R := hown5.below (below_new w5 _)
        obtain ⟨us, hus, hus2⟩ := hMa
        have HUS := Lib.hid hus
        have HAP : Hid (∀ (v' : Value) (w2 : World), w2.ownsRow w.heap.size 64 1 v' (k + 1) (us ++ [.slice (some ⟨gv, 0, none⟩) N cap]) → (w5.alloc (.cells #[.slice (some ⟨gv, 0, none⟩) N cap] 64)).grownBy w2 u5.ownBlock → MRow (toA l) N w2 w.heap.size v' (k + 1) ∧ Below w.heap.size w w2) := Lib.hid (fun v' w2 h1 h2 => by
          refine ⟨MRow.push hus hus2 howna hRl hRr h2 h1, (hB5.alloc (Nat.le_trans hbs hbs5) _).grown h2 (by simp; omega) (fun j hj => (World.ownsRow.lt HUS.out j hj).1)⟩)
        have HL1 : Hid (k + 1 ≤ maxLen) := Lib.hid (by unfold maxLen; omega)
        have HL2 : Hid ((k + 1) * 24 ≤ 140737488355328) := Lib.hid (by omega)
        have HL3 : Hid (w.heap.size ≤ (w5.alloc (.cells #[.slice (some ⟨gv, 0, none⟩) N cap] 64)).heap.size) := Lib.hid (by simp; omega)
        clear hown hRl hRr hb hown5 hB5 howna hus hus2 hM5 HFP hbs hbs5
        go_wp2_with (at_builtin; refine wpList_append_own _ rfl _ _ 63 rfl w.heap.size 64 iM (.slice none 0 0) 1 24 Try.underlying63 hiM hzM0 hzM1 hzM2 rfl (by decide) _ _ _ rfl HUS.out ⟨w5.heap.size, 0, none⟩ 1 1 [.slice (some ⟨gv, 0, none⟩) N cap] rfl rfl (cell_one_new _ _ _) (by simp [Value.oneCell']) HL1.out HL2.out HL3.out ?_; intro v' w9 hown' hgrow _; obtain ⟨hq1, hq2⟩ := HAP.out v' w9 hown' hgrow; replace hq1 := Lib.hid hq1; replace hq2 := Lib.hid hq2; clear hown' hgrow)
        go_roundw
        case rel => exact ⟨k + 1, by go_num, by omega, hq1.out, hq2.out⟩
        case measure => simp [intOf]; omega
      · obtain rfl : N = k := by omega
        have HTB := Lib.hid hM.tab
        have HB7 := Lib.hid hB
        clear hM hB hk hlt
        obtain ⟨w7, hw7⟩ : ∃ w7 : World, w7 = wr := ⟨_, rfl⟩
        subst hw7
        obtain ⟨w8, hmk, hown, hb8⟩ := run_mkB w7 N (by omega)
        have HQ0 : Hid (QSt (toA l) N w7.heap.size w7 [] [] (List.replicate N false) (.slice none 0 0) w8) := Lib.hid ⟨Listed.nil _ _, ToCome.start _ _, by simp, fun x hx => by rw [List.getD_eq_getElem?_getD, List.getElem?_replicate, if_pos hx]; rfl, hown, ORow.nil _ _ _, hb8⟩
        clear hown hb8
        go_wp2_with fail
        clear hmk
        have HNL : Hid (((N : Int) - (([] : List Nat).length : Int)) = N) := Lib.hid (by simp)
        generalize hg7 : w7.heap.size = g at *
        go_loopg [8, 9] N (fun c ov lv wl => Q1Rel (toA l) N g w7 c ov lv wl)
        case atStart => exact ⟨[], [], _, by simp, by rw [HNL.out], by rw [← hg7] at HQ0 ⊢; exact HQ0.out⟩
        case round =>
          obtain ⟨D, L, T, rfl, rfl, S⟩ := hrel
          have hDN := nodup_le N D S.lis.nd S.lis.lt
          by_cases hd : D.length < N
          · obtain ⟨m, hmN, hfind, hready, hnot⟩ := S.find hd
            have hgt : (0 : Int) < (N : Int) - D.length := by omega
            have HTC := Lib.hid (S.tc.step hd hfind)
            have HLS := Lib.hid (S.lis.snoc hmN hready)
            have HNOT := Lib.hid hnot
            have HRDY := Lib.hid hready
            have HPT : Hid (pt (toA l) m N = partOf (toA l) N m) := Lib.hid rfl
            have HS := Lib.hid S
            clear S hnot hready hfind
            obtain ⟨w9, hw9⟩ : ∃ w9 : World, w9 = wr := ⟨_, rfl⟩
            subst hw9
            go_wp2_with fail
            go_loopw [8, 9, 10] (fun o2 l2 i wl => Q2Rel (toA l) N g m w7 D L T u8 (.int .i64 ((N : Int) - D.length)) o2 l2 i wl) (fun _ _ i _ => m + 1 - (intOf i).toNat)
            case atStart => exact ⟨0, rfl, rfl, rfl, by omega, HS.out⟩
            case round =>
              obtain ⟨v, rfl, rfl, rfl, hv, S⟩ := hrel
              have hvN : v < N := by omega
              have hvi : (v : Int) < N := by omega
              have cT := ownB_cell S.ot S.tl v hvN
              rw [S.td v hvN] at cT
              have HS2 := Lib.hid S
              have HRB0 : Hid (rb (toA l) D v 0 = !(D.contains v)) := Lib.hid (by simp [rb])
              obtain ⟨dv, hdv⟩ : ∃ b, D.contains v = b := ⟨_, rfl⟩
              rw [hdv] at cT HRB0
              have hgl := (World.ownsRow.lt S.ot g rfl).2
              clear S hdv
              obtain ⟨w10, hw10⟩ : ∃ w10 : World, w10 = wr := ⟨_, rfl⟩
              subst hw10
              go_wp2_with fail
              go_loopw [11, 12, 13] (fun rv pv i wl => Q3Rel (toA l) N g v w10.heap.size w7 D L T u8 rv pv i wl) (fun _ _ i _ => N - (intOf i).toNat)
              case atStart => exact ⟨0, rfl, by omega, by rw [HRB0.out], OwnI.nil _ _, Nat.le_refl _, HS2.out.oo, HS2.out.ot, HS2.out.bel⟩
              case round =>
                obtain ⟨k, rfl, hk, rfl, hp, hbp, hoo, hot, hB⟩ := hrel
                have hpl := pt_len (toA l) v k
                obtain ⟨FA, fcap, hfs⟩ := own_slice hp
                rw [zi_length] at hfs
                have hbs7 := hB.size
                by_cases hlt : k < N ∧ rb (toA l) D v k = true
                · obtain ⟨hkN, hrb⟩ := hlt
                  have hkNi : (k : Int) < N := by omega
                  obtain ⟨gr, gv, c, cap, rfl, hgr, hgv, cr, cv⟩ := HTB.out.rd v hvN
                  obtain ⟨gr2, gk, c3, cap3, es, _, hgk, cr2, ck⟩ := HTB.out.rd k hkN
                  injection es with es _ _
                  injection es with es
                  injection es with es _ _
                  subst es
                  have d1 := (hB.cell (p := ⟨gr, v, none⟩) hgr).trans cr
                  have d2 := (hB.cell (p := ⟨gr, k, none⟩) hgr).trans cr2
                  have d3 := (hB.cell (p := ⟨gv, k, none⟩) hgv).trans (cv k hkN)
                  have d4 := (hB.cell (p := ⟨gk, v, none⟩) hgk).trans (ck v hvN)
                  have d5 := ownB_cell hot HS2.out.tl k hkN
                  rw [HS2.out.td k hkN] at d5
                  have hrs := rb_succ (toA l) D v k
                  rw [hrb, Bool.true_and] at hrs
                  have hps := pt_succ (toA l) v k
                  obtain ⟨a, ha⟩ : ∃ b, reachB (toA l) v k = b := ⟨_, rfl⟩
                  obtain ⟨b, hb⟩ : ∃ b, reachB (toA l) k v = b := ⟨_, rfl⟩
                  obtain ⟨dk, hdk⟩ : ∃ b, D.contains k = b := ⟨_, rfl⟩
                  rw [ha] at d3 hrs hps
                  rw [hb] at d4 hrs hps
                  rw [hdk] at d5 hrs
                  rw [hrb]
                  clear cr cr2 cv ck ha hb hdk hrb
                  cases a with
                  | false =>
                    have HN1 : Hid (rb (toA l) D v (k + 1) = true) := Lib.hid (by rw [hrs]; rfl)
                    have HN2 : Hid (OwnI wr w10.heap.size u12 (zi (pt (toA l) v (k + 1)))) := Lib.hid (by rw [hps]; simpa using hp)
                    have HO := Lib.hid hoo
                    have HT := Lib.hid hot
                    have HB2 := Lib.hid hB
                    clear hrs hps hp hoo hot hB hfs
                    go_wp2_with fail
                    go_roundw
                    case rel => exact ⟨k + 1, by go_num, by omega, by rw [HN1.out], HN2.out, hbp, HO.out, HT.out, HB2.out⟩
                    case measure => simp [intOf]; omega
                  | true =>
                    cases b with
                    | false =>
                      have HN2 : Hid (OwnI wr w10.heap.size u12 (zi (pt (toA l) v (k + 1)))) := Lib.hid (by rw [hps]; simpa using hp)
                      have HO := Lib.hid hoo
                      have HT := Lib.hid hot
                      have HB2 := Lib.hid hB
                      cases dk with
                      | true =>
                        have HN1 : Hid (rb (toA l) D v (k + 1) = true) := Lib.hid (by rw [hrs]; rfl)
                        clear hrs hps hp hoo hot hB hfs
                        go_wp2_with fail
                        go_roundw
                        case rel => exact ⟨k + 1, by go_num, by omega, by rw [HN1.out], HN2.out, hbp, HO.out, HT.out, HB2.out⟩
                        case measure => simp [intOf]; omega
                      | false =>
                        have HN1 : Hid (rb (toA l) D v (k + 1) = false) := Lib.hid (by rw [hrs]; rfl)
                        clear hrs hps hp hoo hot hB hfs
                        go_wp2_with fail
                        go_roundw
                        case rel => exact ⟨k + 1, by go_num, by omega, by rw [HN1.out], HN2.out, hbp, HO.out, HT.out, HB2.out⟩
                        case measure => simp [intOf]; omega
                    | true =>
                      have HN1 : Hid (rb (toA l) D v (k + 1) = true) := Lib.hid (by rw [hrs]; rfl)
                      obtain ⟨Z, hZ⟩ : ∃ Z, pt (toA l) v k = Z := ⟨_, rfl⟩
                      rw [hZ] at hps hp hfs hpl
                      replace hps : pt (toA l) v (k + 1) = Z ++ [k] := by rw [hps]; rfl
                      subst hfs
                      have HOW : Hid (wr.ownsRow w10.heap.size 3 1 (.slice FA Z.length fcap) Z.length (iv (zi Z))) := Lib.hid (by have := hp; unfold OwnI at this; rw [zi_length] at this; exact this)
                      have HAP : Hid (∀ (v' : Value) (w4 : World), w4.ownsRow w10.heap.size 3 1 v' (Z.length + 1) (iv (zi Z) ++ [.int .i64 (k : Int)]) → (wr.alloc (.cells #[.int .i64 (k : Int)] 3)).grownBy w4 (Value.slice FA Z.length fcap).ownBlock → OwnI w4 w10.heap.size v' (zi (pt (toA l) v (k + 1))) ∧ ORow w4 w7.heap.size w10.heap.size u8 L ∧ OwnB w4 w7.heap.size (.slice (some ⟨g, 0, none⟩) N N) T ∧ Below w7.heap.size w7 w4 ∧ w10.heap.size ≤ w4.heap.size) := Lib.hid (fun v' w4 h1 h2 => by
                        have k0 := below_new wr (.cells #[.int .i64 (k : Int)] 3)
                        refine ⟨?_, (hoo.below k0).part (hp.below k0) (Nat.le_refl _) h2, (hot.below k0).kept h2 (.inr (fun e => own_ne HOW.out hgl e)), (hB.alloc hbs7 _).grown h2 (by simp; omega) (fun j hj => by have := (World.ownsRow.lt HOW.out j hj).1; have := HS2.out.bel.size; omega), by have := h2.size; simp at this; omega⟩
                        unfold OwnI
                        rw [hps, zi_append, List.length_append, zi_length, iv_append]; exact h1)
                      have HL1 : Hid (Z.length + 1 ≤ maxLen) := Lib.hid (by unfold maxLen; omega)
                      have HL2 : Hid ((Z.length + 1) * 8 ≤ 140737488355328) := Lib.hid (by omega)
                      have HL3 : Hid (w10.heap.size ≤ (wr.alloc (.cells #[.int .i64 (k : Int)] 3)).heap.size) := Lib.hid (by simp; omega)
                      have hx1 := (hB.cell (p := ⟨gr, v, none⟩) hgr)
                      have HDD : Hid (∀ w4, Below w7.heap.size w7 w4 → w4.cell? ⟨gr, v, none⟩ = some (.slice (some ⟨gv, 0, none⟩) N cap) ∧ w4.cell? ⟨gv, k, none⟩ = some (.bool true)) := Lib.hid (fun w4 h => ⟨by rw [h.cell (p := ⟨gr, v, none⟩) hgr, ← hB.cell (p := ⟨gr, v, none⟩) hgr]; exact d1, by rw [h.cell (p := ⟨gv, k, none⟩) hgv, ← hB.cell (p := ⟨gv, k, none⟩) hgv]; exact d3⟩)
                      clear hrs hps hp hoo hot hB hZ hx1
                      go_wp2_with (at_builtin; refine wpList_append_own _ rfl _ _ 23 rfl w10.heap.size 3 iI (.int .i64 0) 1 8 Try.underlying23 hiI hzI0 hzI1 hzI2 rfl (by decide) _ _ _ rfl (World.ownsRow.alloc HOW.out _) ⟨wr.heap.size, 0, none⟩ 1 1 [.int .i64 (k : Int)] rfl rfl (cell_one_new _ _ _) (by simp [Value.oneCell']) HL1.out HL2.out HL3.out ?_; intro v' w12 hown' hgrow _; obtain ⟨hq1, hq2, hq3, hq4, hq5⟩ := HAP.out v' w12 hown' hgrow; obtain ⟨f1, f2⟩ := HDD.out w12 hq4; replace hq1 := Lib.hid hq1; replace hq2 := Lib.hid hq2; replace hq3 := Lib.hid hq3; replace hq4 := Lib.hid hq4; clear hown' hgrow)
                      go_roundw
                      case rel =>
                        refine ⟨_, _, _, ⟨k + 1, ?_, by omega, ?_, hq1.out, hq5, hq2.out, hq3.out, hq4.out⟩, rfl, rfl, rfl⟩
                        · go_num
                        · rw [HN1.out]
                      case measure => simp [intOf]; omega
                · by_cases hvm : v = m
                  · subst hvm
                    have hrN : rb (toA l) D v N = true := HRDY.out
                    have hrk := rb_mono N hk hrN
                    obtain rfl : N = k := by
                      have : ¬ k < N := fun h => hlt ⟨h, hrk⟩
                      omega
                    rw [hrk]
                    rw [HPT.out] at hp hfs hpl
                    obtain ⟨p, hpp⟩ : ∃ p, partOf (toA l) N v = p := ⟨_, rfl⟩
                    rw [hpp] at hp hfs hpl HTC HLS
                    have hkk : decide (N < N) = false := by simp
                    have HPP := Lib.hid hpp
                    have HP0 := Lib.hid hp
                    have HO0 := Lib.hid hoo
                    have HT0 := Lib.hid hot
                    have HB0 := Lib.hid hB
                    clear hlt hrN hrk hp hoo hot hB hpp hk
                    obtain ⟨w13, hw13⟩ : ∃ w13 : World, w13 = wr := ⟨_, rfl⟩
                    subst hw13
                    subst hfs
                    have hp1 : 0 < p.length := by rw [← HPP.out]; exact List.length_pos_of_mem (mem_partOf.2 ⟨hmN, eqv.refl _ v⟩)
                    have hpm : ∀ x ∈ p, x < N := fun x hx => by rw [← HPP.out] at hx; exact (mem_partOf.1 hx).1
                    have HPM := Lib.hid hpm
                    clear hpm
                    go_wp2_with fail
                    go_loopw [15] (fun i wl => Q5Rel (toA l) N g w10.heap.size w7 D p L u8 (.slice FA p.length fcap) i wl) (fun i _ => p.length - (intOf i).toNat)
                    case atStart => exact ⟨0, T, rfl, by omega, HS2.out.tl, fun x hx => by rw [HS2.out.td x hx]; simp, HP0.out, hbp, HO0.out, HT0.out, HB0.out⟩
                    case round =>
                      obtain ⟨i, T2, rfl, hi, hTl, hTd, hp, hbp2, hoo, hot, hB⟩ := hrel
                      by_cases hlt : i < p.length
                      · obtain ⟨gp, rfl, cx⟩ := own_rd hp i (by rw [zi_length]; exact hlt)
                        have hTk : p.take (i + 1) = p.take i ++ [p[i]] := List.take_succ_eq_append_getElem hlt
                        have hxN := HPM.out p[i] (List.getElem_mem hlt)
                        obtain ⟨x, hx⟩ : ∃ x, p[i] = x := ⟨_, rfl⟩
                        have e1 : (zi p)[i]'(by rw [zi_length]; exact hlt) = (x : Int) := by simp [zi, hx]
                        rw [e1] at cx
                        rw [hx] at hTk hxN
                        have hfz := ownB_free hot hTl x
                        have hcz := ownB_cell hot hTl x hxN
                        have HT2 := Lib.hid (hot.store x (by omega) true)
                        have HO2 := Lib.hid (hoo.bools (j := x) hot (.bool true))
                        have HP2 := Lib.hid (hp.kept (grown_set wr g x (.bool true)) (.inr (fun e => own_ne hp hgl e.symm)))
                        have HB2 := Lib.hid (hB.setCell (p := ⟨g, x, none⟩) (Nat.le_of_eq hg7) (.bool true))
                        have HTL := Lib.hid (show (T2.set x true).length = N by rw [List.length_set]; exact hTl)
                        have HTD : Hid (∀ y, y < N → (T2.set x true).getD y false = (D.contains y || (p.take (i + 1)).contains y)) := Lib.hid (fun y hy => by
                          rw [gets (by omega), hTk]
                          by_cases e : y = x
                          · rw [if_pos e, e]; simp
                          · rw [if_neg e, hTd y hy]; simp [e])
                        have HSZ : Hid (w10.heap.size ≤ (wr.setCell ⟨g, x, none⟩ (.bool true)).heap.size) := Lib.hid (by simpa [World.setCell] using hbp2)
                        have hxi : (x : Int) < N := by omega
                        clear hTk hx e1 hTd hp hoo hot hB hTl
                        go_wp2_with fail
                        go_roundw
                        case rel => exact ⟨i + 1, _, by go_num, by omega, HTL.out, HTD.out, HP2.out, HSZ.out, HO2.out, HT2.out, HB2.out⟩
                        case measure => simp [intOf]; omega
                      · rw [List.take_of_length_le (by omega)] at hTd
                        obtain ⟨us, hus, hus2⟩ := hoo
                        have hDp : D.length + p.length ≤ N := by
                          have := nodup_le N _ HLS.out.nd HLS.out.lt
                          rw [List.length_append] at this; exact this
                        have hLl : L.length ≤ N := HS2.out.tc.len
                        have hbw := HS2.out.bel.size
                        have hBs := hB.size
                        have k0 := below_new wr (.cells #[.slice FA p.length fcap] 23)
                        have husa := hus.alloc (.cells #[.slice FA p.length fcap] 23)
                        have hpa := hp.below k0
                        have hota := hot.below k0
                        have hus2a : ∀ (i : Nat) (u : Value) (l : List Nat), us[i]? = some u → L[i]? = some l → OwnI (wr.alloc (.cells #[.slice FA p.length fcap] 23)) w7.heap.size u (zi l) ∧ ∀ k, u.ownBlock = some k → k < w10.heap.size := fun i u l a b => ⟨(hus2 i u l a b).1.below k0, (hus2 i u l a b).2⟩
                        have HUS := Lib.hid husa
                        have HAP : Hid (∀ (v' : Value) (w2 : World), w2.ownsRow w7.heap.size 23 1 v' (L.length + 1) (us ++ [.slice FA p.length fcap]) → (wr.alloc (.cells #[.slice FA p.length fcap] 23)).grownBy w2 u8.ownBlock → QSt (toA l) N g w7 (D ++ p) (L ++ [p]) T2 v' w2) := Lib.hid (fun v' w2 h1 h2 => by
                          obtain ⟨cs, hb⟩ := ownB_blk hota
                          refine ⟨HLS.out, HTC.out, hTl, fun x hx => by rw [hTd x hx]; simp, hota.kept h2 (.inr (own_not_blk HUS.out hb (by decide))), ORow.push HUS.out hus2a hpa (by omega) h2 h1, (hB.alloc hBs _).grown h2 (by simp; omega) (fun j hj => (World.ownsRow.lt HUS.out j hj).1)⟩)
                        have HL1 : Hid (L.length + 1 ≤ maxLen) := Lib.hid (by unfold maxLen; omega)
                        have HL2 : Hid ((L.length + 1) * 24 ≤ 140737488355328) := Lib.hid (by omega)
                        have HL3 : Hid (w7.heap.size ≤ (wr.alloc (.cells #[.slice FA p.length fcap] 23)).heap.size) := Lib.hid (by simp; omega)
                        have HLF : Hid ((N : Int) - D.length - p.length = (N : Int) - ((D ++ p).length : Nat)) := Lib.hid (by rw [List.length_append]; omega)
                        have HMS : Hid (N - (D ++ p).length < N - D.length) := Lib.hid (by rw [List.length_append]; omega)
                        have hl0 : (0 : Int) ≤ (N : Int) - D.length - p.length := by omega
                        have hl1 : (N : Int) - D.length - p.length ≤ 900 := by omega
                        have hl2 : (N : Int) - D.length ≤ 900 := by omega
                        clear hTd hp hus hus2 hot hB husa hpa hota hus2a k0 hBs hbw
                        go_wp2_with (at_builtin; refine wpList_append_own _ rfl _ _ 28 rfl w7.heap.size 23 iL (.slice none 0 0) 1 24 Try.underlying28 hiL hzL0 hzL1 hzL2 rfl (by decide) _ _ _ rfl HUS.out ⟨wr.heap.size, 0, none⟩ 1 1 [.slice FA p.length fcap] rfl rfl (cell_one_new _ _ _) (by simp [Value.oneCell']) HL1.out HL2.out HL3.out ?_; intro v' w14 hown' hgrow _; have hq1 := Lib.hid (HAP.out v' w14 hown' hgrow); clear hown' hgrow)
                        go_roundg (N - (D ++ p).length)
                        case rel => exact ⟨D ++ p, L ++ [p], T2, rfl, by rw [← HLF.out], hq1.out⟩
                        case measure => exact HMS.out
                  · have hrb : rb (toA l) D v k = false := by
                      cases hb : rb (toA l) D v k with
                      | false => rfl
                      | true =>
                        have hkN : k = N := by
                          have : ¬ k < N := fun h => hlt ⟨h, hb⟩
                          omega
                        have h2 := HNOT.out v (by omega)
                        rw [← rb_all, ← hkN, hb] at h2
                        cases h2
                    rw [hrb]
                    have HQN : Hid (QSt (toA l) N g w7 D L T u8 wr) := Lib.hid ⟨HS2.out.lis, HS2.out.tc, HS2.out.tl, HS2.out.td, hot, hoo.top hbp, hB⟩
                    clear hp hoo hot hB hlt hfs
                    by_cases hkN : k < N
                    · have hkNi : (k : Int) < N := by omega
                      go_wp2_with fail
                      go_roundw
                      case rel => exact ⟨v + 1, rfl, rfl, by go_num, by omega, HQN.out⟩
                      case measure => simp [intOf]; omega
                    · obtain rfl : N = k := by omega
                      have hkk : decide (N < N) = false := by simp
                      go_wp2_with fail
                      go_roundw
                      case rel => exact ⟨v + 1, rfl, rfl, by go_num, by omega, HQN.out⟩
                      case measure => simp [intOf]; omega
          · have hgt : decide ((0 : Int) < (N : Int) - D.length) = false := by rw [decide_eq_false_iff_not]; omega
            have hLe := S.tc.over S.lis (by omega)
            have hPl := partsGo_len (toA l) N N []
            have HF : Hid (LLPost (partsAny (N : Int) l) w (.returned u8) wr) := Lib.hid ⟨u8, rfl, by
              rw [HPE.out, ← hLe]
              refine S.oo.lists ?_ ?_
              · rw [hLe]; unfold partsOf; omega
              · intro p hp
                rw [hLe] at hp
                have := (partsFit (toA l) N).len hp
                omega, HB7.out.trans (S.bel.mono HB7.out.size)⟩
            clear S hLe
            go_wp2_with fail
            go_ret
            exact HF.out
end Go.Proofs.Ytcljgpgdbjpemaa
