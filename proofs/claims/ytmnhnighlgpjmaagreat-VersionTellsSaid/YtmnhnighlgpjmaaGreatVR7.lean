/-
  The reference of layer 8: Order.
-/
import Derived.Test.YtmnhnighlgpjmaaGreatVR5
import Derived.Test.YtmnhnighlgpjmaaGreatVR6
namespace Go.Proofs.YtmnhnighlgpjmaaGreat
set_option linter.unusedVariables false
set_option linter.unusedSimpArgs false
open Go.RowKit

def rdyB' (D : List Str) (d : Vd) (j : Nat) : Bool := decide (d.nm ∉ D) && (d.ps.take j).all (fun p => decide (p ∈ D))
theorem rdyB'_succ {D : List Str} {d : Vd} {j : Nat} (h : j < d.ps.length) : rdyB' D d (j + 1) = (rdyB' D d j && decide (d.ps[j] ∈ D)) := by
  unfold rdyB'
  rw [List.take_succ_eq_append_getElem h, List.all_append, Bool.and_assoc]
  congr 2
  simp
theorem rdyB'_iff {l : VL} (hn : (names l).Nodup) {D : List Str} {d : Vd} (hd : d ∈ l) : rdyB' D d d.ps.length = true ↔ Ready l D d.nm := by
  unfold rdyB' Ready
  rw [Bool.and_eq_true, decide_eq_true_iff, List.take_length, List.all_eq_true, pars_mem hn hd]
  constructor
  · rintro ⟨h1, h2⟩
    exact ⟨h1, fun p hp => of_decide_eq_true (h2 p hp)⟩
  · rintro ⟨h1, h2⟩
    exact ⟨h1, fun p hp => decide_eq_true (h2 p hp)⟩
/-- The least ready name among the first i. -/
structure BestOk (l : VL) (D : List Str) (i : Nat) (best : Value) : Prop where
  ex : (best = .int .i64 (-1) ∧ ∀ j (h : j < l.length), j < i → rdyB' D l[j] l[j].ps.length = false) ∨
    ∃ (b : Nat) (h : b < l.length), best = .int .i64 b ∧ rdyB' D l[b] l[b].ps.length = true ∧ ∀ j (h : j < l.length), j < i → rdyB' D l[j] l[j].ps.length = true → l[b].nm ≤ l[j].nm
theorem BestOk.start (l : VL) (D : List Str) : BestOk l D 0 (.int .i64 (-1)) := ⟨.inl ⟨rfl, fun j _ h => by omega⟩⟩
theorem BestOk.skip {l : VL} {D : List Str} {i : Nat} {best : Value} (h : BestOk l D i best) (hi : i < l.length) (hr : rdyB' D l[i] l[i].ps.length = false) : BestOk l D (i + 1) best := by
  refine ⟨?_⟩
  rcases h.ex with ⟨h1, h2⟩ | ⟨b, hb, h1, h2, h3⟩
  · refine .inl ⟨h1, fun j hj hji => ?_⟩
    by_cases e : j = i
    · subst e; exact hr
    · exact h2 j hj (by omega)
  · refine .inr ⟨b, hb, h1, h2, fun j hj hji hrj => ?_⟩
    by_cases e : j = i
    · subst e; rw [hr] at hrj; cases hrj
    · exact h3 j hj (by omega) hrj
theorem BestOk.first {l : VL} {D : List Str} {i : Nat} (h : ∀ j (h : j < l.length), j < i → rdyB' D l[j] l[j].ps.length = false) (hi : i < l.length) (hr : rdyB' D l[i] l[i].ps.length = true) : BestOk l D (i + 1) (.int .i64 i) := by
  refine ⟨.inr ⟨i, hi, rfl, hr, fun j hj hji hrj => ?_⟩⟩
  by_cases e : j = i
  · subst e; exact List.le_refl _
  · rw [h j hj (by omega)] at hrj; cases hrj
theorem BestOk.less {l : VL} {D : List Str} {i b : Nat} (hb : b < l.length) (h : ∀ j (h : j < l.length), j < i → rdyB' D l[j] l[j].ps.length = true → l[b].nm ≤ l[j].nm) (hi : i < l.length) (hr : rdyB' D l[i] l[i].ps.length = true) (hlt : l[i].nm < l[b].nm) : BestOk l D (i + 1) (.int .i64 i) := by
  refine ⟨.inr ⟨i, hi, rfl, hr, fun j hj hji hrj => ?_⟩⟩
  by_cases e : j = i
  · subst e; exact List.le_refl _
  · exact List.le_trans (List.le_of_lt hlt) (h j hj (by omega) hrj)
theorem BestOk.keep {l : VL} {D : List Str} {i b : Nat} (hb : b < l.length) (hrb : rdyB' D l[b] l[b].ps.length = true) (h : ∀ j (h : j < l.length), j < i → rdyB' D l[j] l[j].ps.length = true → l[b].nm ≤ l[j].nm) (hi : i < l.length) (hlt : ¬ l[i].nm < l[b].nm) : BestOk l D (i + 1) (.int .i64 b) := by
  refine ⟨.inr ⟨b, hb, rfl, hrb, fun j hj hji hrj => ?_⟩⟩
  by_cases e : j = i
  · subst e; exact List.not_lt.1 hlt
  · exact h j hj (by omega) hrj
theorem BestOk.pick {l : VL} {best : Value} {k : Nat} (h : Gr l) (hac : Acy l) (hk : k < (orderOf l).length) (hb : BestOk l ((orderOf l).take k) l.length best) : ∃ (b : Nat) (hb : b < l.length), best = .int .i64 b ∧ l[b].nm = (orderOf l)[k] := by
  obtain ⟨hm, hr⟩ := h.ready hac hk
  obtain ⟨d, hd, hdn⟩ := List.mem_map.1 hm
  obtain ⟨j, hj, rfl⟩ := List.getElem_of_mem hd
  have hrj := (rdyB'_iff h.nd hd).2 (by rw [hdn]; exact hr)
  rcases hb.ex with ⟨h1, h2⟩ | ⟨b, hb, h1, h2, h3⟩
  · have := h2 j hj hj
    rw [hrj] at this; cases this
  · refine ⟨b, hb, h1, ?_⟩
    have h4 := h3 j hj hj hrj
    rw [hdn] at h4
    have hmb := List.getElem_mem hb
    exact List.le_antisymm h4 (h.least hac hk (List.mem_map.2 ⟨_, hmb, rfl⟩) ((rdyB'_iff h.nd hmb).1 h2))
def P1R (l : VL) (w : World) (o : Value) (wl : World) : Prop := ∃ k : Nat, k ≤ l.length ∧ OwnS wl w.heap.size o ((orderOf l).take k) ∧ Below w.heap.size w wl
def P2R (l : VL) (D : List Str) (wo : World) (best i : Value) (wl : World) : Prop := ∃ k : Nat, i = .int .i64 k ∧ k ≤ l.length ∧ BestOk l D k best ∧ Below wo.heap.size wo wl
def P3R (D : List Str) (d : Vd) (b i : Value) : Prop := ∃ j : Nat, i = .int .i64 j ∧ j ≤ d.ps.length ∧ b = .bool (rdyB' D d j)
set_option maxRecDepth 100000 in
set_option maxHeartbeats 0 in
theorem rOrderP (u : Value) (l : VL) (w : World) (hl : Fw l) (hr : VRow w w.heap.size u l) :
    Calls Tryz.prog 14 #[u] w (OrPost l w) := by
  have HRI := Lib.hid (rRightP u l w hl hr)
  have HFW := Lib.hid hl
  have hl12 : l.length ≤ 12 := hl.1
  have HR := Lib.hid hr
  obtain ⟨xA, xcap, hx, _⟩ := id hr
  subst hx
  clear hl hr
  cases hrv : rightV l with
  | false =>
    rw [hrv] at HRI
    have HE : Hid (∀ w', Below w.heap.size w w' → OrPost l w (.returned (.slice none 0 0)) w') := Lib.hid (fun w' h => ⟨_, rfl, by rw [if_neg (by rw [hrv]; decide)]; exact (OwnS.nil w' w'.heap.size).srow, h⟩)
    clear hrv
    go_enter Tryz.func14, Tryz.ntmps14
    go_wp2_with fail
    refine HRI.out.mono ?_; rintro e w1 ⟨rfl, hb⟩
    have HF := Lib.hid (HE.out w1 hb)
    clear hb HE
    go_wp2_with fail
    go_ret
    exact HF.out
  | true =>
    obtain ⟨hgr, hac⟩ := rightV_gr (by omega) hrv
    have hol : (orderOf l).length = l.length := (hgr.ord hac).len
    have HE : Hid (∀ u w', StrRow w' w'.heap.size u (orderOf l) → Below w.heap.size w w' → OrPost l w (.returned u) w') := Lib.hid (fun u w' h1 h => ⟨_, rfl, by rw [if_pos hrv]; exact h1, h⟩)
    have HPK : Hid (∀ k (hk : k < (orderOf l).length) best, BestOk l ((orderOf l).take k) l.length best → ∃ (b : Nat) (hb : b < l.length), best = .int .i64 b ∧ l[b].nm = (orderOf l)[k]) := Lib.hid (fun k hk best hb => BestOk.pick hgr hac hk hb)
    have HOL := Lib.hid hol
    rw [hrv] at HRI
    clear hrv hgr hac hol
    go_enter Tryz.func14, Tryz.ntmps14
    go_wp2_with fail
    refine HRI.out.mono ?_; rintro e w1 ⟨rfl, hb⟩
    have HB1 := Lib.hid hb
    clear hb HRI
    go_wp2_with fail
    go_loopw [3] (fun o wl => P1R l w o wl) (fun o _ => l.length - slLen o)
    case atStart => exact ⟨0, by omega, by rw [List.take_zero]; exact OwnS.nil _ _, HB1.out⟩
    case round =>
      clear HB1
      obtain ⟨k, hk, ho, hB⟩ := hrel
      have hkl := HOL.out
      obtain ⟨D, hD⟩ : ∃ D, (orderOf l).take k = D := ⟨_, rfl⟩
      have hDl : D.length = k := by rw [← hD, List.length_take]; omega
      rw [hD] at ho
      obtain ⟨oA, ocap, hov, _⟩ := id ho.srow
      subst hov
      have HO := Lib.hid ho
      have HB := Lib.hid hB
      have HDL := Lib.hid hDl
      have hD12 : D.length ≤ 12 := by omega
      by_cases hlt : D.length < l.length
      · have hkl2 : k < (orderOf l).length := by omega
        have HPK2 := Lib.hid (HPK.out k hkl2)
        have hTk : (orderOf l).take (k + 1) = D ++ [(orderOf l)[k]] := by rw [List.take_succ_eq_append_getElem hkl2, hD]
        have HTK := Lib.hid hTk
        rw [hD] at HPK2
        obtain ⟨z, hz⟩ : ∃ z, (orderOf l)[k] = z := ⟨_, rfl⟩
        rw [hz] at HPK2 HTK
        have hki : (D.length : Int) < l.length := by omega
        obtain ⟨xb, xoff, hxa, hxb, hxc⟩ := (show 0 < l.length → ∃ b off, xA = some ⟨b, off, none⟩ ∧ b < w.heap.size ∧ ∀ i (h : i < l.length), ∃ u, w.cell? ⟨b, off + i * 2, none⟩ = some (.string (bs l[i].nm)) ∧ w.cell? ⟨b, off + i * 2 + 1, none⟩ = some u ∧ StrRow w w.heap.size u l[i].ps by
          obtain ⟨A2, cap2, he, _, _, _, h4⟩ := HR.out
          injection he with e1 _ _
          subst e1
          exact h4) (by omega)
        subst hxa
        have HXC := Lib.hid hxc
        have HXN : Hid (∀ wl, Below w.heap.size w wl → ∀ i (h : i < l.length), wl.cell? ⟨xb, xoff + i * 2, none⟩ = some (.string (bs l[i].nm))) := Lib.hid (fun wl h i hi => by
          obtain ⟨_, c, _⟩ := hxc i hi
          exact (h.cell (p := ⟨xb, xoff + i * 2, none⟩) hxb).trans c)
        obtain ⟨wo, hwo⟩ : ∃ wo : World, wo = wr := ⟨_, rfl⟩
        subst hwo
        have hkk : k + 1 ≤ l.length := by omega
        have HKK := Lib.hid hkk
        clear hxc hTk hz hD hDl hkl hkl2 ho hB hk hkk HPK
        go_wp2_with fail
        go_loopw [4, 5] (fun b i wl => P2R l D wo b i wl) (fun _ i _ => l.length - (intOf i).toNat)
        case atStart => exact ⟨0, rfl, by omega, BestOk.start _ _, Below.refl _ _⟩
        case round =>
          obtain ⟨i, rfl, hi, hbest, hB2⟩ := hrel
          have HBEST := Lib.hid hbest
          have HB2 := Lib.hid hB2
          have HBW := Lib.hid (HB.out.trans (hB2.mono HB.out.size))
          have hOW := HO.out.below hB2
          have HOS := Lib.hid (hOW.srow)
          have HOW := Lib.hid hOW
          clear hbest hB2 hOW
          by_cases hil : i < l.length
          · have hii : (i : Int) < l.length := by omega
            obtain ⟨pu, c1, c2, hpr⟩ := HXC.out i hil
            have hfd := HFW.out.2 _ (List.getElem_mem hil)
            have HSK := Lib.hid (HBEST.out.skip hil)
            have HNB : Hid (∀ b (hb : b < l.length), (l[i].nm = l[b].nm → False) → True) := Lib.hid (fun _ _ _ => trivial)
            have HX1 := Lib.hid (fun h hr => BestOk.first (D := D) h hil hr)
            have HX2 := Lib.hid (fun b (hb : b < l.length) h hr hlt => BestOk.less (D := D) hb h hil hr hlt)
            have HX3 := Lib.hid (fun b (hb : b < l.length) hrb h hlt => BestOk.keep (D := D) hb hrb h hil hlt)
            obtain ⟨d, hd⟩ : ∃ d, l[i] = d := ⟨_, rfl⟩
            rw [hd] at c1 hpr hfd HSK HX1 HX2 HX3
            have hp6 : d.ps.length ≤ 6 := hfd.1
            obtain ⟨pA, pcap, hpu, hpc1, hpc2, _⟩ := id hpr
            subst hpu
            have HPR := Lib.hid (hpr.below HBW.out)
            replace c1 := (HBW.out.cell (p := ⟨xb, xoff + i * 2, none⟩) hxb).trans c1
            replace c2 := (HBW.out.cell (p := ⟨xb, xoff + i * 2 + 1, none⟩) hxb).trans c2
            have HH0 := Lib.hid (hasSP (.slice oA D.length ocap) D d.nm wr _ HOS.out (by omega))
            obtain ⟨r0, hr0⟩ : ∃ r0, decide (d.nm ∈ D) = r0 := ⟨_, rfl⟩
            have HR0 : Hid ((!r0) = rdyB' D d 0) := Lib.hid (by rw [← hr0]; simp [rdyB'])
            rw [hr0] at HH0
            clear hpr hfd hd hr0 HNB
            go_wp2_with fail
            refine HH0.out.mono ?_; rintro e w' ⟨rfl, rfl⟩
            go_wp2_with fail
            go_loop [6, 7] (fun b i => P3R D d b i) (fun _ i => d.ps.length - (intOf i).toNat)
            case atStart => exact ⟨0, rfl, by omega, by rw [HR0.out]⟩
            case round =>
              clear HR0 HH0
              obtain ⟨j, rfl, hj, rfl⟩ := hrel
              by_cases hjl : j < d.ps.length
              · obtain ⟨A3, cap3, he3, _, _, _, hrd3⟩ := HPR.out
                injection he3 with e4 e5 e6
                subst e4
                clear e5 e6
                obtain ⟨b3, off3, rfl, hb3, hc3⟩ := hrd3 (by omega)
                have q := hc3 j hjl
                have hji : (j : Int) < d.ps.length := by omega
                have HSU := Lib.hid (rdyB'_succ (D := D) hjl)
                obtain ⟨p, hp⟩ : ∃ p, d.ps[j] = p := ⟨_, rfl⟩
                rw [hp] at q HSU
                have HH1 := Lib.hid (hasSP (.slice oA D.length ocap) D p wr _ HOS.out (by omega))
                obtain ⟨r1, hr1⟩ : ∃ r1, decide (p ∈ D) = r1 := ⟨_, rfl⟩
                rw [hr1] at HH1 HSU
                clear hrd3 hc3 hp hr1
                obtain ⟨rb, hrb⟩ : ∃ rb, rdyB' D d j = rb := ⟨_, rfl⟩
                rw [hrb] at HSU ⊢
                clear hrb
                cases rb with
                | false =>
                  go_wp2_with fail
                  go_round
                  case rel => exact ⟨j + 1, by go_num, by omega, by rw [HSU.out]; rfl⟩
                  case measure => simp [intOf]; omega
                | true =>
                  go_wp2_with fail
                  refine HH1.out.mono ?_; rintro e w' ⟨rfl, rfl⟩
                  go_wp2_with fail
                  go_round
                  case rel => exact ⟨j + 1, by go_num, by omega, by rw [HSU.out]; cases r1 <;> rfl⟩
                  case measure => simp [intOf]; omega
              · obtain rfl : j = d.ps.length := by omega
                have HBQ : Hid (∀ q, Below wo.heap.size wo (wr.drewN q)) := Lib.hid (fun q => HB2.out.trans (below_drewV _ _ _))
                obtain ⟨rb, hrb⟩ : ∃ rb, rdyB' D d d.ps.length = rb := ⟨_, rfl⟩
                rw [hrb] at HSK HX1 HX2 ⊢
                clear hrb hjl
                cases rb with
                | false =>
                  have HN := Lib.hid (HSK.out rfl)
                  go_wp2_with fail
                  go_quiet (fail)
                  go_wp2_with fail
                  go_roundw
                  case rel => exact ⟨i + 1, by go_num, by omega, HN.out, HBQ.out _⟩
                  case measure => simp [intOf]; omega
                | true =>
                  rcases HBEST.out.ex with ⟨rfl, h2⟩ | ⟨b, hb, rfl, h2, h3⟩
                  · have HN := Lib.hid (HX1.out h2 rfl)
                    clear h2
                    go_wp2_with fail
                    go_quiet (fail)
                    go_wp2_with fail
                    go_roundw
                    case rel => exact ⟨i + 1, by go_num, by omega, HN.out, HBQ.out _⟩
                    case measure => simp [intOf]; omega
                  · have cb := HXN.out wr HBW.out b hb
                    have hbi : (b : Int) < l.length := by omega
                    have hneg : decide ((b : Int) < 0) = false := decide_eq_false (by omega)
                    have HY1 := Lib.hid (fun h => HX2.out b hb h3 rfl h)
                    have HY2 := Lib.hid (fun h => HX3.out b hb h2 h3 h)
                    obtain ⟨y, hy⟩ : ∃ y, l[b].nm = y := ⟨_, rfl⟩
                    rw [hy] at cb HY1 HY2
                    clear h2 h3 hy
                    by_cases hys : d.nm < y
                    · have hbl := str_lt hys
                      have HN := Lib.hid (HY1.out hys)
                      clear hys
                      go_wp2_with fail
                      go_quiet (fail)
                      go_wp2_with fail
                      go_roundw
                      case rel => exact ⟨i + 1, by go_num, by omega, HN.out, HBQ.out _⟩
                      case measure => simp [intOf]; omega
                    · have hbl := str_nlt hys
                      have HN := Lib.hid (HY2.out hys)
                      clear hys
                      go_wp2_with fail
                      go_quiet (fail)
                      go_wp2_with fail
                      go_roundw
                      case rel => exact ⟨i + 1, by go_num, by omega, HN.out, HBQ.out _⟩
                      case measure => simp [intOf]; omega
          · obtain rfl : i = l.length := by omega
            obtain ⟨b, hb, rfl, hbz⟩ := HPK2.out _ HBEST.out
            have cb := HXN.out wr HBW.out b hb
            rw [hbz] at cb
            have hbi : (b : Int) < l.length := by omega
            have hneg : decide ((b : Int) < 0) = false := decide_eq_false (by omega)
            obtain ⟨g', cap', w3, hrun, ho3, hb3⟩ := pushS wr w.heap.size _ D z HOW.out HBW.out.size (by omega)
            have HRUN := Lib.hid hrun
            have HO3 : Hid (OwnS w3 w.heap.size (.slice (some ⟨g', 0, none⟩) (D.length + 1) cap') ((orderOf l).take (k + 1))) := Lib.hid (by rw [HTK.out]; exact ho3)
            have HB3 := Lib.hid (HBW.out.trans hb3)
            clear hrun ho3 hb3 hbz hil
            go_wp2_with (at_builtin; refine Lib.wpList_append_run_sl _ rfl _ _ 27 rfl _ _ rfl rfl HRUN.out ?_)
            go_roundw
            case rel => exact ⟨k + 1, HKK.out, HO3.out, HB3.out⟩
            case measure => simp [slLen]; omega
      · have hDo : D = orderOf l := by rw [← hD, List.take_of_length_le (by omega)]
        have HF := Lib.hid (HE.out (.slice oA D.length ocap) wr (by rw [← hDo]; exact HO.out.srow) HB.out)
        clear hDo hD ho
        go_wp2_with fail
        go_ret
        exact HF.out
end Go.Proofs.YtmnhnighlgpjmaaGreat
