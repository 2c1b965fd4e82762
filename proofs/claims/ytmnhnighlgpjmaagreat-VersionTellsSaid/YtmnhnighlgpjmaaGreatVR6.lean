/-
  The reference of layer 8: Right.
-/
import Derived.Test.YtmnhnighlgpjmaaGreatVR3
import Derived.BigQuiet
namespace Go.Proofs.YtmnhnighlgpjmaaGreat
set_option linter.unusedVariables false
set_option linter.unusedSimpArgs false
open Go.RowKit

/-- What Right asks of a parent. -/
structure OkP (l : VL) (d : Vd) (p : Str) (T : List Str) : Prop where
  some : (fdx l p).isSome = true
  new : p ∉ T
  acy : ¬ Sv l p d.nm
def OkPs (l : VL) (d : Vd) (j : Nat) : Prop := ∀ m (h : m < d.ps.length), m < j → OkP l d d.ps[m] (d.ps.take m)
structure OkDecl (l : VL) (d : Vd) (i : Nat) : Prop where
  nm : nameB d.nm = true
  fst : fdx l d.nm = some i
  ps : OkPs l d d.ps.length
theorem fdx_par {l : VL} {s : Str} : (fdx l s).isSome = (parOf l s).isSome := by
  cases h : fdx l s with
  | none => rw [(fdx_none h).1]; rfl
  | some i => obtain ⟨_, _, _, h4⟩ := fdx_some h; rw [h4]; rfl
theorem nodup_at {L : List Str} : L.Nodup ↔ ∀ m (h : m < L.length), L[m] ∉ L.take m := by
  rw [List.nodup_iff_pairwise_ne, List.pairwise_iff_getElem]
  constructor
  · intro h m hm hin
    obtain ⟨i, hi, e⟩ := List.getElem_of_mem hin
    rw [List.length_take] at hi
    rw [List.getElem_take] at e
    exact h i m (by omega) hm (by omega) e
  · intro h i j hi hj hij e
    exact h j hj (List.mem_of_getElem? (i := i) (by rw [List.getElem?_take, if_pos hij, List.getElem?_eq_getElem hi, e]))
theorem right_iff {l : VL} : rightV l = true ↔ ∀ i (h : i < l.length), OkDecl l l[i] i := by
  have hn : ∀ i (h : i < l.length), (names l)[i]? = some l[i].nm := fun i h => by unfold names; rw [List.getElem?_map, List.getElem?_eq_getElem h]; rfl
  have hnl : (names l).length = l.length := by unfold names; rw [List.length_map]
  unfold rightV
  rw [Bool.and_eq_true, Bool.and_eq_true, acyB_iff]
  unfold namedB closedB
  rw [Bool.and_eq_true, decide_eq_true_iff, List.all_eq_true, List.all_eq_true]
  constructor
  · rintro ⟨⟨⟨h1, h2⟩, h3⟩, h4⟩ i hi
    have hm := List.getElem_mem hi
    have h5 := h3 _ hm
    unfold okD at h5
    rw [Bool.and_eq_true, List.all_eq_true, decide_eq_true_iff] at h5
    refine ⟨h2 _ (List.mem_map.2 ⟨_, hm, rfl⟩), fdx_at hi rfl fun j hj hji e => ?_, fun m hm2 _ => ⟨?_, nodup_at.1 h5.2 m hm2, h4 _ hm _ (List.getElem_mem hm2)⟩⟩
    · rw [List.nodup_iff_pairwise_ne, List.pairwise_iff_getElem] at h1
      refine h1 j i (by omega) (by omega) hji ?_
      have e1 := hn j hj
      have e2 := hn i hi
      rw [List.getElem?_eq_getElem (by omega)] at e1 e2
      injection e1 with e1
      injection e2 with e2
      rw [e1, e2, e]
    · rw [fdx_par]; exact h5.1 _ (List.getElem_mem hm2)
  · intro h
    refine ⟨⟨⟨?_, fun x hx => ?_⟩, fun d hd => ?_⟩, fun d hd p hp => ?_⟩
    · rw [List.nodup_iff_pairwise_ne, List.pairwise_iff_getElem]
      intro i j hi hj hij e
      have e1 := hn i (by omega)
      have e2 := hn j (by omega)
      rw [List.getElem?_eq_getElem (by omega)] at e1 e2
      injection e1 with e1
      injection e2 with e2
      obtain ⟨_, _, h5, _⟩ := fdx_some (h j (by omega)).fst
      exact h5 i (by omega) hij (by rw [← e1, ← e2, e])
    · obtain ⟨d, hd, rfl⟩ := List.mem_map.1 hx
      obtain ⟨i, hi, rfl⟩ := List.getElem_of_mem hd
      exact (h i hi).nm
    · obtain ⟨i, hi, rfl⟩ := List.getElem_of_mem hd
      unfold okD
      rw [Bool.and_eq_true, List.all_eq_true, decide_eq_true_iff]
      refine ⟨fun p hp => ?_, nodup_at.2 fun m hm => ((h i hi).ps m hm hm).new⟩
      obtain ⟨m, hm, rfl⟩ := List.getElem_of_mem hp
      rw [← fdx_par]; exact ((h i hi).ps m hm hm).some
    · obtain ⟨i, hi, rfl⟩ := List.getElem_of_mem hd
      obtain ⟨m, hm, rfl⟩ := List.getElem_of_mem hp
      exact ((h i hi).ps m hm hm).acy
theorem rightV_no {l : VL} {i : Nat} (h : i < l.length) (hn : ¬ OkDecl l l[i] i) : rightV l = false := by
  cases hr : rightV l with
  | false => rfl
  | true => exact absurd (right_iff.1 hr i h) hn
theorem rightV_noP {l : VL} {d : Vd} (hd : d ∈ l) {m : Nat} (hm : m < d.ps.length) (hn : ¬ OkP l d d.ps[m] (d.ps.take m)) : rightV l = false := by
  obtain ⟨i, hi, rfl⟩ := List.getElem_of_mem hd
  exact rightV_no hi fun h => hn (h.ps m hm hm)
def Q1R (l : VL) (w : World) (i : Value) (wl : World) : Prop := ∃ k : Nat, i = .int .i64 k ∧ k ≤ l.length ∧ (∀ j (h : j < l.length), j < k → OkDecl l l[j] j) ∧ Below w.heap.size w wl
def Q2R (l : VL) (d : Vd) (w : World) (i : Value) (wl : World) : Prop := ∃ j : Nat, i = .int .i64 j ∧ j ≤ d.ps.length ∧ OkPs l d j ∧ Below w.heap.size w wl
def RiPost (b : Bool) (w : World) (e : Ending) (w' : World) : Prop := e = .returned (.bool b) ∧ Below w.heap.size w w'
set_option maxRecDepth 100000 in
set_option maxHeartbeats 0 in
theorem rRightP (u : Value) (l : VL) (w : World) (hl : Fw l) (hr : VRow w w.heap.size u l) :
    Calls Tryz.prog 7 #[u] w (RiPost (rightV l) w) := by
  have HFW := Lib.hid hl
  have hl12 : l.length ≤ 12 := hl.1
  have h4096 : decide ((4096 : Int) < (l.length : Int)) = false := decide_eq_false (by omega)
  have h4096' : decide (4096 < l.length) = false := decide_eq_false (by omega)
  have HR := Lib.hid hr
  obtain ⟨xA, xcap, hx, _⟩ := id hr
  subst hx
  obtain ⟨rb, hrb⟩ : ∃ rb, rightV l = rb := ⟨_, rfl⟩
  have HRB := Lib.hid hrb
  rw [hrb]
  clear hl hr hrb
  go_enter Tryz.func7, Tryz.ntmps7
  go_wp2_with fail
  go_loopw [3] (fun i wl => Q1R l w i wl) (fun i _ => l.length - (intOf i).toNat)
  case atStart => exact ⟨0, rfl, by omega, fun j _ h => by omega, Below.refl _ _⟩
  case round =>
    obtain ⟨k, rfl, hk, hok, hB⟩ := hrel
    have HOK := Lib.hid hok
    have HB := Lib.hid hB
    clear hok hB
    by_cases hlt : k < l.length
    · have hki : (k : Int) < l.length := by omega
      obtain ⟨xb, xoff, hxa, hxb, hxc⟩ := (show 0 < l.length → ∃ b off, xA = some ⟨b, off, none⟩ ∧ b < w.heap.size ∧ ∀ i (h : i < l.length), ∃ u, w.cell? ⟨b, off + i * 2, none⟩ = some (.string (bs l[i].nm)) ∧ w.cell? ⟨b, off + i * 2 + 1, none⟩ = some u ∧ StrRow w w.heap.size u l[i].ps by
        obtain ⟨A2, cap2, he, _, _, _, h4⟩ := HR.out
        injection he with e1 _ _
        subst e1
        exact h4) (by omega)
      subst hxa
      obtain ⟨pu, c1, c2, hpr⟩ := hxc k hlt
      have hfd := HFW.out.2 _ (List.getElem_mem hlt)
      have HMEM := Lib.hid (List.getElem_mem hlt)
      have HNO := Lib.hid (fun h => HRB.out ▸ rightV_no hlt h : ¬ OkDecl l l[k] k → rb = false)
      have HNX : Hid (OkDecl l l[k] k → ∀ j (h : j < l.length), j < k + 1 → OkDecl l l[j] j) := Lib.hid (fun h j hj hjk => by
        by_cases e : j = k
        · subst e; exact h
        · exact HOK.out j hj (by omega))
      obtain ⟨d, hd⟩ : ∃ d, l[k] = d := ⟨_, rfl⟩
      rw [hd] at c1 hpr hfd HMEM HNO HNX
      have hp6 : d.ps.length ≤ 6 := hfd.1
      have HNOP : Hid (∀ m (hm : m < d.ps.length), ¬ OkP l d d.ps[m] (d.ps.take m) → rb = false) := Lib.hid (fun m hm hn => HRB.out ▸ rightV_noP HMEM.out hm hn)
      obtain ⟨pA, pcap, hpu, hpc1, hpc2, _⟩ := id hpr
      subst hpu
      have HPR := Lib.hid hpr
      have HC : Hid (∀ wl, Below w.heap.size w wl → wl.cell? ⟨xb, xoff + k * 2, none⟩ = some (.string (bs d.nm)) ∧ wl.cell? ⟨xb, xoff + k * 2 + 1, none⟩ = some (.slice pA d.ps.length pcap)) := Lib.hid (fun wl h => ⟨(h.cell (p := ⟨xb, xoff + k * 2, none⟩) hxb).trans c1, (h.cell (p := ⟨xb, xoff + k * 2 + 1, none⟩) hxb).trans c2⟩)
      have HPS := Lib.hid hfd.2.2
      have HN0 := Lib.hid (rNameP d.nm wr (by have := hfd.2.1; omega))
      have HF0 := Lib.hid (findP (.slice (some ⟨xb, xoff, none⟩) l.length xcap) l d.nm wr w.heap.size (HR.out.below HB.out) (by omega))
      clear hxc c1 c2 hpr hfd hd HMEM
      obtain ⟨c1, c2⟩ := HC.out wr HB.out
      cases hnb : nameB d.nm with
      | false =>
        have hF := HNO.out (fun h => by have := h.nm; rw [hnb] at this; cases this)
        rw [hnb] at HN0
        clear hnb
        subst hF
        go_wp2_with fail
        refine HN0.out.mono ?_; rintro e w' ⟨rfl, rfl⟩
        go_wp2_with fail
        go_ret
        exact ⟨rfl, HB.out⟩
      | true =>
        have HNB := Lib.hid hnb
        rw [hnb] at HN0
        clear hnb
        by_cases hfx : fdx l d.nm = some k
        · have hz : fz l d.nm = (k : Nat) := by unfold fz; rw [hfx]
          rw [hz] at HF0
          have HFX := Lib.hid hfx
          clear hz hfx
          obtain ⟨wo, hwo⟩ : ∃ wo : World, wo = wr := ⟨_, rfl⟩
          subst hwo
          go_wp2_with fail
          refine HN0.out.mono ?_; rintro e w' ⟨rfl, rfl⟩
          go_wp2_with fail
          refine HF0.out.mono ?_; rintro e w' ⟨rfl, rfl⟩
          go_wp2_with fail
          go_loopw [4] (fun i wl => Q2R l d w i wl) (fun i _ => d.ps.length - (intOf i).toNat)
          case atStart => exact ⟨0, rfl, by omega, fun m _ h => by omega, HB.out⟩
          case round =>
            clear HB HN0 HF0 c1 c2
            obtain ⟨j, rfl, hj, hops, hB⟩ := hrel
            have HOP := Lib.hid hops
            have HB := Lib.hid hB
            obtain ⟨c1, c2⟩ := HC.out wr hB
            clear hops hB
            by_cases hjl : j < d.ps.length
            · obtain ⟨A3, cap3, he3, _, _, _, hrd3⟩ := HPR.out.below HB.out
              injection he3 with e4 e5 e6
              subst e4
              clear e5 e6
              obtain ⟨b3, off3, rfl, hb3, hc3⟩ := hrd3 (by omega)
              have q := hc3 j hjl
              have hji : (j : Int) < d.ps.length := by omega
              have hjc : (j : Int) ≤ (pcap : Int) := by omega
              have hj0 : (0 : Int) ≤ (j : Int) := by omega
              have hp100 := HPS.out _ (List.getElem_mem hjl)
              have HBQ : Hid (∀ n, Below w.heap.size w (wr.drewN n)) := Lib.hid (fun n => HB.out.trans (below_drewV _ _ _))
              have HTK : Hid (∀ n, StrRow (wr.drewN n) w.heap.size (.slice (some ⟨b3, off3, none⟩) j pcap) (d.ps.take j)) := Lib.hid (fun n => (HPR.out.below (HBQ.out n)).take hj)
              have HNP := Lib.hid (HNOP.out j hjl)
              have HNQ : Hid (OkP l d d.ps[j] (d.ps.take j) → OkPs l d (j + 1)) := Lib.hid (fun h m hm hmj => by
                by_cases e : m = j
                · subst e; exact h
                · exact HOP.out m hm (by omega))
              obtain ⟨p, hp⟩ : ∃ p, d.ps[j] = p := ⟨_, rfl⟩
              rw [hp] at q HNP HNQ hp100
              have HF : Hid (∀ n, Calls Tryz.prog 21 #[.slice (some ⟨xb, xoff, none⟩) l.length xcap, .string (bs p)] (wr.drewN n) fun e w' => e = .returned (.int .i64 (fz l p)) ∧ w' = wr.drewN n) := Lib.hid (fun n =>
                (findP _ l p (wr.drewN n) w.heap.size (HR.out.below (HBQ.out n)) (by omega)).mono fun e w' h => ⟨h.1, h.2.symm⟩)
              have HH : Hid (∀ n, Calls Tryz.prog 22 #[.slice (some ⟨b3, off3, none⟩) j pcap, .string (bs p)] (wr.drewN n) fun e w' => e = .returned (.bool (decide (p ∈ d.ps.take j))) ∧ w' = wr.drewN n) := Lib.hid (fun n =>
                (hasSP _ (d.ps.take j) p (wr.drewN n) w.heap.size (HTK.out n) (by rw [List.length_take]; omega)).mono fun e w' h => ⟨h.1, h.2.symm⟩)
              have HA : Hid (Calls Tryz.prog 23 #[.slice (some ⟨xb, xoff, none⟩) l.length xcap, .string (bs p)] wr.drew (AllPost l p wr.drew)) := Lib.hid (allP _ l p wr.drew HFW.out hp100 ((HR.out.below (HB.out.trans (Below.refl _ _).drew)).mono HB.out.size))
              clear hrd3 hc3 hp hp100 HTK
              cases hfp : fdx l p with
              | none =>
                have hF := HNP.out (fun h => by have := h.some; rw [hfp] at this; cases this)
                have hz : fz l p = -1 := by unfold fz; rw [hfp]
                rw [hz] at HF
                subst hF
                clear hz hfp
                go_wp2_with fail
                go_quiet ((go_at_call 21; refine Calls.quiet_of_same (HF.out _)))
                go_wp2_with fail
                go_ret
                exact ⟨rfl, HBQ.out _⟩
              | some m =>
                have HFS : Hid ((fdx l p).isSome = true) := Lib.hid (by rw [hfp]; rfl)
                have hz : fz l p = (m : Nat) := by unfold fz; rw [hfp]
                rw [hz] at HF
                have hneg : decide ((m : Int) < 0) = false := decide_eq_false (by omega)
                clear hz hfp
                by_cases hdup : p ∈ d.ps.take j
                · have hF := HNP.out (fun h => h.new hdup)
                  rw [decide_eq_true hdup] at HH
                  subst hF
                  clear hdup
                  go_wp2_with fail
                  go_quiet (first | (go_at_call 21; refine Calls.quiet_of_same (HF.out _)) | (go_at_call 22; refine Calls.quiet_of_same (HH.out _)))
                  go_wp2_with fail
                  go_ret
                  exact ⟨rfl, HBQ.out _⟩
                · have HT : Hid (svB l p d.nm = true → rb = false) := Lib.hid (fun hs => HNP.out (fun h => h.acy (svB_iff.1 hs)))
                  have HN : Hid (svB l p d.nm = false → OkPs l d (j + 1)) := Lib.hid (fun hs => HNQ.out ⟨HFS.out, hdup, fun h => by rw [svB_iff.2 h] at hs; cases hs⟩)
                  rw [decide_eq_false hdup] at HH
                  obtain ⟨sb, hsb⟩ : ∃ sb, svB l p d.nm = sb := ⟨_, rfl⟩
                  rw [hsb] at HT HN
                  have HSB := Lib.hid hsb
                  clear hdup HNP HNQ HBQ HFS hsb
                  have HF1 : Hid (Calls Tryz.prog 21 #[.slice (some ⟨xb, xoff, none⟩) l.length xcap, .string (bs p)] wr.drew fun e w' => e = .returned (.int .i64 (m : Nat)) ∧ w' = wr.drew) := Lib.hid (HF.out 1)
                  have HH1 : Hid (Calls Tryz.prog 22 #[.slice (some ⟨b3, off3, none⟩) j pcap, .string (bs p)] wr.drew fun e w' => e = .returned (.bool false) ∧ w' = wr.drew) := Lib.hid (HH.out 1)
                  clear HF HH
                  go_wp2_with fail
                  go_region_held3 (fun w' => w'.cell? ⟨xb, xoff + k * 2, none⟩ = some (.string (bs d.nm)) ∧ w'.cell? ⟨xb, xoff + k * 2 + 1, none⟩ = some (.slice (some ⟨b3, off3, none⟩) d.ps.length pcap))
                    (first | exact ⟨c1, c2⟩ | assumption | (go_split_ands; exact ⟨keep_belowR hba.out (by assumption), keep_belowR hba.out (by assumption)⟩) | fail)
                    (first
                      | (go_at_call 21; (with_reducible refine HF1.out.mono ?_); rintro e w' ⟨rfl, rfl⟩)
                      | (go_at_call 22; (with_reducible refine HH1.out.mono ?_); rintro e w' ⟨rfl, rfl⟩)
                      | (go_at_call 22; (with_reducible refine hh2.out.mono ?_); rintro e w' ⟨rfl, rfl⟩)
                      | (go_at_call 23; (with_reducible refine HA.out.mono ?_); rintro e w2 ⟨y, X, rfl, hok2, hlen2, _, hrow2, hba⟩; replace hba := Lib.hid hba; have hh2 := hasSP y X d.nm w2 _ hrow2 (by omega); rw [hok2.sv, HSB.out] at hh2; replace hh2 := Lib.hid hh2; clear hok2 hrow2))
                  all_goals
                    have HB2 := Lib.hid (HB.out.trans ((below_drew hba.out).mono HB.out.size))
                    clear hba hh2 HA HF1 HH1 HB
                    cases sb with
                    | true =>
                      have hF := HT.out rfl
                      subst hF
                      go_wp2_with fail
                      go_ret
                      exact ⟨rfl, HB2.out⟩
                    | false =>
                      have HN2 := Lib.hid (HN.out rfl)
                      go_wp2_with fail
                      go_roundw
                      case rel => exact ⟨j + 1, by go_num, by omega, HN2.out, HB2.out⟩
                      case measure => simp [intOf]; omega
            · have HNX2 := Lib.hid (HNX.out ⟨HNB.out, HFX.out, fun m hm _ => HOP.out m hm (by omega)⟩)
              go_wp2_with fail
              go_roundw
              case rel => exact ⟨k + 1, by go_num, by omega, HNX2.out, HB.out⟩
              case measure => simp [intOf]; omega
        · have hF := HNO.out (fun h => hfx h.fst)
          obtain ⟨m, hm, hmk⟩ : ∃ z : Int, fz l d.nm = z ∧ z ≠ (k : Int) := by
            refine ⟨_, rfl, fun e => hfx ?_⟩
            unfold fz at e
            cases hf : fdx l d.nm with
            | none => rw [hf] at e; simp only at e; omega
            | some q =>
              rw [hf] at e
              simp only at e
              have : q = k := by omega
              rw [this]
          have hdk : decide (m = (k : Int)) = false := decide_eq_false hmk
          have hdk2 : decide (m ≠ (k : Int)) = true := decide_eq_true hmk
          rw [hm] at HF0
          subst hF
          clear hfx hm
          go_wp2_with fail
          refine HN0.out.mono ?_; rintro e w' ⟨rfl, rfl⟩
          go_wp2_with fail
          refine HF0.out.mono ?_; rintro e w' ⟨rfl, rfl⟩
          go_wp2_with fail
          go_ret
          exact ⟨rfl, HB.out⟩
    · have hF : rb = true := by rw [← HRB.out, right_iff]; exact fun i hi => HOK.out i hi (by omega)
      subst hF
      go_wp2_with fail
      go_ret
      exact ⟨rfl, HB.out⟩
end Go.Proofs.YtmnhnighlgpjmaaGreat
