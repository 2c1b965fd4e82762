/-
  The reference of layer 8: all, Serves.
-/
import Derived.Test.YtmnhnighlgpjmaaGreatVR1
namespace Go.Proofs.YtmnhnighlgpjmaaGreat
set_option linter.unusedVariables false
set_option linter.unusedSimpArgs false
open Go.RowKit

/-- What a string serves, so far: the first i are done. -/
structure Bsv (l : VL) (v : Str) (X : List Str) (i : Nat) : Prop where
  hd : ∃ t, X = v :: t
  nd : X.Nodup
  sv : ∀ x ∈ X, Sv l v x
  cl : ∀ j (h : j < X.length), j < i → ∀ p ∈ pars l X[j], p ∈ X
theorem Bsv.start (l : VL) (v : Str) : Bsv l v [v] 0 := ⟨⟨[], rfl⟩, by simp, fun x hx => by rw [List.mem_singleton.1 hx]; exact .refl _, fun j _ h => by omega⟩
theorem Bsv.len {l : VL} {v : Str} {X : List Str} {i : Nat} (h : Bsv l v X i) {U : List Str} (hU : Uni l U) (hv : v ∈ U) : X.length ≤ 200 :=
  hU.le h.nd fun x hx => (h.sv x hx).closed (S := fun y => y ∈ U) hv hU.cl
theorem Bsv.sz {l : VL} {v : Str} {X : List Str} {i : Nat} (h : Bsv l v X i) {U : List Str} (hU : Uni l U) (hv : v ∈ U) : ∀ x ∈ X, x ∈ U := fun x hx => (h.sv x hx).closed (S := fun y => y ∈ U) hv hU.cl
theorem Bsv.push {l : VL} {v : Str} {X : List Str} {i : Nat} (h : Bsv l v X i) (hi : i < X.length) {p : Str} (hp : p ∈ pars l X[i]) (hn : p ∉ X) : Bsv l v (X ++ [p]) i := by
  obtain ⟨t, ht⟩ := h.hd
  refine ⟨⟨t ++ [p], by rw [ht]; rfl⟩, ?_, fun x hx => ?_, fun j hj hji q hq => ?_⟩
  · rw [List.nodup_append]
    exact ⟨h.nd, by simp, fun a ha b hb => by rw [List.mem_singleton] at hb; subst hb; exact fun e => hn (e ▸ ha)⟩
  · rcases List.mem_append.1 hx with hx | hx
    · exact h.sv x hx
    · rw [List.mem_singleton.1 hx]
      exact (h.sv _ (List.getElem_mem hi)).trans (Sv.one hp)
  · rw [List.getElem_append_left (by omega)] at hq
    exact List.mem_append_left _ (h.cl j (by omega) hji q hq)
/-- .. k of the parents ps of the string s at place i are in. -/
structure BsvI (l : VL) (v : Str) (X : List Str) (i : Nat) (s : Str) (ps : List Str) (k : Nat) : Prop where
  b : Bsv l v X i
  at' : X[i]? = some s
  done : ∀ m (h : m < ps.length), m < k → ps[m] ∈ X
theorem BsvI.lt {l : VL} {v : Str} {X : List Str} {i k : Nat} {s : Str} {ps : List Str} (h : BsvI l v X i s ps k) : i < X.length := (List.getElem?_eq_some_iff.1 h.at').1
theorem BsvI.get {l : VL} {v : Str} {X : List Str} {i k : Nat} {s : Str} {ps : List Str} (h : BsvI l v X i s ps k) : X[i]'h.lt = s := (List.getElem?_eq_some_iff.1 h.at').2
theorem BsvI.old {l : VL} {v : Str} {X : List Str} {i k : Nat} {s : Str} {ps : List Str} (h : BsvI l v X i s ps k) (hk : k < ps.length) (hm : ps[k] ∈ X) : BsvI l v X i s ps (k + 1) :=
  ⟨h.b, h.at', fun m hm2 hmk => by
    by_cases e : m = k
    · subst e; exact hm
    · exact h.done m hm2 (by omega)⟩
theorem BsvI.new {l : VL} {v : Str} {X : List Str} {i k : Nat} {s : Str} {ps : List Str} (h : BsvI l v X i s ps k) (hps : pars l s = ps) (hk : k < ps.length) (hm : ps[k] ∉ X) : BsvI l v (X ++ [ps[k]]) i s ps (k + 1) := by
  refine ⟨h.b.push h.lt (by rw [h.get, hps]; exact List.getElem_mem hk) hm, ?_, fun m hm2 hmk => ?_⟩
  · rw [List.getElem?_append_left h.lt]; exact h.at'
  · by_cases e : m = k
    · subst e; simp
    · exact List.mem_append_left _ (h.done m hm2 (by omega))
theorem BsvI.over {l : VL} {v : Str} {X : List Str} {i k : Nat} {s : Str} {ps : List Str} (h : BsvI l v X i s ps k) (hps : pars l s = ps) (hk : ps.length ≤ k) : Bsv l v X (i + 1) := by
  refine ⟨h.b.hd, h.b.nd, h.b.sv, fun j hj hji p hp => ?_⟩
  by_cases e : j = i
  · subst e
    rw [h.get, hps] at hp
    obtain ⟨m, hm, rfl⟩ := List.getElem_of_mem hp
    exact h.done m hm (by omega)
  · exact h.b.cl j hj (by omega) p hp
theorem Bsv.none {l : VL} {v : Str} {X : List Str} {i : Nat} (h : Bsv l v X i) (hi : i < X.length) (hps : pars l X[i] = []) : Bsv l v X (i + 1) := by
  refine ⟨h.hd, h.nd, h.sv, fun j hj hji p hp => ?_⟩
  by_cases e : j = i
  · subst e; rw [hps] at hp; cases hp
  · exact h.cl j hj (by omega) p hp
/-- All that a string serves, itself first. -/
structure AllOk (l : VL) (v : Str) (X : List Str) : Prop where
  hd : ∃ t, X = v :: t
  nd : X.Nodup
  mem : ∀ x, x ∈ X ↔ Sv l v x
theorem Bsv.ok {l : VL} {v : Str} {X : List Str} {i : Nat} (h : Bsv l v X i) (hi : X.length ≤ i) : AllOk l v X := by
  refine ⟨h.hd, h.nd, fun x => ⟨h.sv x, fun hs => ?_⟩⟩
  refine hs.closed (S := fun y => y ∈ X) ?_ fun y hy p hp => ?_
  · obtain ⟨t, ht⟩ := h.hd
    rw [ht]; simp
  · obtain ⟨j, hj, rfl⟩ := List.getElem_of_mem hy
    exact h.cl j hj (by omega) p hp
theorem AllOk.sv {l : VL} {v : Str} {X : List Str} (h : AllOk l v X) (x : Str) : decide (x ∈ X) = svB l v x := by
  rw [Bool.eq_iff_iff, decide_eq_true_iff, svB_iff]; exact h.mem x
theorem pushS (W : World) (base : Nat) (u : Value) (L : List Str) (s : Str) (ho : OwnS W base u L) (hb : base ≤ W.heap.size) (hl : L.length ≤ 1000) :
    ∃ g' cap' w3, (Builtin.append_ #[27, 27] 27 #[u, .slice (some ⟨W.heap.size, 0, none⟩) 1 1]).run Tryz.prog (W.alloc (.cells #[.string (bs s)] 9)) = .ok (.slice (some ⟨g', 0, none⟩) (L.length + 1) cap') w3 ∧
      OwnS w3 base (.slice (some ⟨g', 0, none⟩) (L.length + 1) cap') (L ++ [s]) ∧ Below base W w3 := by
  obtain ⟨i0, hi, hz0, hz1, hz2⟩ := info_parts infoS
  have ho2 := ho.below (below_new W (.cells #[.string (bs s)] 9))
  obtain ⟨v', w3, hrun, ho3, hg3, _, _⟩ := run_append_own_at (P := Tryz.prog) (W.alloc (.cells #[.string (bs s)] 9)) base 27 27 9 i0 (.string (bs [])) 1 16 Tryz.underlying27 hi hz0 hz1 hz2 rfl (by decide) _ _ _ ho2 ⟨W.heap.size, 0, none⟩ 1 1 [.string (bs s)] rfl (fun j u hu => by
    cases j with
    | zero =>
      simp at hu
      subst hu
      exact (Blk.new W _ _).cell 0
    | succ j => simp at hu) (fun u hu => by rw [List.mem_singleton.1 hu]; rfl) (by unfold maxLen; omega) (by omega) (by simp; omega)
  obtain ⟨g', cap', rfl⟩ := own_succ ho3
  refine ⟨g', cap', w3, hrun, ?_, ?_⟩
  · unfold OwnS
    rw [sv_append, List.length_append]
    exact ho3
  · have hB := (Below.refl base W).alloc hb (.cells #[.string (bs s)] 9)
    exact hB.grown hg3 (by simp; omega) (fun j hj => (ho2.lt j hj).1)
def AllPost (l : VL) (v : Str) (w : World) (e : Ending) (w' : World) : Prop := ∃ u X, e = .returned u ∧ AllOk l v X ∧ X.length ≤ 200 ∧ (∀ x ∈ X, x.length ≤ 1000) ∧ StrRow w' w'.heap.size u X ∧ Below w.heap.size w w'
def AoRel (l : VL) (v : Str) (w : World) (o i : Value) (wl : World) : Prop := ∃ (k : Nat) (X : List Str), i = .int .i64 k ∧ k ≤ X.length ∧ Bsv l v X k ∧ OwnS wl w.heap.size o X ∧ Below w.heap.size w wl
def AiRel (l : VL) (v s : Str) (ps : List Str) (n : Nat) (w : World) (o i : Value) (wl : World) : Prop := ∃ (k : Nat) (X : List Str), i = .int .i64 k ∧ k ≤ ps.length ∧ BsvI l v X n s ps k ∧ OwnS wl w.heap.size o X ∧ Below w.heap.size w wl
set_option maxRecDepth 100000 in
set_option maxHeartbeats 8000000 in
theorem allP (u : Value) (l : VL) (v : Str) (w : World) (hl : Fw l) (hv : v.length ≤ 100) (hr : VRow w w.heap.size u l) :
    Calls Tryz.prog 23 #[u, .string (bs v)] w (AllPost l v w) := by
  have HU := Lib.hid (uniOf_ok hl hv)
  have HVU : Hid (v ∈ uniOf l v) := Lib.hid (by simp [uniOf])
  have HFW := Lib.hid hl
  have hl12 : l.length ≤ 12 := hl.1
  have HR := Lib.hid hr
  obtain ⟨xA, xcap, hx, _⟩ := id hr
  subst hx
  have HB0 := Lib.hid (below_new w (.cells #[.string (bs v)] 9))
  have HO0 : Hid (OwnS (w.alloc (.cells #[.string (bs v)] 9)) w.heap.size (.slice (some ⟨w.heap.size, 0, none⟩) 1 1) [v]) := Lib.hid
    ⟨rfl, .inr ⟨w.heap.size, 1, #[.string (bs v)], rfl, Nat.le_refl _, heap_alloc_new w _, Nat.le_refl _, by decide, rfl, rfl⟩⟩
  clear hl hr hv
  go_enter Tryz.func23, Tryz.ntmps23
  go_wp2_with fail
  go_loopw [5, 6] (fun o i wl => AoRel l v w o i wl) (fun _ i _ => 201 - (intOf i).toNat)
  case atStart => exact ⟨0, [v], rfl, by omega, Bsv.start l v, HO0.out, HB0.out⟩
  case round =>
    clear HO0 HB0
    obtain ⟨k, X, rfl, hk, hbf, ho, hB⟩ := hrel
    have hX := hbf.len HU.out HVU.out
    obtain ⟨oA, ocap, hov, _⟩ := id ho.srow
    subst hov
    have HBF := Lib.hid hbf
    have HO := Lib.hid ho
    have HB := Lib.hid hB
    clear hbf ho hB
    by_cases hlt : k < X.length
    · obtain ⟨ob, ooff, rfl, co⟩ := HO.out.at k hlt
      have hki : (k : Int) < X.length := by omega
      have hsu := HBF.out.sz HU.out HVU.out _ (List.getElem_mem hlt)
      have hnone := HBF.out.none hlt
      obtain ⟨s, hs⟩ : ∃ s, X[k] = s := ⟨_, rfl⟩
      rw [hs] at co hsu hnone
      have HF := Lib.hid (findP (.slice xA l.length xcap) l s wr w.heap.size (HR.out.below HB.out) (by omega))
      cases hfd : fdx l s with
      | none =>
        obtain ⟨hp0, _⟩ := fdx_none hfd
        have hz : fz l s = -1 := by unfold fz; rw [hfd]
        rw [hz] at HF
        have HN := Lib.hid (hnone (by unfold pars; rw [hp0]; rfl))
        clear hnone hs hfd hp0 hz hsu
        go_wp2_with fail
        refine HF.out.mono ?_; rintro e w' ⟨rfl, rfl⟩
        go_wp2_with fail
        go_roundw
        case rel => exact ⟨k + 1, X, by go_num, by omega, HN.out, HO.out, HB.out⟩
        case measure => simp [intOf]; omega
      | some m =>
        obtain ⟨hm, hnm, hfirst, hpo⟩ := fdx_some hfd
        have hz : fz l s = (m : Nat) := by unfold fz; rw [hfd]
        rw [hz] at HF
        have hmi : (m : Int) < l.length := by omega
        have hneg : decide ((m : Int) < 0) = false := decide_eq_false (by omega)
        have hfd6 := HFW.out.2 _ (List.getElem_mem hm)
        obtain ⟨xb, xoff, hxa, hxb, hxc⟩ := (show 0 < l.length → ∃ b off, xA = some ⟨b, off, none⟩ ∧ b < w.heap.size ∧ ∀ i (h : i < l.length), ∃ u, w.cell? ⟨b, off + i * 2, none⟩ = some (.string (bs l[i].nm)) ∧ w.cell? ⟨b, off + i * 2 + 1, none⟩ = some u ∧ StrRow w w.heap.size u l[i].ps by
          obtain ⟨A2, cap2, he, _, _, _, h4⟩ := HR.out
          injection he with e1 _ _
          subst e1
          exact h4) (by omega)
        subst hxa
        obtain ⟨pu, c1, c2, hpr⟩ := hxc m hm
        obtain ⟨ps, hps⟩ : ∃ ps, l[m].ps = ps := ⟨_, rfl⟩
        rw [hps] at hpr hpo hfd6
        have hp6 : ps.length ≤ 6 := hfd6.1
        have HPP : Hid (pars l s = ps) := Lib.hid (by unfold pars; rw [hpo]; rfl)
        obtain ⟨pA, pcap, hpu, _⟩ := id hpr
        subst hpu
        have HPR := Lib.hid hpr
        have HC2 : Hid (∀ wl, Below w.heap.size w wl → wl.cell? ⟨xb, xoff + m * 2 + 1, none⟩ = some (.slice pA ps.length pcap)) := Lib.hid (fun wl h => (h.cell (p := ⟨xb, xoff + m * 2 + 1, none⟩) hxb).trans c2)
        have HBI : Hid (BsvI l v X k s ps 0) := Lib.hid ⟨HBF.out, by rw [List.getElem?_eq_getElem hlt, hs], fun m _ h => by omega⟩
        clear hnone hs hfd hz hsu hnm hfirst hpo hfd6 hxc c1 c2 hpr hps HBF
        obtain ⟨wo, hwo⟩ : ∃ wo : World, wo = wr := ⟨_, rfl⟩
        subst hwo
        go_wp2_with fail
        refine HF.out.mono ?_; rintro e w' ⟨rfl, rfl⟩
        go_wp2_with fail
        go_loopw [5, 8] (fun o i wl => AiRel l v s ps k w o i wl) (fun _ i _ => ps.length - (intOf i).toNat)
        case atStart => exact ⟨0, X, rfl, by omega, HBI.out, HO.out, HB.out⟩
        case round =>
          clear HBI HO HB co hlt hki hk hX
          obtain ⟨j, Y, rfl, hj, hbi, ho, hB⟩ := hrel
          have hY := hbi.b.len HU.out HVU.out
          obtain ⟨oA, ocap, hov, _⟩ := id ho.srow
          subst hov
          have c2 := HC2.out wr hB
          have hkY := hbi.lt
          have HBI := Lib.hid hbi
          have HO := Lib.hid ho
          have HB := Lib.hid hB
          clear hbi ho hB
          by_cases hjl : j < ps.length
          · obtain ⟨A3, cap3, he3, _, _, _, hrd3⟩ := HPR.out.below HB.out
            injection he3 with e4 e5 e6
            subst e4
            clear e5 e6
            obtain ⟨b3, off3, rfl, hb3, hc3⟩ := hrd3 (by omega)
            have q := hc3 j hjl
            have hji : (j : Int) < ps.length := by omega
            have HOLD := Lib.hid (HBI.out.old hjl)
            have HNEW := Lib.hid (HBI.out.new HPP.out hjl)
            obtain ⟨p, hp⟩ : ∃ p, ps[j] = p := ⟨_, rfl⟩
            rw [hp] at q HOLD HNEW
            have HH := Lib.hid (hasSP _ Y p wr _ HO.out.srow (by omega))
            clear hrd3 hc3 hp
            by_cases hpy : p ∈ Y
            · rw [decide_eq_true hpy] at HH
              have HN := Lib.hid (HOLD.out hpy)
              clear hpy
              go_wp2_with fail
              refine HH.out.mono ?_; rintro e w' ⟨rfl, rfl⟩
              go_wp2_with fail
              go_roundw
              case rel => exact ⟨j + 1, Y, by go_num, by omega, HN.out, HO.out, HB.out⟩
              case measure => simp [intOf]; omega
            · rw [decide_eq_false hpy] at HH
              have HN := Lib.hid (HNEW.out hpy)
              obtain ⟨g', cap', w3, hrun, ho3, hb3'⟩ := pushS wr w.heap.size _ Y p HO.out HB.out.size (by omega)
              have HRUN := Lib.hid hrun
              have HO3 : Hid (OwnS w3 w.heap.size (.slice (some ⟨g', 0, none⟩) (Y.length + 1) cap') (Y ++ [p])) := Lib.hid ho3
              have HB3 := Lib.hid (HB.out.trans hb3')
              clear hpy hrun ho3 hb3'
              go_wp2_with fail
              refine HH.out.mono ?_; rintro e w' ⟨rfl, rfl⟩
              go_wp2_with (at_builtin; refine Lib.wpList_append_run_sl _ rfl _ _ 27 rfl _ _ rfl rfl HRUN.out ?_)
              go_roundw
              case rel => exact ⟨j + 1, Y ++ [p], by go_num, by omega, HN.out, HO3.out, HB3.out⟩
              case measure => simp [intOf]; omega
          · have HN := Lib.hid (HBI.out.over HPP.out (by omega))
            go_wp2_with fail
            go_roundw
            case rel => exact ⟨k + 1, Y, by go_num, by omega, HN.out, HO.out, HB.out⟩
            case measure => simp [intOf]; omega
    · have HF : Hid (AllPost l v w (.returned (.slice oA X.length ocap)) wr) := Lib.hid ⟨_, X, rfl, HBF.out.ok (by omega), hX, fun x hx => HU.out.sz x (HBF.out.sz HU.out HVU.out x hx), HO.out.srow, HB.out⟩
      go_wp2_with fail
      go_ret
      exact HF.out
theorem rServesP (u : Value) (l : VL) (v x : Str) (w : World) (hl : Fw l) (hv : v.length ≤ 100) (hr : VRow w w.heap.size u l) :
    Calls Tryz.prog 9 #[u, .string (bs v), .string (bs x)] w fun e w' => e = .returned (.bool (svB l v x)) ∧ Below w.heap.size w w' := by
  have HA := Lib.hid (allP u l v w hl hv hr)
  clear hr hl hv
  go_enter Tryz.func9, Tryz.ntmps9
  go_wp2_with fail
  refine HA.out.mono ?_; rintro e w2 ⟨y, X, rfl, hok, hlen, _, hrow, hb⟩
  have hH := hasSP y X x w2 _ hrow (by omega)
  rw [hok.sv] at hH
  have HH := Lib.hid hH
  have HB := Lib.hid hb
  clear hok hlen hrow hb hH HA
  go_wp2_with fail
  refine HH.out.mono ?_; rintro e w' ⟨rfl, rfl⟩
  go_wp2_with fail
  go_ret
  exact ⟨rfl, HB.out⟩
end Go.Proofs.YtmnhnighlgpjmaaGreat
