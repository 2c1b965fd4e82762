/-
  The law VersionLine: its walk.
-/
import Derived.Test.YtcljgpgdbjpemaaVLawZ
import Derived.Test.YtcljgpgdbjpemaaVOrd
import Derived.StillTailTactics
import Derived.IntWalk
namespace Go.Proofs.Ytcljgpgdbjpemaa.versionLine
open Go.Proofs.Ytcljgpgdbjpemaa
set_option linter.unusedVariables false
set_option linter.unusedSimpArgs false
open Go.RowKit

theorem still_skip {P : Program} {ops : Array Oper} {w : World} {Q : Act → Prop} {a : Act} {o : Oper} {rest : List Oper} (hw : Region.wanted o (yielded ops a.tmps) = false)
    (h : ∀ K : Act → Prop, (∀ a, wpStill P ops w Q rest a → K a) → K (a.put o.dst undef)) : wpStill P ops w Q (o :: rest) a :=
  wpStill_step (fun K hK => by simp only [hw, Bool.false_eq_true, if_false]; exact h K hK)
theorem str_ge {a b : Str} (h : ¬ b ≤ a) : Op.bytesLess (bs a).toList (bs b).toList = true := by
  rw [toList_bs, toList_bs, bytesLess_lt, decide_eq_true_iff]
  exact List.not_le.1 h
theorem line_at {l : VL} {v : Str} {L : List Str} (h : LineOk l v L) : (∃ h0 : 0 < L.length, L[0] = v) ∧ (∀ i (hi : i < L.length), svB l v L[i] = true) ∧ (∀ i (hi : i < L.length), 0 < i → L[i] ≠ v) ∧ ∀ i (hi : i + 1 < L.length), 0 < i → ¬ L[i + 1] ≤ L[i] := by
  obtain ⟨t, rfl, ht⟩ := h.hd
  have hn := h.nd
  refine ⟨⟨by simp, rfl⟩, fun i hi => svB_iff.2 ((h.mem _).1 (List.getElem_mem hi)), fun i hi h0 e => ?_, fun i hi h0 hle => ?_⟩
  · cases i with
    | zero => omega
    | succ i => exact (List.nodup_cons.1 hn).1 (by rw [← e]; exact List.getElem_mem (by simpa using hi))
  · cases i with
    | zero => omega
    | succ i =>
      have hi2 : i + 1 < t.length := by simpa using hi
      have h1 := List.pairwise_iff_getElem.1 ht i (i + 1) (by omega) hi2 (by omega)
      have h2 : t[i + 1] ≤ t[i] := hle
      have h3 : t[i] = t[i + 1] := List.le_antisymm h1 h2
      exact List.pairwise_iff_getElem.1 (List.nodup_iff_pairwise_ne.1 (List.nodup_cons.1 hn).2) i (i + 1) (by omega) hi2 (by omega) h3
set_option maxRecDepth 100000 in
theorem run_appS (w : World) (base B : Nat) (v u : Value) (L q : List Str) (hv : OwnS w base v L) (hu : StrRow w B u q) (hl : L.length + q.length ≤ 1000) (hb : base ≤ w.heap.size) :
    ∃ v' w', (Builtin.append_ #[39, 39] 39 #[v, u]).run Try.prog w = .ok v' w' ∧ OwnS w' base v' (L ++ q) ∧ w.grownBy w' v.ownBlock := by
  obtain ⟨i0, hi, hz0, hz1, hz2⟩ := info_parts infoS
  obtain ⟨A, cap, rfl, k1, k2, k3, hA⟩ := hu
  rcases A with _ | ad
  · have hc := k3 rfl
    have h0 : q.length = 0 := by omega
    obtain rfl : q = [] := List.eq_nil_of_length_eq_zero h0
    have hu := run_underlying (P := Try.prog) Try.underlying39
    have hvs : ∃ A n cap, v = .slice A n cap ∧ n ≤ cap := by
      rcases hv.2 with ⟨rfl, _⟩ | ⟨g, cap, cur, rfl, _, _, h1, _⟩
      · exact ⟨none, 0, 0, rfl, Nat.le_refl _⟩
      · exact ⟨_, _, _, rfl, h1⟩
    obtain ⟨A, n, cp, rfl, hnc⟩ := hvs
    refine ⟨.slice A n cp, w, ?_, by rw [List.append_nil]; exact hv, grown_refl _ _⟩
    cases A <;> simp [Builtin.append_, hu, Builtin.lenOf, Builtin.firstCells, sizeOf, typeInfo, hi, storeCells, hnc]
  · have hnews : ∀ j u, (sv q)[j]? = some u → w.cell? (ad.add j) = some u := by
      intro j u hu
      rw [sv_get] at hu
      by_cases hj : j < q.length
      · rw [List.getElem?_eq_getElem hj] at hu
        simp only [Option.map_some, Option.some.injEq] at hu
        obtain ⟨b, off, h1, _, h2⟩ := hA (by omega)
        injection h1 with h1
        subst h1
        rw [Go.WideShapes.add_plain, h2 j hj, hu]
      · rw [List.getElem?_eq_none (by omega)] at hu; simp at hu
    obtain ⟨v', w', hr, h2, h3, _, _⟩ := run_append_own_at (P := Try.prog) w base 39 39 9 i0 (.string (bs [])) 1 16 Try.underlying39 hi hz0 hz1 hz2 rfl (by decide) v L.length (sv L) hv ad q.length cap (sv q) (by rw [sv_length]; omega) hnews (sv_one _) (by unfold maxLen; omega) (by omega) hb
    refine ⟨v', w', hr, ?_, h3⟩
    unfold OwnS
    rw [sv_append, List.length_append]
    exact h2
def L1Rel (n : Nat) (w : World) (i : Value) (wl : World) : Prop := ∃ m : Nat, i = .int .i64 m ∧ 1 ≤ m ∧ m ≤ n ∧ Below w.heap.size w wl
def L2Rel (n : Nat) (w : World) (i : Value) (wl : World) : Prop := ∃ m : Nat, i = .int .i64 m ∧ m ≤ n ∧ Below w.heap.size w wl
def L4Rel (s : Str) (L : List Str) (w : World) (f i : Value) (wl : World) : Prop := ∃ k : Nat, i = .int .i64 k ∧ k ≤ L.length ∧ f = .bool (decide (s ∈ L.take k)) ∧ Below w.heap.size w wl
set_option maxRecDepth 100000 in
set_option maxHeartbeats 8000000 in
theorem walk (w : World) (x : Value) (l : VL) (av : ByteArray) (hr : VRow w w.heap.size x l) (_ : av.size ≤ maxLen) :
    Calls Try.prog 6 #[x, .string av] w fun e w' => e = .returned (.bool true) ∧ Below w.heap.size w w' := by
  obtain ⟨v, rfl⟩ := str_of av
  have hW := Nat.le_refl w.heap.size
  have HSM := Lib.hid (smallVP w)
  have HR := Lib.hid hr
  obtain ⟨xA, xcap, hx, hx1, hx2, _⟩ := id hr
  subst hx
  have hsv := bs_size v
  cases hfw : fewV l with
  | false =>
    clear hr hsv
    have HFP := Lib.hid (fun w2 (h : Below w.heap.size w w2) => fewVP _ l w2 _ (HR.out.keep h))
    rw [hfw] at HFP
    clear hfw
    go_enter Try.func6, Try.ntmps6
    go_wp2_with fail
    refine HSM.out.mono ?_; rintro e w1 ⟨rfl, hb⟩
    have HB := Lib.hid hb
    clear hb
    go_wp2_with fail
    refine (HFP.out _ HB.out).mono ?_; rintro e w2 ⟨rfl, rfl⟩
    go_wp2_with fail
    go_ret
    exact ⟨rfl, HB.out⟩
  | true =>
    have HFP := Lib.hid (fun w2 (h : Below w.heap.size w w2) => fewVP _ l w2 _ (HR.out.keep h))
    rw [hfw] at HFP
    have HFW := Lib.hid (fewV_fw hfw)
    clear hfw hr
    by_cases hvc : (bs v).size ≤ 100
    · have hv1 : v.length ≤ 100 := by omega
      clear hsv
      go_enter Try.func6, Try.ntmps6
      go_wp2_with fail
      refine HSM.out.mono ?_; rintro e w1 ⟨rfl, hb⟩
      have HB := Lib.hid hb
      have HR1 := Lib.hid (HR.out.keep hb)
      clear hb HSM HR
      go_wp2_with fail
      refine (HFP.out _ HB.out).mono ?_; rintro e w2 ⟨rfl, rfl⟩
      clear HFP
      have hlm : l.length ≤ 12 := HFW.out.1
      have HLN := Lib.hid (lineFw HFW.out hv1 HR1.out)
      go_wp2_with fail
      refine HLN.out.mono ?_; rintro e w4 ⟨u, L, rfl, hlo, hL2, hs4, hB⟩
      have HB4 := Lib.hid (below3 HB.out hB hW)
      have HR4 := Lib.hid (HR1.out.keep hB)
      have HLO := Lib.hid hlo
      obtain ⟨⟨hL0, hLv⟩, hsvb, hnv, hasc⟩ := line_at hlo
      obtain ⟨uA, ucap, rfl, _, _, _, hur⟩ := hs4
      obtain ⟨xb, xoff, rfl, hxb, hxc⟩ := hur hL0
      have HXC : Hid (∀ wl, Below w4.heap.size w4 wl → ∀ i (h : i < L.length), wl.cell? ⟨xb, xoff + i, none⟩ = some (.string (bs L[i]))) := Lib.hid (fun wl h i hi => (h.cell (p := ⟨xb, xoff + i, none⟩) hxb).trans (hxc i hi))
      have c0 := hxc 0 hL0
      rw [hLv, Nat.add_zero] at c0
      have hvv : ((bs v).toList == (bs v).toList) = true := by simp
      have hLz : ((L.length : Int) == 0) = false := by
        have : (L.length : Int) ≠ 0 := by omega
        simpa using this
      have HSV := Lib.hid hsvb
      have HNV := Lib.hid hnv
      have HAS := Lib.hid hasc
      clear hB hur hxc hlo hLv hsvb hnv hasc HLN HR1 HB
      go_wp2_with fail
      clear hvv c0
      go_loopw [7] (fun i wl => L1Rel L.length w4 i wl) (fun i _ => L.length - (intOf i).toNat)
      case atStart => exact ⟨1, rfl, by omega, by omega, Below.refl _ _⟩
      case round =>
        obtain ⟨m, rfl, hm1, hm, hB⟩ := hrel
        by_cases hlt : m < L.length
        · have c1 := HXC.out wr hB m hlt
          have hne := str_beq (HNV.out m hlt (by omega))
          have hsb := HSV.out m hlt
          have hasm := fun j (e : m = j + 1) (h0 : 0 < j) => HAS.out j (by omega) h0
          have hLm := fun j (e : m = j + 1) => (show L[j + 1]'(by omega) = L[m] by simp only [e])
          obtain ⟨s, hs⟩ : ∃ s, L[m] = s := ⟨_, rfl⟩
          rw [hs] at c1 hne hsb hLm
          have HBq := hB.trans ((Below.refl _ _).drew : Below w4.heap.size wr wr.drew)
          have HC := Lib.hid (servesFw (w := wr.drew) HFW.out hv1 hsb (HR4.out.keep HBq))
          have HB6 := Lib.hid HBq
          have hmi : (m : Int) < L.length := by omega
          have hmi0 : (0 : Int) ≤ m := by omega
          by_cases h1 : 1 < m
          · obtain ⟨j, hj⟩ : ∃ j, m = j + 1 := ⟨m - 1, by omega⟩
            have c3 := HXC.out wr hB j (by omega)
            have hgt := hasm j hj (by omega)
            rw [hLm j hj] at hgt
            obtain ⟨t, ht⟩ : ∃ t, L[j] = t := ⟨_, rfl⟩
            rw [ht] at c3 hgt
            have hge := str_ge hgt
            have hm0 : decide (1 < m) = true := decide_eq_true h1
            have hm00 : (1 : Int) < m := by omega
            have hsub : (m : Int) - 1 = j := by omega
            have hj0 : (0 : Int) ≤ j := by omega
            have hjl : (j : Int) < L.length := by omega
            have hwr : IntKind.i64.wrap (j : Int) = (j : Int) := IntWalk.i64_in _ (by omega)
            clear hB HBq hsb hasm hLm hs hgt ht hj
            go_wp2_with fail
            go_still_tail 29, (by kernel_rfl)
            clear hwr
            change wpList _ _ _ _ _ wr.drew
            go_wp2_with fail
            refine HC.out.mono ?_; rintro e w6 ⟨rfl, hB6⟩
            have HB7 := Lib.hid (HB6.out.trans (hB6.mono HB6.out.size))
            clear HC hB6
            go_wp2_with fail
            go_roundw
            case rel => exact ⟨m + 1, by go_num, by omega, by omega, HB7.out⟩
            case measure => simp [intOf]; omega
          · have hm01 : decide ((1 : Int) < (m : Int)) = false := decide_eq_false (by omega)
            clear h1 hB HBq hsb hasm hLm hs
            go_wp2_with fail
            refine wp_region_still_tail 29 (by kernel_rfl) (by kernel_rfl) ?_
            simp only [List.take_succ_cons, List.take_zero, List.drop_succ_cons, List.drop_zero]
            iterate 10 still_step
            iterate 10
              (generalize hA : Act.mk _ _ = A
               refine still_skip (by subst hA; kernel_rfl) (fun K hK => ?_)
               subst hA
               go_simp
               refine hK _ ?_
               clear hK K)
            iterate 9 still_step
            refine wpStill_nil ?_
            change wpList _ _ _ _ _ wr.drew
            go_wp2_with fail
            refine HC.out.mono ?_; rintro e w6 ⟨rfl, hB6⟩
            have HB7 := Lib.hid (HB6.out.trans (hB6.mono HB6.out.size))
            clear HC hB6
            go_wp2_with fail
            go_roundw
            case rel => exact ⟨m + 1, by go_num, by omega, by omega, HB7.out⟩
            case measure => simp [intOf]; omega
        · have HB5 := Lib.hid hB
          clear hB
          go_wp2_with fail
          go_loopw [8] (fun i wl => L2Rel l.length w4 i wl) (fun i _ => l.length - (intOf i).toNat)
          case atStart => exact ⟨0, rfl, by omega, HB5.out⟩
          case round =>
            clear HB5
            obtain ⟨k, rfl, hk, hB⟩ := hrel
            by_cases hkl : k < l.length
            · obtain ⟨A2, cap2, he, _, _, _, hrd⟩ := HR4.out.keep hB
              injection he with e1 e2 e3
              subst e1
              clear e2 e3
              obtain ⟨bb, off, rfl, hb1, hc⟩ := hrd (by omega)
              obtain ⟨pv, c1, c2, hu⟩ := hc k hkl
              have hfd := HFW.out.2 _ (List.getElem_mem hkl)
              obtain ⟨d, hd⟩ : ∃ d, l[k] = d := ⟨_, rfl⟩
              rw [hd] at c1 hu hfd
              have hpl : d.ps.length ≤ 6 := hfd.1
              have kb := below_new wr (.cells #[.string (bs d.nm)] 9)
              have kbq : Below wr.heap.size wr (wr.alloc (.cells #[.string (bs d.nm)] 9)).drew := kb.trans ((Below.refl _ _).drew)
              have hown1 : OwnS (wr.alloc (.cells #[.string (bs d.nm)] 9)).drew wr.heap.size (.slice (some ⟨wr.heap.size, 0, none⟩) 1 1) [d.nm] := ⟨rfl, .inr ⟨wr.heap.size, 1, #[.string (bs d.nm)], rfl, Nat.le_refl _, heap_alloc_new wr _, Nat.le_refl _, by decide, rfl, rfl⟩⟩
              obtain ⟨v9, w9, hrun, ho9, hg9⟩ := run_appS (wr.alloc (.cells #[.string (bs d.nm)] 9)).drew wr.heap.size _ (.slice (some ⟨wr.heap.size, 0, none⟩) 1 1) pv [d.nm] d.ps hown1 ((hu.below kbq).mono kbq.size) (by simp; omega) (by simp)
              have hB9 := hB.trans ((kbq.trans (Below.of_grown hg9 kbq.size (Nat.le_refl _))).mono hB.size)
              obtain ⟨pA, pcap, hu1, _⟩ := id hu
              subst hu1
              obtain ⟨vA, vcap, hv9, _⟩ := id ho9.srow
              subst hv9
              have hal : ([d.nm] ++ d.ps).length ≤ 7 := by simp; omega
              have hal0 : 0 < ([d.nm] ++ d.ps).length := by simp
              obtain ⟨al, hale⟩ : ∃ al, [d.nm] ++ d.ps = al := ⟨_, rfl⟩
              rw [hale] at hrun ho9 hal hal0
              have HO9 := Lib.hid ho9.srow
              have HB9 := Lib.hid hB9
              have c2a := keep_below kbq c2
              have c1q : wr.drew.cell? ⟨bb, off + k * 2, none⟩ = some (.string (bs d.nm)) := c1
              have c2q : wr.drew.cell? ⟨bb, off + k * 2 + 1, none⟩ = some (.slice pA d.ps.length pcap) := c2
              have hki : (k : Int) < l.length := by omega
              clear hB hrd hc hu hfd hd kb kbq hown1 ho9 hg9 hB9 hale
              go_wp2_with fail
              simp [go_sem, ↓IntWalk.iteOmega] at hrun
              go_region
              all_goals
                clear hrun c1 c2 c2a c1q c2q
                go_wp2_with fail
                go_loopw [10] (fun i wl => L2Rel al.length w9 i wl) (fun i _ => al.length - (intOf i).toNat)
                case atStart => exact ⟨0, rfl, by omega, Below.refl _ _⟩
                case round =>
                  obtain ⟨n, rfl, hn, hB⟩ := hrel
                  have hB4 := HB9.out.trans (hB.mono HB9.out.size)
                  by_cases hnl : n < al.length
                  · obtain ⟨A5, cap5, he5, _, _, _, hr5⟩ := HO9.out.keep hB
                    injection he5 with e1 e2 e3
                    subst e1
                    clear e2 e3
                    obtain ⟨ab, aoff, rfl, hab, hac⟩ := hr5 hal0
                    have HAC : Hid (∀ wl, Below wr.heap.size wr wl → wl.cell? ⟨ab, aoff + n, none⟩ = some (.string (bs al[n]))) := Lib.hid (fun wl h => keep_below h (hac n hnl))
                    have hni : (n : Int) < al.length := by omega
                    obtain ⟨s, hs⟩ : ∃ s, al[n] = s := ⟨_, rfl⟩
                    rw [hs] at HAC
                    have HBB := Lib.hid hB
                    have HB44 := Lib.hid hB4
                    obtain ⟨wo, hwo⟩ : ∃ wo : World, wo = wr := ⟨_, rfl⟩
                    subst hwo
                    clear hB hB4 hr5 hac hs
                    go_wp2_with fail
                    go_loopw [11, 12] (fun f i wl => L4Rel s L wo f i wl) (fun _ i _ => L.length - (intOf i).toNat)
                    case atStart => exact ⟨0, rfl, by omega, by simp, Below.refl _ _⟩
                    case round =>
                      obtain ⟨j, rfl, hj, rfl, hB⟩ := hrel
                      have ca := HAC.out wr hB
                      have HBQ : Hid (∀ q, Below wo.heap.size wo (wr.drewN q)) := Lib.hid (fun q => hB.trans (below_drewV _ _ _))
                      have HBQ0 := Lib.hid hB
                      by_cases hjl : j < L.length
                      · have hTk : L.take (j + 1) = L.take j ++ [L[j]] := List.take_succ_eq_append_getElem hjl
                        have cx := HXC.out wr (HB44.out.trans (hB.mono HB44.out.size)) j hjl
                        obtain ⟨y, hy⟩ : ∃ y, L[j] = y := ⟨_, rfl⟩
                        rw [hy] at hTk cx
                        have hji : (j : Int) < L.length := by omega
                        by_cases hin : s ∈ L.take j
                        · have hf1 : decide (s ∈ L.take j) = true := decide_eq_true hin
                          rw [hf1]
                          have HN : Hid (Value.bool true = Value.bool (decide (s ∈ L.take (j + 1)))) := Lib.hid (by rw [decide_eq_true (by rw [hTk]; exact List.mem_append_left _ hin)])
                          clear hB hTk hy hin hf1
                          go_wp2_with fail
                          go_quiet (fail)
                          go_wp2_with fail
                          go_roundw
                          case rel => exact ⟨j + 1, by go_num, by omega, HN.out, by first | exact HBQ.out _ | exact HBQ0.out⟩
                          case measure => simp [intOf]; omega
                        · have hf1 : decide (s ∈ L.take j) = false := decide_eq_false hin
                          rw [hf1]
                          obtain ⟨eb, heb⟩ : ∃ eb, decide (y = s) = eb := ⟨_, rfl⟩
                          have hbb : ((bs y).toList == (bs s).toList) = eb := by
                            rw [← heb, Bool.eq_iff_iff, bytes_beq, decide_eq_true_iff]
                            exact ⟨bs_inj, fun h => by rw [h]⟩
                          have HN : Hid (Value.bool eb = Value.bool (decide (s ∈ L.take (j + 1)))) := Lib.hid (by
                            congr 1
                            rw [← heb, Bool.eq_iff_iff, decide_eq_true_iff, decide_eq_true_iff, hTk, List.mem_append, List.mem_singleton]
                            exact ⟨fun h => .inr h.symm, fun h => (h.resolve_left hin).symm⟩)
                          clear hB hTk hy hin hf1 heb
                          go_wp2_with fail
                          go_quiet (fail)
                          go_wp2_with fail
                          go_roundw
                          case rel => exact ⟨j + 1, by go_num, by omega, HN.out, HBQ.out _⟩
                          case measure => simp [intOf]; omega
                      · rw [List.take_of_length_le (by omega)]
                        obtain ⟨fb, hfb⟩ : ∃ fb, decide (s ∈ L) = fb := ⟨_, rfl⟩
                        rw [hfb]
                        have hsv : svB l v s = fb := by
                          rw [← hfb, Bool.eq_iff_iff, svB_iff, decide_eq_true_iff]; exact (HLO.out.mem s).symm
                        have hB44 := HB44.out.trans (hB.mono HB44.out.size)
                        have HC := Lib.hid (servesFw HFW.out hv1 hsv (HR4.out.keep hB44))
                        have HB7 := Lib.hid hB
                        have HBW := Lib.hid (HBB.out.trans (hB.mono HBB.out.size))
                        have hfbb : (fb != fb) = false := by simp
                        clear hfb hsv hB44 hB
                        go_wp2_with fail
                        refine HC.out.mono ?_; rintro e w6 ⟨rfl, hB6⟩
                        have HB8 := Lib.hid (HBW.out.trans (hB6.mono HBW.out.size))
                        clear HC hB6
                        go_wp2_with fail
                        go_roundw
                        case rel => exact ⟨n + 1, by go_num, by omega, HB8.out⟩
                        case measure => simp [intOf]; omega
                  · have HB10 := Lib.hid hB4
                    clear hB hB4
                    go_wp2_with fail
                    go_roundw
                    case rel => exact ⟨k + 1, by go_num, by omega, HB10.out⟩
                    case measure => simp [intOf]; omega
            · have HB10 := Lib.hid (below3 HB4.out hB hW)
              clear hB
              go_wp2_with fail
              go_ret
              exact ⟨rfl, HB10.out⟩
    · clear hsv
      go_enter Try.func6, Try.ntmps6
      go_wp2_with fail
      refine HSM.out.mono ?_; rintro e w1 ⟨rfl, hb⟩
      have HB := Lib.hid hb
      clear hb
      go_wp2_with fail
      refine (HFP.out _ HB.out).mono ?_; rintro e w2 ⟨rfl, rfl⟩
      go_wp2_with fail
      go_ret
      exact ⟨rfl, HB.out⟩
end Go.Proofs.Ytcljgpgdbjpemaa.versionLine

