/-
  The law VersionGrows: its walk.
-/
import Derived.Test.YtmnhnighlgpjmaaVGrowM
import Derived.StillTailTactics
import Derived.IntWalk
namespace Go.Proofs.Ytmnhnighlgpjmaa.versionGrows
open Go.Proofs.Ytmnhnighlgpjmaa
set_option linter.unusedVariables false
set_option linter.unusedSimpArgs false
open Go.RowKit

theorem keep_belowG {w w' : World} (hb : Below w.heap.size w w') {a : Addr} {v : Value} (h : w.cell? a = some v) : w'.cell? a = some v := (hb.cell (World.block_lt_of_cell? w a h)).trans h
def G1Rel (l : VL) (d : Vd) (w : World) (i : Value) (wl : World) : Prop := ∃ k : Nat, i = .int .i64 k ∧ k ≤ l.length ∧ (∀ j (h : j < l.length), j < k → l[j].nm ≠ d.nm ∧ d.nm ∉ l[j].ps) ∧ Below w.heap.size w wl
def G2Rel (ps : List Str) (d : Vd) (w : World) (i : Value) (wl : World) : Prop := ∃ j : Nat, i = .int .i64 j ∧ j ≤ ps.length ∧ (∀ m (h : m < ps.length), m < j → ps[m] ≠ d.nm) ∧ Below w.heap.size w wl
def G3Rel (l : VL) (d : Vd) (z : Str) (w : World) (s i : Value) (wl : World) : Prop := ∃ (j : Nat) (b : Bool), i = .int .i64 j ∧ j ≤ d.ps.length ∧ s = .bool b ∧ b = growB l d z (d.ps.take j) ∧ Below w.heap.size w wl
def Goal (w : World) (e : Ending) (w' : World) : Prop := e = .returned (.bool true) ∧ Below w.heap.size w w'
set_option maxRecDepth 100000 in
set_option maxHeartbeats 0 in
theorem walk (w : World) (x : Value) (l : VL) (dv : Value) (d : Vd) (u : Value) (av bv : ByteArray) (hr : VRow w w.heap.size x l ∧ l.length * 40 ≤ reachBytes) (hd : dv = .agg #[.string (bs d.nm), u] ∧ StrRow w w.heap.size u d.ps)
    (_ : av.size ≤ maxLen) (_ : av.size ≤ reachBytes) (_ : bv.size ≤ maxLen) (_ : bv.size ≤ reachBytes) :
    Calls Try.prog 3 #[x, dv, .string av, .string bv] w fun e w' => e = .returned (.bool true) ∧ Below w.heap.size w w' := by
  show Calls Try.prog _ _ w (Goal w)
  obtain ⟨v, rfl⟩ := str_of av
  obtain ⟨z, rfl⟩ := str_of bv
  obtain ⟨rfl, hu⟩ := hd
  obtain ⟨hr, hlen⟩ := hr
  unfold reachBytes at hlen
  have hW := Nat.le_refl w.heap.size
  obtain ⟨uA, ucap, hu1, hu2, hu3, _⟩ := id hu
  subst hu1
  obtain ⟨xA, xcap, hx, hx1, hx2, _⟩ := id hr
  subst hx
  have HS0 := Lib.hid (smallVP (w.alloc (.cells #[.string (bs d.nm), .slice uA d.ps.length ucap] 25)))
  have HR := Lib.hid hr
  have HU := Lib.hid hu
  have HB0 := Lib.hid (below_newD w (.cells #[.string (bs d.nm), .slice uA d.ps.length ucap] 25))
  have HK0 : Hid ((w.alloc (.cells #[.string (bs d.nm), .slice uA d.ps.length ucap] 25)).heap[w.heap.size]? = some (.cells #[.string (bs d.nm), .slice uA d.ps.length ucap] 25)) := Lib.hid (by
    show (w.heap.push _)[w.heap.size]? = _
    rw [Array.getElem?_push_size])
  have HLEN := Lib.hid hlen
  have HX := Lib.hid (Nat.le_trans hx1 hx2)
  have HPX := Lib.hid (Nat.le_trans hu2 hu3)
  have hsv := bs_size v
  have hsz := bs_size z
  clear hr hu hlen hu2 hu3 hx1 hx2
  go_enter Try.func3, Try.ntmps3
  go_wp2_with fail
  refine HS0.out.mono ?_; rintro e w1 ⟨rfl, hb⟩
  have HB1 := Lib.hid (HB0.out.trans (hb.mono (by simp)))
  have HK1 := Lib.hid ((hb.block w.heap.size (by simp)).trans HK0.out)
  have hlt : w.heap.size < w1.heap.size := (Array.getElem?_eq_some_iff.1 HK1.out).1
  have q1 : w1.cell? ⟨w.heap.size, 0, none⟩ = some (.string (bs d.nm)) := blkV HK1.out 0
  have q2 : w1.cell? ⟨w.heap.size, 1, none⟩ = some (.slice uA d.ps.length ucap) := blkV HK1.out 1
  have HR1 := Lib.hid (HR.out.keep HB1.out)
  have HU1 := Lib.hid (HU.out.keep HB1.out)
  clear hb HS0 HB0 HK0 HR HU
  go_wp2_with fail
  have F1 := Lib.hid (ownD_empty w1 w1.heap.size w1.heap.size (Nat.le_refl _)).drew
  have F2 := Lib.hid ((ownD_empty w1 w1.heap.size w1.heap.size (Nat.le_refl _)).alloc (by simp) (.cells #[.string (bs d.nm), .slice uA d.ps.length ucap] 25)).drew
  have F3 : Hid (OwnD ((w1.alloc (.cells #[.string (bs d.nm), .slice uA d.ps.length ucap] 25)).alloc (.cells #[] 25)).drew w1.heap.size w1.heap.size (.slice (some ⟨w1.heap.size + 1, 0, none⟩) 0 0) []) := Lib.hid (by
    have := (ownD_empty (w1.alloc (.cells #[.string (bs d.nm), .slice uA d.ps.length ucap] 25)) w1.heap.size w1.heap.size (by simp)).drew
    simpa using this)
  have B1 := Lib.hid (below_newD w1 (.cells #[] 25)).drew
  have B2 := Lib.hid (below_two w1 (.cells #[] 25) (.cells #[.string (bs d.nm), .slice uA d.ps.length ucap] 25))
  have B3 := Lib.hid (below_two w1 (.cells #[.string (bs d.nm), .slice uA d.ps.length ucap] 25) (.cells #[] 25))
  have R1 := Lib.hid (SrcD.of (HR1.out.below B1.out))
  have R2 := Lib.hid (SrcD.of (HR1.out.below B2.out))
  have R3 := Lib.hid (SrcD.of (HR1.out.below B3.out))
  have hl1 : (([] : VL).length + l.length) * 40 ≤ 140737488355328 := by have := HLEN.out; simp; omega
  have hl2 : (([] ++ l).length + [d].length) * 40 ≤ 140737488355328 := by have := HLEN.out; simp; omega
  have HL1 := Lib.hid hl1
  have HL2 := Lib.hid hl2
  clear hl1 hl2 hsv hsz
  rename_i K hK
  suffices key : ∀ (y16 y18 y20 mv : Value) (w4 : World), Hid (VRow w4 w4.heap.size mv (l ++ [d])) → Hid (Below w1.heap.size w1 w4) → w4.cell? ⟨w.heap.size, 0, none⟩ = some (.string (bs d.nm)) → w4.cell? ⟨w.heap.size, 1, none⟩ = some (.slice uA d.ps.length ucap) →
      K { tmps := #[.slice xA l.length xcap, .agg #[.string (bs d.nm), .slice uA d.ps.length ucap], .string (bs v), .string (bs z), undef, .pointer (some ⟨w.heap.size, 0, none⟩), undef, undef, .bool false, .bool true, mv, undef, undef, undef, undef, .bool true, y16, .slice xA l.length xcap, y18, .agg #[.string (bs d.nm), .slice uA d.ps.length ucap], y20, mv, undef, undef, undef, undef, undef, undef, undef, undef, undef, undef, undef, undef, undef, undef, undef, undef, undef, undef, undef, undef, undef, undef, undef, undef, undef, undef, undef, undef, undef, undef, undef, undef, undef, undef, undef, undef, undef, undef, undef, undef, undef, undef, undef, undef, undef, undef, undef, undef, undef, undef, undef, undef, undef, undef, undef, undef, undef, undef, undef, undef, undef, undef, undef, undef, undef, undef, undef, undef, undef, undef, undef, undef, undef, undef, undef, undef, undef, undef, undef, undef, undef, undef, undef, undef, undef, undef, undef, undef, undef, undef, undef, undef, undef, undef, undef, undef, undef, undef, undef, undef, undef, undef, undef, undef, undef, undef, undef, undef, undef, undef, undef, undef, undef, undef, undef, undef, undef, undef], defers := [] } w4 by
    clear hK
    go_region_held3 (fun w' => w'.cell? ⟨w.heap.size, 0, none⟩ = some (.string (bs d.nm)) ∧ w'.cell? ⟨w.heap.size, 1, none⟩ = some (.slice uA d.ps.length ucap))
      (first | exact ⟨q1, q2⟩ | (go_split_ands; first | exact ⟨by assumption, by assumption⟩ | exact ⟨keep_belowG (below_newD _ _) (by assumption), keep_belowG (below_newD _ _) (by assumption)⟩ | exact ⟨keep_belowG (below_newD _ _).drew (by assumption), keep_belowG (below_newD _ _).drew (by assumption)⟩ | exact ⟨(hk3.out.cell (p := ⟨w.heap.size, 0, none⟩) hlt).trans (by assumption), (hk3.out.cell (p := ⟨w.heap.size, 1, none⟩) hlt).trans (by assumption)⟩ | exact ⟨(hk2.out.cell (p := ⟨w.heap.size, 0, none⟩) hlt).trans (by assumption), (hk2.out.cell (p := ⟨w.heap.size, 1, none⟩) hlt).trans (by assumption)⟩) | fail)
      (first
        | (refine step_appD (by rfl) (.tmp 16) (.tmp 17) (by rfl) w1.heap.size w1.heap.size (.slice (some ⟨w1.heap.size, 0, none⟩) 0 0) (.slice xA l.length xcap) [] l (by kernel_rfl) (by kernel_rfl) (by first | exact F1.out | exact F2.out) (by first | exact R1.out | exact R2.out) HL1.out (by simp; try omega) (Nat.le_refl _) ?_; intro v2 w2 hb2 hg2 hk2; have hacc := (by first | exact B1.out.trans hk2.out | exact B2.out.trans hk2.out : Below w1.heap.size w1 w2))
        | (refine step_appD (by rfl) (.tmp 16) (.tmp 17) (by rfl) w1.heap.size w1.heap.size (.slice (some ⟨w1.heap.size + 1, 0, none⟩) 0 0) (.slice xA l.length xcap) [] l (by kernel_rfl) (by kernel_rfl) F3.out R3.out HL1.out (by simp; try omega) (Nat.le_refl _) ?_; intro v2 w2 hb2 hg2 hk2; have hacc := (B3.out.trans hk2.out : Below w1.heap.size w1 w2))
        | (refine step_appD (by rfl) (.tmp 18) (.tmp 20) (by rfl) w1.heap.size w1.heap.size v2 (.slice (some ⟨w2.heap.size, 0, none⟩) 1 1) ([] ++ l) [d] (by kernel_rfl) (by kernel_rfl) (hb2.out.alloc hacc.size _) (src_new HU1.out hacc) HL2.out (by have := hacc.size; simp; omega) (Nat.le_refl _) ?_; intro v3 w3 hb3 hg3 hk3; replace hacc := (hacc.trans ((below_newD w2 (.cells #[.string (bs d.nm), .slice uA d.ps.length ucap] 25)).mono hacc.size)).trans hk3.out)
        | (refine step_appD (by rfl) (.tmp 18) (.tmp 20) (by rfl) w1.heap.size w1.heap.size v2 (.slice (some ⟨w1.heap.size + 1, 0, none⟩) 1 1) ([] ++ l) [d] (by kernel_rfl) (by kernel_rfl) hb2.out (src_snd HU1.out hg2.out hacc) HL2.out hacc.size (Nat.le_refl _) ?_; intro v3 w3 hb3 hg3 hk3; replace hacc := hacc.trans hk3.out)
        | (refine step_appD (by rfl) (.tmp 18) (.tmp 20) (by rfl) w1.heap.size w1.heap.size v2 (.slice (some ⟨w1.heap.size, 0, none⟩) 1 1) ([] ++ l) [d] (by kernel_rfl) (by kernel_rfl) hb2.out (src_fst HU1.out hg2.out hacc) HL2.out hacc.size (Nat.le_refl _) ?_; intro v3 w3 hb3 hg3 hk3; replace hacc := hacc.trans hk3.out))
    all_goals
      rename_i hS
      exact key _ _ _ _ _ (Lib.hid (hb3.out.vrow hacc.size)) (Lib.hid hacc) hS.1 hS.2
  intro y16 y18 y20 mv w4 HMV HACC f1 f2
  apply hK
  clear F1 F2 F3 B1 B2 B3 R1 R2 R3 q1 q2 HL1 HL2 hlt
  have HB4 : Goal w (.returned (.bool true)) w4 := ⟨rfl, HB1.out.trans (HACC.out.mono HB1.out.size)⟩
  have HG4 : Hid (∀ wl, Below w4.heap.size w4 wl → Goal w (.returned (.bool true)) wl) := Lib.hid (fun wl h => ⟨rfl, HB4.2.trans (h.mono HB4.2.size)⟩)
  replace HB4 := Lib.hid HB4
  have HR4 := Lib.hid (HR1.out.keep HACC.out)
  have HU4 := Lib.hid (HU1.out.keep HACC.out)
  have HC4 : Hid (∀ wl, Below w4.heap.size w4 wl → wl.cell? ⟨w.heap.size, 0, none⟩ = some (.string (bs d.nm)) ∧ wl.cell? ⟨w.heap.size, 1, none⟩ = some (.slice uA d.ps.length ucap)) := Lib.hid (fun wl h => ⟨keep_belowG h f1, keep_belowG h f2⟩)
  obtain ⟨mA, mcap, hm, _⟩ := id HMV.out
  subst hm
  have HFP := Lib.hid (fewVP _ (l ++ [d]) w4 _ HMV.out)
  obtain ⟨ml, hml⟩ : ∃ ml, (l ++ [d]).length = ml := ⟨_, rfl⟩
  rw [hml] at HMV HFP ⊢
  have HML := Lib.hid hml
  clear hml HR1 HU1 HACC
  cases hfw : fewV (l ++ [d]) with
  | false =>
    rw [hfw] at HFP
    clear hfw
    go_wp2_with fail
    refine HFP.out.mono ?_; rintro e w5 ⟨rfl, rfl⟩
    go_wp2_with fail
    go_ret
    exact HB4.out
  | true =>
    have HFW := Lib.hid (fewV_fw hfw)
    rw [hfw] at HFP
    clear hfw
    by_cases hvc : (bs v).size ≤ 100
    · have HV1 := Lib.hid (show v.length ≤ 100 by have := bs_size v; omega)
      by_cases hzc : (bs z).size ≤ 100
      · have HZ1 := Lib.hid (show z.length ≤ 100 by have := bs_size z; omega)
        by_cases hvd : v = d.nm
        · have hb1 : ((bs v).toList == (bs d.nm).toList) = true := bytes_beq.2 (by rw [hvd])
          clear hvd
          go_wp2_with fail
          refine HFP.out.mono ?_; rintro e w5 ⟨rfl, rfl⟩
          go_wp2_with fail
          go_ret
          exact HB4.out
        · have hb1 := str_beq hvd
          have HVD := Lib.hid hvd
          clear hvd
          by_cases hzd : z = d.nm
          · have hb2 : ((bs z).toList == (bs d.nm).toList) = true := bytes_beq.2 (by rw [hzd])
            clear hzd
            go_wp2_with fail
            refine HFP.out.mono ?_; rintro e w5 ⟨rfl, rfl⟩
            go_wp2_with fail
            go_ret
            exact HB4.out
          · have hb2 := str_beq hzd
            have HZD := Lib.hid hzd
            clear hzd
            go_wp2_with fail
            refine HFP.out.mono ?_; rintro e w5 ⟨rfl, rfl⟩
            go_wp2_with fail
            clear hb1 hb2 hvc hzc HFP f1 f2 HB4
            obtain ⟨HFL, hp6, hnm100, hps100⟩ := fw_snoc HFW.out
            have HFL := Lib.hid HFL
            have HNM := Lib.hid hnm100
            have HPS := Lib.hid hps100
            have hl11 : l.length ≤ 12 := HFL.out.1
            clear hnm100 hps100
            go_loopw [11] (fun i wl => G1Rel l d w4 i wl) (fun i _ => l.length - (intOf i).toNat)
            case atStart => exact ⟨0, rfl, by omega, fun j _ h => by omega, Below.refl _ _⟩
            case round =>
              obtain ⟨k, rfl, hk, hok, hB⟩ := hrel
              have HOK := Lib.hid hok
              clear hok
              by_cases hlt : k < l.length
              · obtain ⟨A2, cap2, he, _, _, _, hrd⟩ := HR4.out.keep hB
                injection he with e1 e2 e3
                subst e1
                clear e2 e3
                obtain ⟨bb, off, rfl, hb1, hc⟩ := hrd (by omega)
                obtain ⟨pv, c1, c2, hu⟩ := hc k hlt
                obtain ⟨g1, g2⟩ := HC4.out wr hB
                have HB := Lib.hid hB
                have hki : (k : Int) < l.length := by omega
                have HST : Hid (l[k].nm ≠ d.nm → d.nm ∉ l[k].ps → ∀ j (h : j < l.length), j < k + 1 → l[j].nm ≠ d.nm ∧ d.nm ∉ l[j].ps) := Lib.hid (fun a b j hj hjk => by
                  by_cases e : j = k
                  · subst e; exact ⟨a, b⟩
                  · exact HOK.out j hj (by omega))
                have hfd := HFL.out.2 _ (List.getElem_mem hlt)
                obtain ⟨dk, hdk⟩ : ∃ dk, l[k] = dk := ⟨_, rfl⟩
                rw [hdk] at c1 hu HST hfd
                obtain ⟨pA, pcap, hu1, hu2, hu3, hu4, hur⟩ := id hu
                subst hu1
                have hpm : dk.ps.length ≤ 6 := hfd.1
                have HG : Hid (∀ q, Goal w (.returned (.bool true)) (wr.drewN q)) := Lib.hid (fun q => HG4.out _ (HB.out.trans (below_drewV _ _ _)))
                have HBQ : Hid (∀ q, Below w4.heap.size w4 (wr.drewN q)) := Lib.hid (fun q => HB.out.trans (below_drewV _ _ _))
                have HU2 := Lib.hid hu
                have c2q : ∀ q, (wr.drewN q).cell? ⟨bb, off + k * 2 + 1, none⟩ = some (.slice pA dk.ps.length pcap) := fun q => c2
                have HC2 := Lib.hid c2q
                clear hB hrd hc hu hfd hdk hu2 hu3 hu4 hur c2q
                by_cases hnm : dk.nm = d.nm
                · have hbe : ((bs dk.nm).toList == (bs d.nm).toList) = true := bytes_beq.2 (by rw [hnm])
                  clear hnm
                  go_wp2_with fail
                  go_quiet (fail)
                  go_wp2_with fail
                  go_ret
                  exact HG.out _
                · have hbe := str_beq hnm
                  have HNE := Lib.hid hnm
                  clear hnm
                  go_wp2_with fail
                  go_quiet (fail)
                  go_wp2_with fail
                  clear hbe g1 g2 c1 c2
                  have HBW := Lib.hid (HBQ.out nq)
                  have HUW := Lib.hid (HU2.out.keep (below_drewV wr nq _))
                  have c2 := HC2.out nq
                  have HC2W := Lib.hid c2
                  generalize wr.drewN nq = wo at HBW HUW c2 HC2W ⊢
                  go_loopw [12] (fun i wl => G2Rel dk.ps d wo i wl) (fun i _ => dk.ps.length - (intOf i).toNat)
                  case atStart => exact ⟨0, rfl, by omega, fun j _ h => by omega, Below.refl _ _⟩
                  case round =>
                    clear c2
                    obtain ⟨j, rfl, hj, hok, hB⟩ := hrel
                    have c2 := keep_belowG hB HC2W.out
                    have HB2 := Lib.hid (HBW.out.trans (hB.mono HBW.out.size))
                    obtain ⟨g1, g2⟩ := HC4.out wr HB2.out
                    have HBI := Lib.hid hB
                    have HOK2 := Lib.hid hok
                    clear hok
                    by_cases hjl : j < dk.ps.length
                    · obtain ⟨A3, cap3, he3, _, _, _, hrd3⟩ := HUW.out.keep hB
                      injection he3 with e4 e5 e6
                      subst e4
                      clear e5 e6
                      obtain ⟨b3, off3, rfl, hb3, hc3⟩ := hrd3 (by omega)
                      have q := hc3 j hjl
                      have hji : (j : Int) < dk.ps.length := by omega
                      have HST2 : Hid (dk.ps[j] ≠ d.nm → ∀ m (h : m < dk.ps.length), m < j + 1 → dk.ps[m] ≠ d.nm) := Lib.hid (fun a m hm hmj => by
                        by_cases e : m = j
                        · subst e; exact a
                        · exact HOK2.out m hm (by omega))
                      obtain ⟨p, hp⟩ : ∃ p, dk.ps[j] = p := ⟨_, rfl⟩
                      rw [hp] at q HST2
                      have HG : Hid (∀ q, Goal w (.returned (.bool true)) (wr.drewN q)) := Lib.hid (fun q => HG4.out _ (HB2.out.trans (below_drewV _ _ _)))
                      have HBQ : Hid (∀ q, Below wo.heap.size wo (wr.drewN q)) := Lib.hid (fun q => HBI.out.trans (below_drewV _ _ _))
                      clear hB hrd3 hc3 hp
                      by_cases hpd : p = d.nm
                      · have hbe : ((bs p).toList == (bs d.nm).toList) = true := bytes_beq.2 (by rw [hpd])
                        clear hpd
                        go_wp2_with fail
                        go_quiet (fail)
                        go_wp2_with fail
                        go_ret
                        exact HG.out _
                      · have hbe := str_beq hpd
                        have HN := Lib.hid (HST2.out hpd)
                        clear hpd
                        go_wp2_with fail
                        go_quiet (fail)
                        go_wp2_with fail
                        go_roundw
                        case rel => exact ⟨j + 1, by go_num, by omega, HN.out, HBQ.out _⟩
                        case measure => simp [intOf]; omega
                    · have HN : Hid (d.nm ∉ dk.ps) := Lib.hid (fun hm => by
                        obtain ⟨m, hm1, hm2⟩ := List.getElem_of_mem hm
                        exact HOK2.out m hm1 (by omega) hm2)
                      clear hB
                      go_wp2_with fail
                      go_roundw
                      case rel => exact ⟨k + 1, by go_num, by omega, HST.out HNE.out HN.out, HB2.out⟩
                      case measure => simp [intOf]; omega
              · have HNEW : Hid (New l d) := Lib.hid ⟨fun e he => by
                  obtain ⟨j, hj, rfl⟩ := List.getElem_of_mem he
                  exact (HOK.out j hj (by omega)).1, fun e he => by
                  obtain ⟨j, hj, rfl⟩ := List.getElem_of_mem he
                  exact (HOK.out j hj (by omega)).2⟩
                obtain ⟨sb, hsb⟩ : ∃ sb, svB l v z = sb := ⟨_, rfl⟩
                have HS1 := Lib.hid (servesFw HFL.out HV1.out hsb (HR4.out.keep hB))
                have HSB := Lib.hid ((HNEW.out.same HVD.out).trans hsb)
                have hne : (sb != sb) = false := by simp
                have HB := Lib.hid hB
                clear hB hsb HOK
                go_wp2_with fail
                refine HS1.out.mono ?_; rintro e w6 ⟨rfl, hB⟩
                have HB6 := Lib.hid (HB.out.trans (hB.mono HB.out.size))
                have HM6 := Lib.hid (HMV.out.keep HB6.out)
                have HS2 := Lib.hid (servesFw (v := v) (x := z) HFW.out HV1.out HSB.out (by rw [← HML.out] at HM6; exact HM6.out))
                rw [HML.out] at HS2
                clear hB HS1
                go_wp2_with fail
                refine HS2.out.mono ?_; rintro e w7 ⟨rfl, hB⟩
                have HB7 := Lib.hid (HB6.out.trans (hB.mono HB6.out.size))
                clear hB HS2 HB6 HM6 HB
                go_wp2_with fail
                clear hne
                go_loopw [13, 14] (fun s i wl => G3Rel l d z w4 s i wl) (fun _ i _ => d.ps.length - (intOf i).toNat)
                case atStart => exact ⟨0, false, rfl, by omega, rfl, rfl, HB7.out⟩
                case round =>
                  clear HB7
                  obtain ⟨j, b, rfl, hj, rfl, hbw, hB⟩ := hrel
                  obtain ⟨g1, g2⟩ := HC4.out wr hB
                  have HB := Lib.hid hB
                  by_cases hjl : j < d.ps.length
                  · have hgt := growB_take l d z d.ps j hjl
                    obtain ⟨A3, cap3, he3, _, _, _, hrd3⟩ := HU4.out.keep hB
                    injection he3 with e4 e5 e6
                    subst e4
                    clear e5 e6
                    obtain ⟨b3, off3, rfl, hb3, hc3⟩ := hrd3 (by omega)
                    have q := hc3 j hjl
                    have hji : (j : Int) < d.ps.length := by omega
                    have hp100 := HPS.out _ (List.getElem_mem hjl)
                    obtain ⟨p, hp⟩ : ∃ p, d.ps[j] = p := ⟨_, rfl⟩
                    rw [hp] at q hgt hp100
                    have HBQ : Hid (∀ q, Below w4.heap.size w4 (wr.drewN q)) := Lib.hid (fun q => HB.out.trans (below_drewV _ _ _))
                    cases b with
                    | true =>
                      have HN : Hid (true = growB l d z (d.ps.take (j + 1))) := Lib.hid (by rw [hgt, ← hbw]; rfl)
                      clear hbw hB hgt hrd3 hc3 hp
                      go_wp2_with fail
                      go_quiet (fail)
                      go_wp2_with fail
                      go_roundw
                      case rel => exact ⟨j + 1, true, by go_num, by omega, rfl, HN.out, by first | exact HBQ.out _ | exact HB.out⟩
                      case measure => simp [intOf]; omega
                    | false =>
                      by_cases hpd : p = d.nm
                      · have hbe : ((bs p).toList == (bs d.nm).toList) = true := bytes_beq.2 (by rw [hpd])
                        have hbn : ((bs p).toList != (bs d.nm).toList) = false := by rw [bne, hbe]; rfl
                        have HN : Hid (false = growB l d z (d.ps.take (j + 1))) := Lib.hid (by rw [hgt, ← hbw, decide_eq_false (p := p ≠ d.nm) (fun h => h hpd)]; rfl)
                        clear hbw hB hgt hrd3 hc3 hp hpd
                        go_wp2_with fail
                        go_quiet (fail)
                        go_wp2_with fail
                        go_roundw
                        case rel => exact ⟨j + 1, false, by go_num, by omega, rfl, HN.out, HBQ.out _⟩
                        case measure => simp [intOf]; omega
                      · have hbe := str_beq hpd
                        have hbn : ((bs p).toList != (bs d.nm).toList) = true := by rw [bne, hbe]; rfl
                        obtain ⟨sp, hsp⟩ : ∃ sp, svB l p z = sp := ⟨_, rfl⟩
                        have HBq := Lib.hid (HB.out.trans ((Below.refl _ _).drew : Below w4.heap.size wr wr.drew))
                        have HC := Lib.hid (servesFw (w := wr.drew) HFL.out hp100 hsp (HR4.out.keep HBq.out))
                        have HN : Hid (sp = growB l d z (d.ps.take (j + 1))) := Lib.hid (by rw [hgt, ← hbw, decide_eq_true (p := p ≠ d.nm) hpd, hsp]; rfl)
                        clear hbw hB hgt hrd3 hc3 hp hpd hsp hp100
                        go_wp2_with fail
                        go_still_tail 18, (by kernel_rfl)
                        change wpList _ _ _ _ _ wr.drew
                        go_wp2_with fail
                        refine HC.out.mono ?_; rintro e w8 ⟨rfl, hB8⟩
                        have HB9 := Lib.hid (HBq.out.trans (hB8.mono HBq.out.size))
                        clear HC hB8
                        go_wp2_with fail
                        go_roundw
                        case rel => exact ⟨j + 1, sp, by go_num, by omega, rfl, HN.out, HB9.out⟩
                        case measure => simp [intOf]; omega
                  · have hbt : svB (l ++ [d]) d.nm z = b := by
                      rw [List.take_of_length_le (by omega)] at hbw
                      rw [hbw]; exact HNEW.out.want HZD.out
                    have HM := Lib.hid (HMV.out.keep hB)
                    have HC := Lib.hid (servesFw (v := d.nm) (x := z) HFW.out HNM.out hbt (by rw [← HML.out] at HM; exact HM.out))
                    rw [HML.out] at HC
                    have hbb : (b == b) = true := by simp
                    clear hbw hB hbt
                    go_wp2_with fail
                    refine HC.out.mono ?_; rintro e w8 ⟨rfl, hB8⟩
                    have HB9 := Lib.hid (HB.out.trans (hB8.mono HB.out.size))
                    have HM9 := Lib.hid (HM.out.keep hB8)
                    have HC9 := Lib.hid (servesFw (v := d.nm) (x := d.nm) HFW.out HNM.out (svB_iff.2 (.refl _)) (by rw [← HML.out] at HM9; exact HM9.out))
                    rw [HML.out] at HC9
                    obtain ⟨k1, k2⟩ := HC4.out w8 HB9.out
                    clear hB8 HC
                    go_wp2_with fail
                    refine HC9.out.mono ?_; rintro e w9 ⟨rfl, hB9⟩
                    have HG9 := Lib.hid (HG4.out _ (HB9.out.trans (hB9.mono HB9.out.size)))
                    clear hB9 HC9
                    go_wp2_with fail
                    go_ret
                    exact HG9.out
      · go_wp2_with fail
        refine HFP.out.mono ?_; rintro e w5 ⟨rfl, rfl⟩
        go_wp2_with fail
        go_ret
        exact HB4.out
    · go_wp2_with fail
      refine HFP.out.mono ?_; rintro e w5 ⟨rfl, rfl⟩
      go_wp2_with fail
      go_ret
      exact HB4.out
end Go.Proofs.Ytmnhnighlgpjmaa.versionGrows

