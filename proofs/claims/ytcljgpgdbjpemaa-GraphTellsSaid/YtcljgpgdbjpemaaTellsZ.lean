/-
  The walk of GraphTells, given what the reference's Way answers.
  The reference's Way.
  The walk of GraphTells.
-/
import Derived.Test.YtcljgpgdbjpemaaRefZ
import Derived.Test.YtcljgpgdbjpemaaRefParts
import Derived.Test.YtcljgpgdbjpemaaRefLoop
import Derived.Test.YtcljgpgdbjpemaaWays
namespace Go.Proofs.Ytcljgpgdbjpemaa.graphTells
open Go.Proofs.Ytcljgpgdbjpemaa
set_option linter.unusedVariables false
set_option linter.unusedSimpArgs false
open Go.RowKit

/-- What is asked of the reference's Way. -/
def WayAll : Prop := ∀ (n tt : Int) (v rv : Value) (l : List Sp) (rs : List Int) (w : World), n ≤ 900 → l.length ≤ 1000 → rs.length ≤ 900 → SRow w w.heap.size v l → IRow w w.heap.size rv rs →
  Calls Try.prog 20 #[.int .i64 n, v, rv, .int .i64 tt] w (PPost (WayIs n l rs tt) w)
theorem WayAll.one (h : WayAll) : WaySays := fun N x y l v rv w hri hx hy hN hl hr hrr => by
  refine (h N y v rv l [(x : Int)] w (by omega) hl (by simp) hr hrr).mono ?_
  rintro e w' ⟨u, p, h1, h2, h3, h4⟩
  refine ⟨u, p, h1, h2, ?_, h4⟩
  rcases h3 with ⟨_, h3⟩ | ⟨h3, _⟩
  · rw [Int.toNat_natCast] at h3
    have hrk : rootsN N [(x : Int)] = [x] := rootsN_zi (n := N) (S := [x]) (fun z hz => by rw [List.mem_singleton.1 hz]; exact hx)
    rcases h3 with ⟨_, h3⟩ | ⟨h3, _⟩
    · rw [hrk, Int.toNat_natCast] at h3; exact h3
    · rw [nodeB_iff.2 (by omega)] at h3; cases h3
  · rw [hri] at h3; cases h3
set_option maxRecDepth 100000 in
set_option maxHeartbeats 8000000 in
theorem walk0 (hway : WayAll) (w : World) (n : Int) (v : Value) (A : Option Addr) (m c : Nat) (rv : Value) (A2 : Option Addr) (m2 c2 : Nat) (tt : Int) (wn : (Lit.int .i64 n).wf = true) (hv : v = .slice A m c ∧ (m ≤ 1000000 → ∃ l : List Sp, l.length = m ∧ SRow w w.heap.size v l)) (hrv : rv = .slice A2 m2 c2 ∧ (m2 ≤ 1000000 → ∃ l : List Int, l.length = m2 ∧ IRow w w.heap.size rv l ∧ ∀ z ∈ l, -9223372036854775808 ≤ z ∧ z ≤ 9223372036854775807)) (wt : (Lit.int .i64 tt).wf = true) :
    Calls Try.prog 3 #[.int .i64 n, v, rv, .int .i64 tt] w fun e w' => e = .returned (.bool true) ∧ Below w.heap.size w w' := by
  obtain ⟨rfl, hl⟩ := hv
  obtain ⟨rfl, hl2⟩ := hrv
  have HSM := Lib.hid (smallP w)
  have HFW := Lib.hid (fun w => fewP n A A2 m m2 c c2 w)
  cases hfw : fewB n m m2 with
  | false =>
    rw [hfw] at HFW
    clear hl hl2 hfw
    go_enter Try.func3, Try.ntmps3
    go_wp2_with fail
    refine HSM.out.mono ?_; rintro e w1 ⟨rfl, hb⟩
    have HB := Lib.hid hb
    clear hb
    go_wp2_with fail
    refine (HFW.out _).mono ?_; rintro e w2 ⟨rfl, rfl⟩
    go_wp2_with fail
    go_ret
    exact ⟨rfl, HB.out⟩
  | true =>
    rw [hfw] at HFW
    obtain ⟨hn14, hm60, hm20⟩ := fewB_iff.1 hfw
    obtain ⟨l, rfl, hr⟩ := hl (by omega)
    obtain ⟨rs, rfl, hrs, _⟩ := hl2 (by omega)
    have HSG : Hid (SameG l l) := Lib.hid ⟨fun s => Iff.rfl⟩
    have HR := Lib.hid hr
    have HRS := Lib.hid hrs
    have HWAY := Lib.hid hway
    have hn9 : n ≤ 900 := by omega
    clear hl hl2 hfw hway hr hrs
    go_enter Try.func3, Try.ntmps3
    go_wp2_with fail
    refine HSM.out.mono ?_; rintro e w1 ⟨rfl, hb⟩
    have HBW := Lib.hid hb
    have HSL := Lib.hid (HR.out.keep hb)
    have HIR := Lib.hid (HRS.out.keep hb)
    clear hb HSM
    go_wp2_with fail
    refine (HFW.out _).mono ?_; rintro e w2 ⟨rfl, rfl⟩
    clear HFW
    have hW := Nat.le_refl w1.heap.size
    have H1 := rightP n _ l w1 HSL.out
    have H2 := fun w2 (h : Below w1.heap.size w1 w2) => refRight n _ l w2 w2.heap.size (HSL.out.keep h)
    obtain ⟨rt, hrt⟩ : ∃ b, rightB n l = b := ⟨_, rfl⟩
    rw [hrt] at H1
    simp only [hrt] at H2
    replace H1 := Lib.hid H1
    replace H2 := Lib.hid H2
    have hne : (rt != rt) = false := by simp
    go_wp2_with fail
    refine H1.out.mono ?_; rintro e w3 ⟨rfl, hb⟩
    have HB3 := Lib.hid hb
    clear hb H1 hrt
    go_wp2_with fail
    refine (H2.out _ HB3.out).mono ?_; rintro e w4 ⟨rfl, rfl⟩
    clear H2
    have H10 := Lib.hid (parts_any n _ l w3 hn9 (by omega) (HSL.out.keep HB3.out))
    go_wp2_with fail
    refine H10.out.mono ?_; rintro e w10 ⟨u10, rfl, hL10, hb⟩
    have HB10 := Lib.hid (chain HB3.out hb hW)
    have HL10 := Lib.hid hL10
    have H11 := Lib.hid (refParts n _ l w10 hn9 (by omega) (HSL.out.keep HB10.out))
    clear hb hL10 H10
    go_wp2_with fail
    refine H11.out.mono ?_; rintro e w11 ⟨u11, rfl, hL11, hb⟩
    have HB11 := Lib.hid (chain HB10.out hb hW)
    have H12 := Lib.hid (selfLists _ u10 u11 w11 w11.heap.size (HL10.out.keep hb) hL11)
    clear hb hL11 H11 HL10
    go_wp2_with fail
    refine H12.out.mono ?_; rintro e w15 ⟨rfl, hb⟩
    have HB15 := Lib.hid (chain HB11.out hb hW)
    have H16 := Lib.hid (reach_any n _ _ l rs w15 hn9 (by omega) (HSL.out.keep HB15.out) (HIR.out.keep HB15.out))
    clear hb H12 HB10 HB11
    go_wp2_with fail
    refine H16.out.mono ?_; rintro e w16 ⟨u16, rfl, hI16, hb⟩
    have HB16 := Lib.hid (chain HB15.out hb hW)
    have HI16 := Lib.hid hI16
    have H17 := Lib.hid (refReach n _ _ l rs w16 hn9 (by omega) (HSL.out.keep HB16.out) (HIR.out.keep HB16.out))
    clear hb hI16 H16 HB15
    go_wp2_with fail
    refine H17.out.mono ?_; rintro e w17 ⟨u17, rfl, hI17, hb⟩
    have HB17 := Lib.hid (chain HB16.out hb hW)
    have H18 := Lib.hid (selfRow _ u16 u17 w17 w17.heap.size (HI16.out.keep hb) hI17)
    clear hb hI17 H17 HB16 HI16
    go_wp2_with fail
    refine H18.out.mono ?_; rintro e w18 ⟨rfl, hb⟩
    have HB18 := Lib.hid (chain HB17.out hb hW)
    have H19 := Lib.hid (way_all n tt _ _ l rs w18 hn9 (by omega) (HSL.out.keep HB18.out) (HIR.out.keep HB18.out))
    clear hb H18 HB17
    go_wp2_with fail
    refine H19.out.mono ?_; rintro e w19 ⟨u19, p19, rfl, hI19, hq19, hb⟩
    have HB19 := Lib.hid (chain HB18.out hb hW)
    have HI19 := Lib.hid hI19
    have HQ19 := Lib.hid hq19
    have H20 := Lib.hid (HWAY.out n tt _ _ l rs w19 hn9 (by omega) (by omega) (HSL.out.keep HB19.out) (HIR.out.keep HB19.out))
    clear hb hI19 hq19 H19 HB18
    go_wp2_with fail
    refine H20.out.mono ?_; rintro e w20 ⟨u20, p20, rfl, hI20, hq20, hb⟩
    obtain rfl := HSG.out.way (fun z => Iff.rfl) HQ19.out hq20
    have HB20 := Lib.hid (chain HB19.out hb hW)
    have H21 := Lib.hid (selfRow _ u19 u20 w20 w20.heap.size (HI19.out.keep hb) hI20)
    clear hb hI20 hq20 H20 HB19 HI19 HQ19
    go_wp2_with fail
    refine H21.out.mono ?_; rintro e w12 ⟨rfl, hb⟩
    have HB12 := Lib.hid (chain HB20.out hb hW)
    have H13 := Lib.hid (loop_all n _ l w12 hn9 (by omega) (HSL.out.keep HB12.out))
    clear hb H21 HB20
    go_wp2_with fail
    refine H13.out.mono ?_; rintro e w13 ⟨u13, p13, rfl, hI13, hq13, hb⟩
    have HB13 := Lib.hid (chain HB12.out hb hW)
    have HI13 := Lib.hid hI13
    have HQ13 := Lib.hid hq13
    have H14 := Lib.hid (refLoop HWAY.out.one n _ l w13 hn9 (by omega) (HSL.out.keep HB13.out))
    clear hb hI13 hq13 H13 HB12
    go_wp2_with fail
    refine H14.out.mono ?_; rintro e w14 ⟨u14, p14, rfl, hI14, hq14, hb⟩
    obtain rfl := HSG.out.loop HQ13.out hq14
    have HB14 := Lib.hid (chain HB13.out hb hW)
    have H15 := Lib.hid (selfRow _ u13 u14 w14 w14.heap.size (HI13.out.keep hb) hI14)
    clear hb hI14 hq14 H14 HB13 HI13 HQ13
    go_wp2_with fail
    refine H15.out.mono ?_; rintro e w21 ⟨rfl, hb⟩
    have HF := Lib.hid (HBW.out.trans ((chain HB14.out hb hW).mono HBW.out.size))
    clear hb H15 HB14
    go_wp2_with fail
    go_ret
    exact ⟨rfl, HF.out⟩
end Go.Proofs.Ytcljgpgdbjpemaa.graphTells

namespace Go.Proofs.Ytcljgpgdbjpemaa
set_option linter.unusedVariables false
set_option linter.unusedSimpArgs false
open Go.RowKit

/-- A row of rows of one root each, which the call has made. -/
def BgAt (w : World) (base : Nat) (v : Value) (R : List Nat) : Prop :=
  ∃ vs : List Value, w.ownsRow base 23 1 v R.length vs ∧ ∀ (i : Nat) (u : Value) (r : Nat), vs[i]? = some u → R[i]? = some r → ∃ b, u = .slice (some ⟨b, 0, none⟩) 1 1 ∧ Blk w b 3 #[.int .i64 r]
theorem BgAt.nil (w : World) (base : Nat) : BgAt w base (.slice none 0 0) [] := ⟨[], World.ownsRow_nil _ _ _ _, fun i u r h => by simp at h⟩
theorem BgAt.lrow {w : World} {base : Nat} {v : Value} {R : List Nat} (h : BgAt w base v R) (hl : R.length ≤ 900) : LRow w w.heap.size v ((R.map fun r => [r]).map zi) := by
  obtain ⟨vs, h1, h2⟩ := h
  refine OwnL.lrow (base := base) ⟨vs, by rw [List.length_map, List.length_map]; exact h1, fun i u l hu hL => ?_⟩ (by rw [List.length_map, List.length_map]; omega)
  rw [List.getElem?_map, List.getElem?_map] at hL
  cases e : R[i]? with
  | none => rw [e] at hL; simp at hL
  | some r =>
    rw [e] at hL
    simp at hL
    subst hL
    obtain ⟨b, rfl, hb⟩ := h2 i u r hu e
    refine ⟨by simp [zi], some ⟨b, 0, none⟩, 1, by simp [zi], by simp [zi], by decide, (fun h => by cases h), fun _ => ⟨b, 0, rfl, hb.lt, fun k hk => ?_⟩⟩
    have hk0 : k = 0 := by simp [zi] at hk; exact hk
    subst hk0
    rw [hb.cell]
    simp [zi]
theorem BgAt.push {w : World} {base : Nat} {v v' : Value} {R : List Nat} (h : BgAt w base v R) (r : Nat) {w3 : World} {vs : List Value} (hvs : w.ownsRow base 23 1 v R.length vs) (hel : ∀ (i : Nat) (u : Value) (r : Nat), vs[i]? = some u → R[i]? = some r → ∃ b, u = .slice (some ⟨b, 0, none⟩) 1 1 ∧ Blk w b 3 #[.int .i64 r])
    (ho : w3.ownsRow base 23 1 v' (R.length + 1) (vs ++ [.slice (some ⟨w.heap.size, 0, none⟩) 1 1])) (hg : ((w.alloc (.cells #[.int .i64 r] 3)).alloc (.cells #[.slice (some ⟨w.heap.size, 0, none⟩) 1 1] 23)).grownBy w3 v.ownBlock) : BgAt w3 base v' (R ++ [r]) := by
  have hlen : vs.length = R.length := by have := hvs.1; omega
  have k1 : Below w.heap.size w (w.alloc (.cells #[.int .i64 r] 3)) := below_new w _
  have k2 := below_new (w.alloc (.cells #[.int .i64 r] 3)) (.cells #[.slice (some ⟨w.heap.size, 0, none⟩) 1 1] 23)
  have hvs2 := (hvs.alloc (.cells #[.int .i64 r] 3)).alloc (.cells #[.slice (some ⟨w.heap.size, 0, none⟩) 1 1] 23)
  refine ⟨_, by rw [List.length_append]; exact ho, fun i u x hu hR => ?_⟩
  by_cases hi : i < R.length
  · rw [List.getElem?_append_left (by omega)] at hu hR
    obtain ⟨b, rfl, hb⟩ := hel i u x hu hR
    have hb2 := (hb.below k1 hb.lt).below k2 (by have := hb.lt; simp; omega)
    exact ⟨b, rfl, hb2.grown hg (own_not_blk hvs2 hb2 (by decide))⟩
  · rw [List.getElem?_append_right (by omega)] at hu hR
    have hi0 : i - vs.length = 0 := by
      apply Classical.byContradiction; intro h0
      rw [List.getElem?_eq_none (by simp; omega)] at hu; cases hu
    have hi1 : i - R.length = 0 := by omega
    rw [hi0] at hu; rw [hi1] at hR
    simp at hu hR
    subst hu; subst hR
    have hb2 := (Blk.new w 3 #[.int .i64 (r : Int)]).below k2 (by simp)
    exact ⟨w.heap.size, rfl, hb2.grown hg (own_not_blk hvs2 hb2 (by decide))⟩
def WbRel (N : Nat) (rs : List Int) (w : World) (b i : Value) (wl : World) : Prop := ∃ k : Nat, i = .int .i64 k ∧ k ≤ rs.length ∧ BgAt wl w.heap.size b (rootsN N (rs.take k)) ∧ Below w.heap.size w wl
theorem infoLL : (Try.prog.info? 23).map (fun i => (i.zero, i.size, i.bytes)) = some (some (.slice none 0 0), 1, 24) := by kernel_rfl
theorem rootsN_len (N : Nat) (rs : List Int) : (rootsN N rs).length ≤ rs.length := by
  unfold rootsN; rw [List.length_map]; exact List.length_filter_le _ _
theorem rootsN_lt (N : Nat) (rs : List Int) : ∀ r ∈ rootsN N rs, r < N := fun r hr => (mem_rootsN.1 hr).2
set_option maxRecDepth 100000 in
set_option maxHeartbeats 8000000 in
theorem refWay (n tt : Int) (v rv : Value) (l : List Sp) (rs : List Int) (w : World) (hn : n ≤ 900) (hl : l.length ≤ 1000) (hrl : rs.length ≤ 900) (hr : SRow w w.heap.size v l) (hrr : IRow w w.heap.size rv rs) :
    Calls Try.prog 20 #[.int .i64 n, v, rv, .int .i64 tt] w (PPost (WayIs n l rs tt) w) := by
  have HRP := refRight n v l w w.heap.size hr
  cases hri : rightB n l with
  | false =>
    have HF : Hid (PPost (WayIs n l rs tt) w (.returned (.slice none 0 0)) w) := Lib.hid ⟨_, [], rfl, irow_nil _ _, .inr ⟨hri, rfl⟩, Below.refl _ _⟩
    rw [hri] at HRP
    replace HRP := Lib.hid HRP
    clear hri hr hrr
    go_enter Try.func20, Try.ntmps20
    go_wp2_with fail
    refine HRP.out.mono ?_; rintro e w1 ⟨rfl, rfl⟩
    go_wp2_with fail
    go_ret
    exact HF.out
  | true =>
    obtain ⟨N, rfl⟩ := right_nat hri
    rw [hri] at HRP
    replace HRP := Lib.hid HRP
    by_cases ht0 : 0 ≤ tt
    · by_cases ht1 : tt < N
      · obtain ⟨t, rfl⟩ : ∃ t : Nat, tt = t := ⟨tt.toNat, by omega⟩
        obtain ⟨iL, hiL, hzL0, hzL1, hzL2⟩ := info_parts infoLL
        have htN : t < N := by omega
        have HRI : Hid (rightB (N : Int) l = true) := hri
        have HWI : Hid (∀ out, OutOk (toA l) (rootsN N rs) N N out → WayIs (N : Int) l rs (t : Int) (out.getD t [])) := Lib.hid (fun out h => .inl ⟨hri, .inl ⟨nodeB_iff.2 ⟨ht0, ht1⟩, by
          rw [Int.toNat_natCast, Int.toNat_natCast]
          exact h.over (right_toA hri) t htN⟩⟩)
        have HR := Lib.hid hr
        obtain ⟨_, RA, rcap, hrv, _, _, _, hrrd⟩ := hrr
        subst hrv
        have HRR := Lib.hid hrrd
        have t0 : decide ((t : Int) < 0) = false := by simp
        have t00 : decide (N ≤ t) = false := by simpa using htN
        have hN0 : (0 : Int) ≤ N := by omega
        clear hri hr hrrd
        go_enter Try.func20, Try.ntmps20
        go_wp2_with fail
        refine HRP.out.mono ?_; rintro e w1 ⟨rfl, rfl⟩
        clear HRP
        go_wp2_with fail
        go_loopw [9, 10] (fun b i wl => WbRel N rs w b i wl) (fun _ i _ => rs.length - (intOf i).toNat)
        case atStart => exact ⟨0, rfl, by omega, BgAt.nil _ _, Below.refl _ _⟩
        case round =>
          obtain ⟨k, rfl, hk, hbg, hB⟩ := hrel
          by_cases hlt : k < rs.length
          · obtain ⟨b, off, rfl, hb1, hc⟩ := HRR.out (by omega)
            have c1 := (hB.cell (p := ⟨b, off + k, none⟩) hb1).trans (hc k hlt)
            have hTk : rs.take (k + 1) = rs.take k ++ [rs[k]] := List.take_succ_eq_append_getElem hlt
            obtain ⟨z, hz⟩ : ∃ z, rs[k] = z := ⟨_, rfl⟩
            rw [hz] at c1 hTk
            have hrs := rootsN_snoc N (rs.take k) z
            rw [← hTk] at hrs
            by_cases h01 : 0 ≤ z ∧ z < N
            · rw [if_pos h01] at hrs
              obtain ⟨h0, h1⟩ := h01
              obtain ⟨r, rfl⟩ : ∃ r : Nat, z = r := ⟨z.toNat, by omega⟩
              rw [Int.toNat_natCast] at hrs
              have hlr := rootsN_len N (rs.take k)
              rw [List.length_take] at hlr
              obtain ⟨vs, hvs, hel⟩ := id hbg
              have hvs2 := (hvs.alloc (.cells #[.int .i64 (r : Int)] 3)).alloc (.cells #[.slice (some ⟨wr.heap.size, 0, none⟩) 1 1] 23)
              obtain ⟨v', w3, hrun, ho3, hg3, _, _⟩ := run_append_own_at (P := Try.prog) ((wr.alloc (.cells #[.int .i64 (r : Int)] 3)).alloc (.cells #[.slice (some ⟨wr.heap.size, 0, none⟩) 1 1] 23)) w.heap.size 28 28 23 iL (.slice none 0 0) 1 24 Try.underlying28 hiL hzL0 hzL1 hzL2 rfl (by decide) _ _ _ hvs2 ⟨(wr.alloc (.cells #[.int .i64 (r : Int)] 3)).heap.size, 0, none⟩ 1 1 [.slice (some ⟨wr.heap.size, 0, none⟩) 1 1] rfl (fun j u hu => by
                cases j with
                | zero =>
                  simp at hu
                  subst hu
                  exact (Blk.new (wr.alloc (.cells #[.int .i64 (r : Int)] 3)) _ _).cell 0
                | succ j => simp at hu) (fun u hu => by rw [List.mem_singleton.1 hu]; rfl) (by unfold maxLen; omega) (by omega) (by have := hB.size; simp; omega)
              obtain ⟨g', cap', rfl⟩ := own_succ ho3
              have hbg3 := hbg.push r hvs hel ho3 hg3
              rw [← hrs] at hbg3
              obtain ⟨q, hq⟩ : ∃ q, (rootsN N (rs.take k)).length + 1 = q := ⟨_, rfl⟩
              rw [hq] at hrun hbg3
              clear hq
              have HB3 := Lib.hid (((hB.alloc hB.size (.cells #[.int .i64 (r : Int)] 3)).alloc (by have := hB.size; simp; omega) (.cells #[.slice (some ⟨wr.heap.size, 0, none⟩) 1 1] 23)).grown hg3 (by have := hB.size; simp; omega) (fun j hj => (World.ownsRow.lt hvs2 j hj).1))
              have HBG := Lib.hid hbg3
              have HRUN := Lib.hid hrun
              have hsz1 : (wr.alloc (.cells #[.int .i64 (r : Int)] 3)).heap.size = wr.heap.size + 1 := size_new _ _
              rw [hsz1] at HRUN
              clear hbg hB hc hTk hz hrs hlr hvs hel hvs2 hrun ho3 hg3 hbg3 hsz1
              go_wp2_with (at_builtin; refine Lib.wpList_append_run_sl _ rfl _ _ 28 rfl _ _ rfl rfl HRUN.out ?_)
              go_roundw
              case rel => exact ⟨k + 1, by go_num, by omega, HBG.out, HB3.out⟩
              case measure => simp [intOf]; omega
            · rw [if_neg h01, List.append_nil] at hrs
              rw [← hrs] at hbg
              have HBG := Lib.hid hbg
              have HB2 := Lib.hid hB
              clear hbg hB hc hTk hz hrs
              by_cases h0 : 0 ≤ z
              · have h1 : ¬ z < N := fun h => h01 ⟨h0, h⟩
                have t1 : decide (0 ≤ z) = true := by simpa using h0
                have t2 : decide (z < N) = false := by simpa using h1
                clear h01
                go_wp2_with fail
                go_roundw
                case rel => exact ⟨k + 1, by go_num, by omega, HBG.out, HB2.out⟩
                case measure => simp [intOf]; omega
              · have t1 : decide (0 ≤ z) = false := by simpa using h0
                clear h01
                go_wp2_with fail
                go_roundw
                case rel => exact ⟨k + 1, by go_num, by omega, HBG.out, HB2.out⟩
                case measure => simp [intOf]; omega
          · rw [List.take_of_length_le (by omega)] at hbg
            have hlr := rootsN_len N rs
            have HW := Lib.hid (refWays N _ _ l (rootsN N rs) wr HRI.out (rootsN_lt N rs) (by omega) hl (HR.out.keep hB) (hbg.lrow (by omega)))
            have HB2 := Lib.hid hB
            clear hbg hB hlr
            go_wp2_with fail
            refine HW.out.mono ?_; rintro e w5 ⟨u, out, rfl, hL, hok, hb5⟩
            have hol := hok.len
            obtain ⟨_, PA, pcap, hue, hA⟩ := hL
            rw [List.length_map, hol] at hue
            subst hue
            obtain ⟨b, off, rfl, hb, hc⟩ := hA (by rw [List.length_map]; omega)
            obtain ⟨x, hx, hI⟩ := hc t (by rw [List.length_map]; omega)
            have e : (out.map zi)[t]'(by rw [List.length_map]; omega) = zi (out.getD t []) := by
              rw [List.getElem_map, List.getD_eq_getElem?_getD, List.getElem?_eq_getElem (by omega)]; rfl
            rw [e] at hI
            have HF : Hid (PPost (WayIs (N : Int) l rs (t : Int)) w (.returned x) w5) := Lib.hid ⟨x, out.getD t [], rfl, hI, HWI.out out hok, HB2.out.trans (hb5.mono HB2.out.size)⟩
            clear hok hol hA hc hI e hb5 HW
            go_wp2_with fail
            go_ret
            exact HF.out
      · have HF : Hid (PPost (WayIs (N : Int) l rs tt) w (.returned (.slice none 0 0)) w) := Lib.hid ⟨_, [], rfl, irow_nil _ _, .inl ⟨hri, .inr ⟨by
          cases e : nodeB (N : Int) tt with
          | false => simpa using e
          | true => have := nodeB_iff.1 e; omega, rfl⟩⟩, Below.refl _ _⟩
        have t0 : decide (tt < 0) = false := by simpa using ht0
        have t1 : decide ((N : Int) ≤ tt) = true := by simpa using ht1
        clear hri hr hrr
        go_enter Try.func20, Try.ntmps20
        go_wp2_with fail
        refine HRP.out.mono ?_; rintro e w1 ⟨rfl, rfl⟩
        go_wp2_with fail
        go_ret
        exact HF.out
    · have HF : Hid (PPost (WayIs (N : Int) l rs tt) w (.returned (.slice none 0 0)) w) := Lib.hid ⟨_, [], rfl, irow_nil _ _, .inl ⟨hri, .inr ⟨by
        cases e : nodeB (N : Int) tt with
        | false => simpa using e
        | true => have := nodeB_iff.1 e; omega, rfl⟩⟩, Below.refl _ _⟩
      have t0 : decide (tt < 0) = true := by simpa using ht0
      clear hri hr hrr
      go_enter Try.func20, Try.ntmps20
      go_wp2_with fail
      refine HRP.out.mono ?_; rintro e w1 ⟨rfl, rfl⟩
      go_wp2_with fail
      go_ret
      exact HF.out
end Go.Proofs.Ytcljgpgdbjpemaa

namespace Go.Proofs.Ytcljgpgdbjpemaa.graphTells
open Go.Proofs.Ytcljgpgdbjpemaa
open Go.RowKit
theorem wayAll : WayAll := fun n tt v rv l rs w hn hl hrl hr hrr => refWay n tt v rv l rs w hn hl hrl hr hrr
theorem walk (w : World) (n : Int) (v : Value) (A : Option Addr) (m c : Nat) (rv : Value) (A2 : Option Addr) (m2 c2 : Nat) (tt : Int) (wn : (Lit.int .i64 n).wf = true) (hv : v = .slice A m c ∧ (m ≤ 1000000 → ∃ l : List Sp, l.length = m ∧ SRow w w.heap.size v l)) (hrv : rv = .slice A2 m2 c2 ∧ (m2 ≤ 1000000 → ∃ l : List Int, l.length = m2 ∧ IRow w w.heap.size rv l ∧ ∀ z ∈ l, -9223372036854775808 ≤ z ∧ z ≤ 9223372036854775807)) (wt : (Lit.int .i64 tt).wf = true) :
    Calls Try.prog 3 #[.int .i64 n, v, rv, .int .i64 tt] w fun e w' => e = .returned (.bool true) ∧ Below w.heap.size w w' :=
  walk0 wayAll w n v A m c rv A2 m2 c2 tt wn hv hrv wt
end Go.Proofs.Ytcljgpgdbjpemaa.graphTells
