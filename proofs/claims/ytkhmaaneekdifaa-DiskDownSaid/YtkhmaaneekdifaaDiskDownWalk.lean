/-
  The walk of the law DiskDown.
-/
import Derived.Test.YtkhmaaneekdifaaDr
import Derived.Test.YtkhmaaneekdifaaDoa
namespace Go.Proofs.Ytkhmaaneekdifaa.diskDown
set_option linter.unusedVariables false
set_option linter.unusedSimpArgs false
open Go.RowKit

def LoRel (W : World) (d : Nat) (l : List Ac) (i : Value) (wl : World) : Prop := ∃ k : Nat, i = .int .i64 k ∧ k ≤ l.length ∧ Dsk W wl d (runA dk0 (l.take k))
def LpRel (W : World) (d c : Nat) (s : Dk) (i : Value) (wl : World) : Prop := ∃ k : Nat, i = .int .i64 k ∧ k ≤ 8 ∧ Two W wl d c s s
/-- The last operation's fields in their box. -/
def BoxA (w : World) (b : Nat) (a : Ac) : Prop := w.cell? ⟨b, 1, none⟩ = some (.int .i64 a.f) ∧ w.cell? ⟨b, 2, none⟩ = some (.int .i64 a.g) ∧ w.cell? ⟨b, 3, none⟩ = some (.int .i64 a.n) ∧ w.cell? ⟨b, 4, none⟩ = some (.string a.s)
theorem BoxA.keep {w w' : World} {b : Nat} {a : Ac} (h : BoxA w b a) (hb : Below w.heap.size w w') : BoxA w' b a := ⟨keep_below hb h.1, keep_below hb h.2.1, keep_below hb h.2.2.1, keep_below hb h.2.2.2⟩

set_option maxRecDepth 100000 in
set_option maxHeartbeats 16000000 in
theorem walk (W : World) (v0 : Value) (l : List Ac) (v1 : Value) (a : Ac) (w0 : OpenActs W v0 l) (w1 : OpenAct W v1 a) :
    Calls Try.prog 5 #[v0, v1] W fun e w' => e = .returned (.bool true) ∧ Below W.heap.size W w' := by
  obtain ⟨har, hwf, hlen⟩ := w0
  obtain ⟨u, rfl, hu, haw⟩ := w1
  obtain ⟨A, cap, rfl, hA⟩ := har
  have har : ARow W W.heap.size (.slice A l.length cap) l := ⟨A, cap, rfl, hA⟩
  obtain ⟨A2, cap2, rfl, hu2⟩ := hu
  have hu : IRow W W.heap.size (.slice A2 a.keep.length cap2) a.keep := ⟨A2, cap2, rfl, hu2⟩
  have hb0 := below_new W (.cells #[.int .i64 a.o, .int .i64 a.f, .int .i64 a.g, .int .i64 a.n, .string a.s, .slice A2 a.keep.length cap2] 32)
  have hbk := Blk.new W 32 #[.int .i64 a.o, .int .i64 a.f, .int .i64 a.g, .int .i64 a.n, .string a.s, .slice A2 a.keep.length cap2]
  obtain ⟨W0, hW0⟩ : ∃ W0, W.alloc (.cells #[.int .i64 a.o, .int .i64 a.f, .int .i64 a.g, .int .i64 a.n, .string a.s, .slice A2 a.keep.length cap2] 32) = W0 := ⟨_, rfl⟩
  rw [hW0] at hb0 hbk
  have HAR : Hid (∀ w', Below W0.heap.size W0 w' → ARow w' w'.heap.size (.slice A l.length cap) l) := Lib.hid fun w' hb => (har.keep hb0).keep hb
  have HUR : Hid (∀ w', Below W0.heap.size W0 w' → IRow w' w'.heap.size (.slice A2 a.keep.length cap2) a.keep) := Lib.hid fun w' hb => (hu.keep hb0).keep hb
  have HBK : Hid (∀ w', Below W0.heap.size W0 w' → Blk w' W.heap.size 32 #[.int .i64 a.o, .int .i64 a.f, .int .i64 a.g, .int .i64 a.n, .string a.s, .slice A2 a.keep.length cap2]) := Lib.hid fun w' hb => hbk.below hb hbk.lt
  have HB0 := Lib.hid hb0
  have HWF := Lib.hid hwf
  have HAW := Lib.hid haw
  have HS := Lib.hid (small6 W0)
  have hlen' := hlen
  clear hu2 hA har hu hb0 hbk hwf haw
  unfold av
  go_enter Try.func5, Try.ntmps5
  go_wp2_with fail
  clear hW0
  refine HS.out.mono ?_; rintro e w2 ⟨rfl, hb2⟩
  have HN := Lib.hid (dNew w2)
  have HB2 := Lib.hid hb2
  clear hb2 HS
  go_wp2_with fail
  refine HN.out.mono ?_; rintro e w3 ⟨d, rfl, h3⟩
  have H := Lib.hid (h3.base HB2.out)
  clear h3 HN HB2
  have HF := Lib.hid (fewP _ l w3 (HAR.out _ H.out.2) HWF.out hlen)
  rcases hfew : fewB l
  · rw [hfew] at HF
    clear hfew
    go_wp2_with fail
    refine HF.out.mono ?_; rintro e w4 ⟨rfl, hb4⟩
    have HE := Lib.hid ((HB0.out.trans (H.out.2.mono HB0.out.size)).trans (hb4.mono (by have := H.out.2.size; have := HB0.out.size; omega)))
    clear hb4
    go_wp2_with fail
    go_ret
    exact ⟨rfl, HE.out⟩
  · rw [hfew] at HF
    obtain ⟨hok, hl200, htot⟩ := fewB_parts hfew
    have HOK := Lib.hid hok
    have HTOT := Lib.hid htot
    clear hok hfew htot
    go_wp2_with fail
    refine HF.out.mono ?_; rintro e w4 ⟨rfl, hb4⟩
    replace H := Lib.hid (H.out.below hb4)
    clear hb4 HF
    have hk4 := HBK.out w4 H.out.2
    have b0 := hk4.cell 0
    have b1 := hk4.cell 1
    have b2 := hk4.cell 2
    have b3 := hk4.cell 3
    have b4 := hk4.cell 4
    have b5 := hk4.cell 5
    have HF1 := Lib.hid (fewP _ [a] _ (arow_one w4 a _ (HUR.out w4 H.out.2)) (fun x hx => by rw [List.mem_singleton] at hx; rw [hx]; exact HAW.out) (by simp))
    have HB4 := Lib.hid (below_new w4 (.cells #[.int .i64 a.o, .int .i64 a.f, .int .i64 a.g, .int .i64 a.n, .string a.s, .slice A2 a.keep.length cap2] 32))
    clear hk4
    rcases hfew : fewB [a]
    · rw [hfew] at HF1
      clear hfew
      go_wp2_with fail
      refine HF1.out.mono ?_; rintro e w5 ⟨rfl, hb5⟩
      have HE := Lib.hid ((H.out.below (chainB HB4.out hb5)).2)
      have HE2 := Lib.hid (HB0.out.trans (HE.out.mono HB0.out.size))
      clear hb5
      go_wp2_with fail
      go_ret
      exact ⟨rfl, HE2.out⟩
    · rw [hfew] at HF1
      obtain ⟨-, -, hta⟩ := fewB_parts hfew
      have HTA : Hid (a.w ≤ 5000) := by
        have : tot [a] = a.w := by simp [tot]
        rw [this] at hta; exact Lib.hid hta
      clear hfew hta
      go_wp2_with fail
      refine HF1.out.mono ?_; rintro e w5 ⟨rfl, hb5⟩
      replace H := Lib.hid (H.out.below (chainB HB4.out hb5))
      clear hb5 HF1 HB4 b0 b1 b2 b3 b4 b5
      go_wp2_with fail
      go_loopw [7] (fun i wl => LoRel W0 d l i wl) (fun i _ => l.length - (intOf i).toNat)
      case atStart => exact ⟨0, rfl, by omega, H.out⟩
      case round =>
        obtain ⟨k, rfl, hk, hD⟩ := hrel
        have HD := Lib.hid hD
        clear hD
        by_cases hlt : k < l.length
        · obtain ⟨A', cap', he, hA⟩ := HAR.out wr HD.out.2
          injection he with he1 _ he2
          subst he1; subst he2
          obtain ⟨b, off, rfl, hb, hc⟩ := hA (by omega)
          obtain ⟨uk, huk, c0, c1, c2, c3, c4, c5⟩ := hc k hlt
          obtain ⟨A3, cap3, rfl, huk2⟩ := huk
          have huk : IRow wr wr.heap.size (.slice A3 (ga l k).keep.length cap3) (ga l k).keep := ⟨A3, cap3, rfl, huk2⟩
          have hmem : ga l k ∈ l := by rw [ga_get l k hlt]; exact List.getElem_mem hlt
          have hp := runA_pend l k hk
          have ht1 := tot_take_le l k
          have ht2 := tot_snoc l k hlt
          have ht3 := tot_take_le l (k + 1)
          have htt := HTOT.out
          have HC := Lib.hid (dDo HD.out (ga l k) _ huk (HWF.out _ hmem) (by omega) (by omega))
          have HSN := Lib.hid (runA_snoc dk0 l k hlt)
          unfold av at HC
          have q1 : (k : Int) < l.length := by omega
          clear hA hc huk2 huk hb hmem hp ht1 ht2 ht3 htt
          go_wp2_with fail
          refine HC.out.mono ?_; rintro e w6 ⟨rfl, h6⟩
          have H6 := Lib.hid h6; clear h6 HC
          rw [← HSN.out] at H6
          go_wp2_with fail
          go_roundw
          case rel => exact ⟨k + 1, by go_num, by omega, H6.out⟩
          case measure => simp [intOf]; omega
        · obtain rfl : k = l.length := by omega
          rw [List.take_length] at HD
          have hpn : (runA dk0 l).pend.length ≤ 5000 := by
            have := runA_pend l l.length (Nat.le_refl _)
            rw [List.take_length] at this
            have := HTOT.out
            omega
          have HPN := Lib.hid hpn
          clear hpn hlt
          have HC := Lib.hid (dArm HD.out 0 (by omega) (.slice none 0 0) [] (irow_nil _ _) (by simp))
          go_wp2_with fail
          refine HC.out.mono ?_; rintro e w7 ⟨rfl, h7⟩
          have H7 := Lib.hid h7; clear h7 HC HD
          have HC := Lib.hid (dStart H7.out)
          go_wp2_with fail
          refine HC.out.mono ?_; rintro e w8 ⟨rfl, h8⟩
          have H8 := Lib.hid h8; clear h8 HC H7
          have hpe : ((runA dk0 l).arm 0 []).start.pend = (runA dk0 l).pend := rfl
          have hcm := arm_calm (runA dk0 l)
          obtain ⟨S1, hS1⟩ : ∃ S1, ((runA dk0 l).arm 0 []).start = S1 := ⟨_, rfl⟩
          rw [hS1] at H8 hpe hcm
          have HCM := Lib.hid hcm
          have HPE : Hid (S1.pend.length ≤ 5000) := by rw [hpe]; exact HPN
          clear hS1 hpe hcm HPN
          have hcase : (isF a.f = true ∧ 0 ≤ a.f ∧ a.f ≤ 7) ∨ (isF a.f = false ∧ a.f < 0) ∨ (isF a.f = false ∧ 7 < a.f) := by
            unfold isF
            by_cases h1 : a.f < 0
            · right; left; exact ⟨decide_eq_false (by omega), h1⟩
            · by_cases h2 : 7 < a.f
              · right; right; exact ⟨decide_eq_false (by omega), h2⟩
              · left; exact ⟨decide_eq_true (by omega), by omega, by omega⟩
          have HTAL : Hid (a.s.size ≤ 5000) := by have := HTA.out; unfold Ac.w at this; exact Lib.hid (by omega)
          have hkx := HBK.out _ H8.out.2
          have x1 := hkx.cell 1
          have x2 := hkx.cell 2
          have x3 := hkx.cell 3
          have x4 := hkx.cell 4
          clear hkx
          rcases hcase with ⟨hF, f0, f7⟩ | ⟨hF, f0⟩ | ⟨hF, f7⟩
          · have g1 : decide (a.f < 0) = false := decide_eq_false (by omega)
            have g2 : decide (a.f > 7) = false := decide_eq_false (by omega)
            have g3 : decide (7 < a.f) = false := decide_eq_false (by omega)
            clear hF f0 f7
            go_wp2_with fail
            clear x1 x2 x3 x4
            have HC := Lib.hid (dCrash H8.out (.slice none 0 0) [] (irow_nil _ _))
            refine HC.out.mono ?_; rintro e w9 ⟨rfl, h9⟩
            have hdn := crash_down S1 []
            have hpn := Nat.le_trans (Dk.crash_pend S1 []) HPE.out
            obtain ⟨S2, hS2⟩ : ∃ S2, S1.crash [] = S2 := ⟨_, rfl⟩
            rw [hS2] at h9 hdn hpn
            have H9 := Lib.hid h9
            have HDN := Lib.hid hdn
            have HPN := Lib.hid hpn
            clear h9 hdn hpn hS2 HC H8
            have HC := Lib.hid (dCopy H9.out)
            go_wp2_with fail
            refine HC.out.mono ?_; rintro e w10 ⟨c, rfl, hx⟩
            have T0 := Lib.hid hx; clear hx HC
            have HC := Lib.hid (tStart T0.out.swap)
            go_wp2_with fail
            refine HC.out.mono ?_; rintro e w11 ⟨rfl, hx⟩
            replace T0 := Lib.hid hx.swap; clear hx HC
            have hkx := HBK.out _ T0.out.fst.2
            have x1 := hkx.cell 1
            have x2 := hkx.cell 2
            have x3 := hkx.cell 3
            have x4 := hkx.cell 4
            clear hkx
            have HC := Lib.hid (tRead T0.out a.f)
            rw [down_read HDN.out] at HC
            go_wp2_with fail
            refine HC.out.mono ?_; rintro e w12 ⟨rfl, hx⟩
            replace T0 := Lib.hid hx; clear hx HC x1 x2 x3 x4
            have HC := Lib.hid (tCrash (T0.out.below (below_new _ (.cells #[.int .i64 1, .int .i64 1] 3))) _ [1, 1] (irow_new2 _ 1 1))
            rw [down_crash HDN.out] at HC
            go_wp2_with fail
            refine HC.out.mono ?_; rintro e w13 ⟨rfl, hx⟩
            replace T0 := Lib.hid hx; clear hx HC
            rw [show (bs [] : ByteArray) = { data := #[] } from rfl]
            have hkx := HBK.out _ T0.out.fst.2
            have x1 := hkx.cell 1
            have x2 := hkx.cell 2
            have x3 := hkx.cell 3
            have x4 := hkx.cell 4
            clear hkx
            have HC := Lib.hid (tWrite T0.out a.f a.n a.s (by have := HPN.out; have := HTAL.out; omega))
            rw [down_write HDN.out] at HC
            go_wp2_with fail
            refine HC.out.mono ?_; rintro e wx ⟨rfl, hx⟩
            clear x1 x2 x3 x4
            replace T0 : Hid (Two W0 wx d c S2 S2.start) := Lib.hid hx; clear hx HC
            have hkx := HBK.out _ T0.out.fst.2
            have x1 := hkx.cell 1
            have x2 := hkx.cell 2
            have x3 := hkx.cell 3
            have x4 := hkx.cell 4
            clear hkx
            have HC := Lib.hid (tFlush T0.out a.f)
            rw [down_flush HDN.out] at HC
            go_wp2_with fail
            refine HC.out.mono ?_; rintro e wx ⟨rfl, hx⟩
            clear x1 x2 x3 x4
            replace T0 : Hid (Two W0 wx d c S2 S2.start) := Lib.hid hx; clear hx HC
            have hkx := HBK.out _ T0.out.fst.2
            have x1 := hkx.cell 1
            have x2 := hkx.cell 2
            have x3 := hkx.cell 3
            have x4 := hkx.cell 4
            clear hkx
            have HC := Lib.hid (tCut T0.out a.f a.n)
            rw [down_cut HDN.out] at HC
            go_wp2_with fail
            refine HC.out.mono ?_; rintro e wx ⟨rfl, hx⟩
            clear x1 x2 x3 x4
            replace T0 : Hid (Two W0 wx d c S2 S2.start) := Lib.hid hx; clear hx HC
            have hkx := HBK.out _ T0.out.fst.2
            have x1 := hkx.cell 1
            have x2 := hkx.cell 2
            have x3 := hkx.cell 3
            have x4 := hkx.cell 4
            clear hkx
            have HC := Lib.hid (tTurn T0.out a.f a.g)
            rw [down_turn HDN.out] at HC
            go_wp2_with fail
            refine HC.out.mono ?_; rintro e wx ⟨rfl, hx⟩
            clear x1 x2 x3 x4
            replace T0 : Hid (Two W0 wx d c S2 S2.start) := Lib.hid hx; clear hx HC
            have hkx := HBK.out _ T0.out.fst.2
            have x1 := hkx.cell 1
            have x2 := hkx.cell 2
            have x3 := hkx.cell 3
            have x4 := hkx.cell 4
            clear hkx
            have HC := Lib.hid (dDown T0.out.fst)
            rw [HDN.out] at HC
            go_wp2_with fail
            refine HC.out.mono ?_; rintro e wy ⟨rfl, rfl⟩
            clear HC x1 x2 x3 x4
            have HC := Lib.hid (tStart T0.out)
            go_wp2_with fail
            refine HC.out.mono ?_; rintro e w20 ⟨rfl, hx⟩
            replace T0 := Lib.hid hx; clear hx HC
            go_wp2_with fail
            go_loopw [11] (fun i wl => LpRel W0 d c S2.start i wl) (fun i _ => 8 - (intOf i).toNat)
            case atStart => exact ⟨0, rfl, by omega, T0.out⟩
            case round =>
              obtain ⟨k, rfl, hk, hT⟩ := hrel
              have T1 := Lib.hid hT
              clear hT
              by_cases hlt : k < 8
              · have q1 : (k : Int) < 8 := by omega
                obtain ⟨R, hR⟩ : ∃ R, S2.start.read (k : Int) = R := ⟨_, rfl⟩
                obtain ⟨R1, R2⟩ := R
                have HC := Lib.hid (tRead T1.out k)
                rw [hR] at HC
                have HR := Lib.hid hR
                clear hR
                go_wp2_with fail
                refine HC.out.mono ?_; rintro e w21 ⟨rfl, hx⟩
                have T2 := Lib.hid hx; clear hx HC T1
                have HC := Lib.hid (tRead T2.out.swap k)
                rw [HR.out] at HC
                go_wp2_with fail
                refine HC.out.mono ?_; rintro e w22 ⟨rfl, hx⟩
                have T3 := Lib.hid hx.swap; clear hx HC T2
                go_wp2_with fail
                go_roundw
                case rel => exact ⟨k + 1, by go_num, by omega, T3.out⟩
                case measure => simp [intOf]; omega
              · obtain rfl : k = 8 := by omega
                have HC := Lib.hid (dDown T1.out.fst)
                rw [show S2.start.down = false from rfl] at HC
                have HE := Lib.hid (HB0.out.trans (T1.out.fst.2.mono HB0.out.size))
                go_wp2_with fail
                refine HC.out.mono ?_; rintro e wy ⟨rfl, rfl⟩
                go_wp2_with fail
                go_ret
                exact ⟨rfl, HE.out⟩
          · have g1 : decide (a.f < 0) = true := decide_eq_true (by omega)
            have HFF := Lib.hid hF
            clear hF
            have HC := Lib.hid (dWrite H8.out a.f a.n a.s (by have := HPE.out; have := HTAL.out; omega))
            rw [bad_write HCM.out _ _ _ HFF.out] at HC
            go_wp2_with fail
            refine HC.out.mono ?_; rintro e wx ⟨rfl, hx⟩
            clear x1 x2 x3 x4
            replace H8 : Hid (Dsk W0 wx d S1) := Lib.hid hx; clear hx HC
            have hkx := HBK.out _ H8.out.2
            have x1 := hkx.cell 1
            have x2 := hkx.cell 2
            have x3 := hkx.cell 3
            have x4 := hkx.cell 4
            clear hkx
            have HC := Lib.hid (dFlush H8.out a.f)
            rw [bad_flush HCM.out _ HFF.out] at HC
            go_wp2_with fail
            refine HC.out.mono ?_; rintro e wx ⟨rfl, hx⟩
            clear x1 x2 x3 x4
            replace H8 : Hid (Dsk W0 wx d S1) := Lib.hid hx; clear hx HC
            have hkx := HBK.out _ H8.out.2
            have x1 := hkx.cell 1
            have x2 := hkx.cell 2
            have x3 := hkx.cell 3
            have x4 := hkx.cell 4
            clear hkx
            have HC := Lib.hid (dCut H8.out a.f 0)
            rw [bad_cut HCM.out _ _ HFF.out] at HC
            go_wp2_with fail
            refine HC.out.mono ?_; rintro e wx ⟨rfl, hx⟩
            clear x1 x2 x3 x4
            replace H8 : Hid (Dsk W0 wx d S1) := Lib.hid hx; clear hx HC
            have hkx := HBK.out _ H8.out.2
            have x1 := hkx.cell 1
            have x2 := hkx.cell 2
            have x3 := hkx.cell 3
            have x4 := hkx.cell 4
            clear hkx
            have HC := Lib.hid (dTurn H8.out a.f 1)
            rw [bad_turn HCM.out _ _ (.inl HFF.out)] at HC
            go_wp2_with fail
            refine HC.out.mono ?_; rintro e wx ⟨rfl, hx⟩
            clear x1 x2 x3 x4
            replace H8 : Hid (Dsk W0 wx d S1) := Lib.hid hx; clear hx HC
            have hkx := HBK.out _ H8.out.2
            have x1 := hkx.cell 1
            have x2 := hkx.cell 2
            have x3 := hkx.cell 3
            have x4 := hkx.cell 4
            clear hkx
            have HC := Lib.hid (dTurn H8.out 1 a.f)
            rw [bad_turn HCM.out _ _ (.inr HFF.out)] at HC
            go_wp2_with fail
            refine HC.out.mono ?_; rintro e wx ⟨rfl, hx⟩
            clear x1 x2 x3 x4
            replace H8 : Hid (Dsk W0 wx d S1) := Lib.hid hx; clear hx HC
            have hkx := HBK.out _ H8.out.2
            have x1 := hkx.cell 1
            have x2 := hkx.cell 2
            have x3 := hkx.cell 3
            have x4 := hkx.cell 4
            clear hkx
            have HC := Lib.hid (dSize H8.out a.f)
            rw [bad_size _ _ HFF.out] at HC
            go_wp2_with fail
            refine HC.out.mono ?_; rintro e wx ⟨rfl, hx⟩
            clear x1 x2 x3 x4
            replace H8 : Hid (Dsk W0 wx d S1) := Lib.hid hx; clear hx HC
            have hkx := HBK.out _ H8.out.2
            have x1 := hkx.cell 1
            have x2 := hkx.cell 2
            have x3 := hkx.cell 3
            have x4 := hkx.cell 4
            clear hkx
            clear f0
            go_wp2_with fail
            clear x1 x2 x3 x4
            have HC := Lib.hid (dCrash H8.out (.slice none 0 0) [] (irow_nil _ _))
            refine HC.out.mono ?_; rintro e w9 ⟨rfl, h9⟩
            have hdn := crash_down S1 []
            have hpn := Nat.le_trans (Dk.crash_pend S1 []) HPE.out
            obtain ⟨S2, hS2⟩ : ∃ S2, S1.crash [] = S2 := ⟨_, rfl⟩
            rw [hS2] at h9 hdn hpn
            have H9 := Lib.hid h9
            have HDN := Lib.hid hdn
            have HPN := Lib.hid hpn
            clear h9 hdn hpn hS2 HC H8
            have HC := Lib.hid (dCopy H9.out)
            go_wp2_with fail
            refine HC.out.mono ?_; rintro e w10 ⟨c, rfl, hx⟩
            have T0 := Lib.hid hx; clear hx HC
            have HC := Lib.hid (tStart T0.out.swap)
            go_wp2_with fail
            refine HC.out.mono ?_; rintro e w11 ⟨rfl, hx⟩
            replace T0 := Lib.hid hx.swap; clear hx HC
            have hkx := HBK.out _ T0.out.fst.2
            have x1 := hkx.cell 1
            have x2 := hkx.cell 2
            have x3 := hkx.cell 3
            have x4 := hkx.cell 4
            clear hkx
            have HC := Lib.hid (tRead T0.out a.f)
            rw [down_read HDN.out] at HC
            go_wp2_with fail
            refine HC.out.mono ?_; rintro e w12 ⟨rfl, hx⟩
            replace T0 := Lib.hid hx; clear hx HC x1 x2 x3 x4
            have HC := Lib.hid (tCrash (T0.out.below (below_new _ (.cells #[.int .i64 1, .int .i64 1] 3))) _ [1, 1] (irow_new2 _ 1 1))
            rw [down_crash HDN.out] at HC
            go_wp2_with fail
            refine HC.out.mono ?_; rintro e w13 ⟨rfl, hx⟩
            replace T0 := Lib.hid hx; clear hx HC
            rw [show (bs [] : ByteArray) = { data := #[] } from rfl]
            have hkx := HBK.out _ T0.out.fst.2
            have x1 := hkx.cell 1
            have x2 := hkx.cell 2
            have x3 := hkx.cell 3
            have x4 := hkx.cell 4
            clear hkx
            have HC := Lib.hid (tWrite T0.out a.f a.n a.s (by have := HPN.out; have := HTAL.out; omega))
            rw [down_write HDN.out] at HC
            go_wp2_with fail
            refine HC.out.mono ?_; rintro e wx ⟨rfl, hx⟩
            clear x1 x2 x3 x4
            replace T0 : Hid (Two W0 wx d c S2 S2.start) := Lib.hid hx; clear hx HC
            have hkx := HBK.out _ T0.out.fst.2
            have x1 := hkx.cell 1
            have x2 := hkx.cell 2
            have x3 := hkx.cell 3
            have x4 := hkx.cell 4
            clear hkx
            have HC := Lib.hid (tFlush T0.out a.f)
            rw [down_flush HDN.out] at HC
            go_wp2_with fail
            refine HC.out.mono ?_; rintro e wx ⟨rfl, hx⟩
            clear x1 x2 x3 x4
            replace T0 : Hid (Two W0 wx d c S2 S2.start) := Lib.hid hx; clear hx HC
            have hkx := HBK.out _ T0.out.fst.2
            have x1 := hkx.cell 1
            have x2 := hkx.cell 2
            have x3 := hkx.cell 3
            have x4 := hkx.cell 4
            clear hkx
            have HC := Lib.hid (tCut T0.out a.f a.n)
            rw [down_cut HDN.out] at HC
            go_wp2_with fail
            refine HC.out.mono ?_; rintro e wx ⟨rfl, hx⟩
            clear x1 x2 x3 x4
            replace T0 : Hid (Two W0 wx d c S2 S2.start) := Lib.hid hx; clear hx HC
            have hkx := HBK.out _ T0.out.fst.2
            have x1 := hkx.cell 1
            have x2 := hkx.cell 2
            have x3 := hkx.cell 3
            have x4 := hkx.cell 4
            clear hkx
            have HC := Lib.hid (tTurn T0.out a.f a.g)
            rw [down_turn HDN.out] at HC
            go_wp2_with fail
            refine HC.out.mono ?_; rintro e wx ⟨rfl, hx⟩
            clear x1 x2 x3 x4
            replace T0 : Hid (Two W0 wx d c S2 S2.start) := Lib.hid hx; clear hx HC
            have hkx := HBK.out _ T0.out.fst.2
            have x1 := hkx.cell 1
            have x2 := hkx.cell 2
            have x3 := hkx.cell 3
            have x4 := hkx.cell 4
            clear hkx
            have HC := Lib.hid (dDown T0.out.fst)
            rw [HDN.out] at HC
            go_wp2_with fail
            refine HC.out.mono ?_; rintro e wy ⟨rfl, rfl⟩
            clear HC x1 x2 x3 x4
            have HC := Lib.hid (tStart T0.out)
            go_wp2_with fail
            refine HC.out.mono ?_; rintro e w20 ⟨rfl, hx⟩
            replace T0 := Lib.hid hx; clear hx HC
            go_wp2_with fail
            go_loopw [11] (fun i wl => LpRel W0 d c S2.start i wl) (fun i _ => 8 - (intOf i).toNat)
            case atStart => exact ⟨0, rfl, by omega, T0.out⟩
            case round =>
              obtain ⟨k, rfl, hk, hT⟩ := hrel
              have T1 := Lib.hid hT
              clear hT
              by_cases hlt : k < 8
              · have q1 : (k : Int) < 8 := by omega
                obtain ⟨R, hR⟩ : ∃ R, S2.start.read (k : Int) = R := ⟨_, rfl⟩
                obtain ⟨R1, R2⟩ := R
                have HC := Lib.hid (tRead T1.out k)
                rw [hR] at HC
                have HR := Lib.hid hR
                clear hR
                go_wp2_with fail
                refine HC.out.mono ?_; rintro e w21 ⟨rfl, hx⟩
                have T2 := Lib.hid hx; clear hx HC T1
                have HC := Lib.hid (tRead T2.out.swap k)
                rw [HR.out] at HC
                go_wp2_with fail
                refine HC.out.mono ?_; rintro e w22 ⟨rfl, hx⟩
                have T3 := Lib.hid hx.swap; clear hx HC T2
                go_wp2_with fail
                go_roundw
                case rel => exact ⟨k + 1, by go_num, by omega, T3.out⟩
                case measure => simp [intOf]; omega
              · obtain rfl : k = 8 := by omega
                have HC := Lib.hid (dDown T1.out.fst)
                rw [show S2.start.down = false from rfl] at HC
                have HE := Lib.hid (HB0.out.trans (T1.out.fst.2.mono HB0.out.size))
                go_wp2_with fail
                refine HC.out.mono ?_; rintro e wy ⟨rfl, rfl⟩
                go_wp2_with fail
                go_ret
                exact ⟨rfl, HE.out⟩
          · have g1 : decide (a.f < 0) = false := decide_eq_false (by omega)
            have g2 : decide (a.f > 7) = true := decide_eq_true (by omega)
            have g3 : decide (7 < a.f) = true := decide_eq_true (by omega)
            have HFF := Lib.hid hF
            clear hF
            have HC := Lib.hid (dWrite H8.out a.f a.n a.s (by have := HPE.out; have := HTAL.out; omega))
            rw [bad_write HCM.out _ _ _ HFF.out] at HC
            go_wp2_with fail
            refine HC.out.mono ?_; rintro e wx ⟨rfl, hx⟩
            clear x1 x2 x3 x4
            replace H8 : Hid (Dsk W0 wx d S1) := Lib.hid hx; clear hx HC
            have hkx := HBK.out _ H8.out.2
            have x1 := hkx.cell 1
            have x2 := hkx.cell 2
            have x3 := hkx.cell 3
            have x4 := hkx.cell 4
            clear hkx
            have HC := Lib.hid (dFlush H8.out a.f)
            rw [bad_flush HCM.out _ HFF.out] at HC
            go_wp2_with fail
            refine HC.out.mono ?_; rintro e wx ⟨rfl, hx⟩
            clear x1 x2 x3 x4
            replace H8 : Hid (Dsk W0 wx d S1) := Lib.hid hx; clear hx HC
            have hkx := HBK.out _ H8.out.2
            have x1 := hkx.cell 1
            have x2 := hkx.cell 2
            have x3 := hkx.cell 3
            have x4 := hkx.cell 4
            clear hkx
            have HC := Lib.hid (dCut H8.out a.f 0)
            rw [bad_cut HCM.out _ _ HFF.out] at HC
            go_wp2_with fail
            refine HC.out.mono ?_; rintro e wx ⟨rfl, hx⟩
            clear x1 x2 x3 x4
            replace H8 : Hid (Dsk W0 wx d S1) := Lib.hid hx; clear hx HC
            have hkx := HBK.out _ H8.out.2
            have x1 := hkx.cell 1
            have x2 := hkx.cell 2
            have x3 := hkx.cell 3
            have x4 := hkx.cell 4
            clear hkx
            have HC := Lib.hid (dTurn H8.out a.f 1)
            rw [bad_turn HCM.out _ _ (.inl HFF.out)] at HC
            go_wp2_with fail
            refine HC.out.mono ?_; rintro e wx ⟨rfl, hx⟩
            clear x1 x2 x3 x4
            replace H8 : Hid (Dsk W0 wx d S1) := Lib.hid hx; clear hx HC
            have hkx := HBK.out _ H8.out.2
            have x1 := hkx.cell 1
            have x2 := hkx.cell 2
            have x3 := hkx.cell 3
            have x4 := hkx.cell 4
            clear hkx
            have HC := Lib.hid (dTurn H8.out 1 a.f)
            rw [bad_turn HCM.out _ _ (.inr HFF.out)] at HC
            go_wp2_with fail
            refine HC.out.mono ?_; rintro e wx ⟨rfl, hx⟩
            clear x1 x2 x3 x4
            replace H8 : Hid (Dsk W0 wx d S1) := Lib.hid hx; clear hx HC
            have hkx := HBK.out _ H8.out.2
            have x1 := hkx.cell 1
            have x2 := hkx.cell 2
            have x3 := hkx.cell 3
            have x4 := hkx.cell 4
            clear hkx
            have HC := Lib.hid (dSize H8.out a.f)
            rw [bad_size _ _ HFF.out] at HC
            go_wp2_with fail
            refine HC.out.mono ?_; rintro e wx ⟨rfl, hx⟩
            clear x1 x2 x3 x4
            replace H8 : Hid (Dsk W0 wx d S1) := Lib.hid hx; clear hx HC
            have hkx := HBK.out _ H8.out.2
            have x1 := hkx.cell 1
            have x2 := hkx.cell 2
            have x3 := hkx.cell 3
            have x4 := hkx.cell 4
            clear hkx
            clear f7
            go_wp2_with fail
            clear x1 x2 x3 x4
            have HC := Lib.hid (dCrash H8.out (.slice none 0 0) [] (irow_nil _ _))
            refine HC.out.mono ?_; rintro e w9 ⟨rfl, h9⟩
            have hdn := crash_down S1 []
            have hpn := Nat.le_trans (Dk.crash_pend S1 []) HPE.out
            obtain ⟨S2, hS2⟩ : ∃ S2, S1.crash [] = S2 := ⟨_, rfl⟩
            rw [hS2] at h9 hdn hpn
            have H9 := Lib.hid h9
            have HDN := Lib.hid hdn
            have HPN := Lib.hid hpn
            clear h9 hdn hpn hS2 HC H8
            have HC := Lib.hid (dCopy H9.out)
            go_wp2_with fail
            refine HC.out.mono ?_; rintro e w10 ⟨c, rfl, hx⟩
            have T0 := Lib.hid hx; clear hx HC
            have HC := Lib.hid (tStart T0.out.swap)
            go_wp2_with fail
            refine HC.out.mono ?_; rintro e w11 ⟨rfl, hx⟩
            replace T0 := Lib.hid hx.swap; clear hx HC
            have hkx := HBK.out _ T0.out.fst.2
            have x1 := hkx.cell 1
            have x2 := hkx.cell 2
            have x3 := hkx.cell 3
            have x4 := hkx.cell 4
            clear hkx
            have HC := Lib.hid (tRead T0.out a.f)
            rw [down_read HDN.out] at HC
            go_wp2_with fail
            refine HC.out.mono ?_; rintro e w12 ⟨rfl, hx⟩
            replace T0 := Lib.hid hx; clear hx HC x1 x2 x3 x4
            have HC := Lib.hid (tCrash (T0.out.below (below_new _ (.cells #[.int .i64 1, .int .i64 1] 3))) _ [1, 1] (irow_new2 _ 1 1))
            rw [down_crash HDN.out] at HC
            go_wp2_with fail
            refine HC.out.mono ?_; rintro e w13 ⟨rfl, hx⟩
            replace T0 := Lib.hid hx; clear hx HC
            rw [show (bs [] : ByteArray) = { data := #[] } from rfl]
            have hkx := HBK.out _ T0.out.fst.2
            have x1 := hkx.cell 1
            have x2 := hkx.cell 2
            have x3 := hkx.cell 3
            have x4 := hkx.cell 4
            clear hkx
            have HC := Lib.hid (tWrite T0.out a.f a.n a.s (by have := HPN.out; have := HTAL.out; omega))
            rw [down_write HDN.out] at HC
            go_wp2_with fail
            refine HC.out.mono ?_; rintro e wx ⟨rfl, hx⟩
            clear x1 x2 x3 x4
            replace T0 : Hid (Two W0 wx d c S2 S2.start) := Lib.hid hx; clear hx HC
            have hkx := HBK.out _ T0.out.fst.2
            have x1 := hkx.cell 1
            have x2 := hkx.cell 2
            have x3 := hkx.cell 3
            have x4 := hkx.cell 4
            clear hkx
            have HC := Lib.hid (tFlush T0.out a.f)
            rw [down_flush HDN.out] at HC
            go_wp2_with fail
            refine HC.out.mono ?_; rintro e wx ⟨rfl, hx⟩
            clear x1 x2 x3 x4
            replace T0 : Hid (Two W0 wx d c S2 S2.start) := Lib.hid hx; clear hx HC
            have hkx := HBK.out _ T0.out.fst.2
            have x1 := hkx.cell 1
            have x2 := hkx.cell 2
            have x3 := hkx.cell 3
            have x4 := hkx.cell 4
            clear hkx
            have HC := Lib.hid (tCut T0.out a.f a.n)
            rw [down_cut HDN.out] at HC
            go_wp2_with fail
            refine HC.out.mono ?_; rintro e wx ⟨rfl, hx⟩
            clear x1 x2 x3 x4
            replace T0 : Hid (Two W0 wx d c S2 S2.start) := Lib.hid hx; clear hx HC
            have hkx := HBK.out _ T0.out.fst.2
            have x1 := hkx.cell 1
            have x2 := hkx.cell 2
            have x3 := hkx.cell 3
            have x4 := hkx.cell 4
            clear hkx
            have HC := Lib.hid (tTurn T0.out a.f a.g)
            rw [down_turn HDN.out] at HC
            go_wp2_with fail
            refine HC.out.mono ?_; rintro e wx ⟨rfl, hx⟩
            clear x1 x2 x3 x4
            replace T0 : Hid (Two W0 wx d c S2 S2.start) := Lib.hid hx; clear hx HC
            have hkx := HBK.out _ T0.out.fst.2
            have x1 := hkx.cell 1
            have x2 := hkx.cell 2
            have x3 := hkx.cell 3
            have x4 := hkx.cell 4
            clear hkx
            have HC := Lib.hid (dDown T0.out.fst)
            rw [HDN.out] at HC
            go_wp2_with fail
            refine HC.out.mono ?_; rintro e wy ⟨rfl, rfl⟩
            clear HC x1 x2 x3 x4
            have HC := Lib.hid (tStart T0.out)
            go_wp2_with fail
            refine HC.out.mono ?_; rintro e w20 ⟨rfl, hx⟩
            replace T0 := Lib.hid hx; clear hx HC
            go_wp2_with fail
            go_loopw [11] (fun i wl => LpRel W0 d c S2.start i wl) (fun i _ => 8 - (intOf i).toNat)
            case atStart => exact ⟨0, rfl, by omega, T0.out⟩
            case round =>
              obtain ⟨k, rfl, hk, hT⟩ := hrel
              have T1 := Lib.hid hT
              clear hT
              by_cases hlt : k < 8
              · have q1 : (k : Int) < 8 := by omega
                obtain ⟨R, hR⟩ : ∃ R, S2.start.read (k : Int) = R := ⟨_, rfl⟩
                obtain ⟨R1, R2⟩ := R
                have HC := Lib.hid (tRead T1.out k)
                rw [hR] at HC
                have HR := Lib.hid hR
                clear hR
                go_wp2_with fail
                refine HC.out.mono ?_; rintro e w21 ⟨rfl, hx⟩
                have T2 := Lib.hid hx; clear hx HC T1
                have HC := Lib.hid (tRead T2.out.swap k)
                rw [HR.out] at HC
                go_wp2_with fail
                refine HC.out.mono ?_; rintro e w22 ⟨rfl, hx⟩
                have T3 := Lib.hid hx.swap; clear hx HC T2
                go_wp2_with fail
                go_roundw
                case rel => exact ⟨k + 1, by go_num, by omega, T3.out⟩
                case measure => simp [intOf]; omega
              · obtain rfl : k = 8 := by omega
                have HC := Lib.hid (dDown T1.out.fst)
                rw [show S2.start.down = false from rfl] at HC
                have HE := Lib.hid (HB0.out.trans (T1.out.fst.2.mono HB0.out.size))
                go_wp2_with fail
                refine HC.out.mono ?_; rintro e wy ⟨rfl, rfl⟩
                go_wp2_with fail
                go_ret
                exact ⟨rfl, HE.out⟩
end Go.Proofs.Ytkhmaaneekdifaa.diskDown
