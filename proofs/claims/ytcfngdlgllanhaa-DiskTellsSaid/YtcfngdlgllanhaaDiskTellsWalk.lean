/-
  The walk of the law DiskTells.
-/
import Derived.Test.YtcfngdlgllanhaaDTm
import Derived.Test.YtcfngdlgllanhaaDoa
import Derived.Deep.RegionHeld3
namespace Go.Proofs.Ytcfngdlgllanhaa.diskTells
set_option linter.unusedVariables false
set_option linter.unusedSimpArgs false
open Go.RowKit

def LR (W : World) (l : List Ac) (dv xv i : Value) (wl : World) : Prop := ∃ (k d x : Nat) (K : List Int), dv = .pointer (some ⟨d, 0, none⟩) ∧ xv = .pointer (some ⟨x, 0, none⟩) ∧ i = .int .i64 k ∧ k ≤ l.length ∧ TR W wl d x (runA dk0 (l.take k)) ((runA dk0 (l.take k)).wk K) ∧ ((runA dk0 (l.take k)).calls ≠ 0 → K = (runA dk0 (l.take k)).keep)
def L2 (W : World) (d x : Nat) (s r : Dk) (i : Value) (wl : World) : Prop := ∃ f : Nat, i = .int .i64 f ∧ f ≤ 8 ∧ TR W wl d x s r
theorem irow_old {w : World} {B : Nat} {A : Option Addr} {n cap : Nat} {l : List Int} (h : IRow w B (.slice A n cap) l) (hl : l ≠ []) : ∀ k, (Value.slice A n cap).ownBlock = some k → k < B := by
  obtain ⟨A', cap', hv, _, _, _, hA⟩ := h
  injection hv with e1 e2 e3
  subst e1
  obtain ⟨b, off, ha, hb, _⟩ := hA (List.length_pos_iff.2 hl)
  intro k hk
  rw [ha] at hk
  simp [Value.ownBlock] at hk
  omega
set_option maxRecDepth 100000 in
set_option maxHeartbeats 0 in
theorem walk (W : World) (v0 : Value) (l : List Ac) (w0 : OpenActs W v0 l) :
    Calls Try.prog 3 #[v0] W fun e w' => e = .returned (.bool true) ∧ Below W.heap.size W w' := by
  obtain ⟨har, hwf, hlen⟩ := w0
  obtain ⟨A, cap, rfl, hA⟩ := har
  have har : ARow W W.heap.size (.slice A l.length cap) l := ⟨A, cap, rfl, hA⟩
  have HAR0 := Lib.hid har
  have HAR : Hid (∀ w', Below W.heap.size W w' → ARow w' w'.heap.size (.slice A l.length cap) l) := Lib.hid fun w' hb => har.keep hb
  have HWF := Lib.hid hwf
  have HS := Lib.hid (small6 W)
  have hlen' := hlen
  clear hA har hwf
  go_enter Try.func3, Try.ntmps3
  go_wp2_with fail
  refine HS.out.mono ?_; rintro e w2 ⟨rfl, hb2⟩
  have HN := Lib.hid (dNew w2)
  have HB2 := Lib.hid hb2
  clear hb2 HS
  go_wp2_with fail
  refine HN.out.mono ?_; rintro e w3 ⟨d, rfl, h3⟩
  have H := Lib.hid (h3.base HB2.out)
  clear h3 HN HB2
  have HF := Lib.hid (fewP _ l w3 (HAR.out _ H.out.2) HWF.out hlen)
  rcases hfew : fewB l
  · rw [hfew] at HF
    clear hfew
    go_wp2_with fail
    refine HF.out.mono ?_; rintro e w4 ⟨rfl, hb4⟩
    have HE := Lib.hid (H.out.2.trans (hb4.mono H.out.2.size))
    clear hb4
    go_wp2_with fail
    go_ret
    exact ⟨rfl, HE.out⟩
  · rw [hfew] at HF
    obtain ⟨hok, hl200, htot⟩ := fewB_parts hfew
    have HTOT := Lib.hid htot
    clear hok hfew htot
    go_wp2_with fail
    refine HF.out.mono ?_; rintro e w4 ⟨rfl, hb4⟩
    replace H := Lib.hid (H.out.below hb4)
    clear hb4 HF
    have HC := Lib.hid (newX H.out)
    go_wp2_with fail
    refine HC.out.mono ?_; rintro e w5 ⟨x, rfl, h5⟩
    have H0 := Lib.hid h5
    clear h5 HC H
    go_wp2_with fail
    go_loopw [4, 5, 6] (fun dv xv i wl => LR W l dv xv i wl) (fun _ _ i _ => l.length - (intOf i).toNat)
    case atStart => exact ⟨0, d, x, [], rfl, rfl, rfl, by omega, H0.out, fun h => absurd rfl h⟩
    case round =>
      clear H0
      obtain ⟨k, d, x, K, rfl, rfl, rfl, hk, hT, hK⟩ := hrel
      have H := Lib.hid hT
      have HK := Lib.hid hK
      clear hT hK
      by_cases hlt : k < l.length
      · obtain ⟨A', cap', he, hA⟩ := HAR0.out
        injection he with he1 _ he2
        subst he1; subst he2
        obtain ⟨b, off, rfl, hb, hc⟩ := hA (by omega)
        obtain ⟨u, hu, c0, c1, c2, c3, c4, c5⟩ := hc k hlt
        obtain ⟨A3, cap3, rfl, hu2⟩ := hu
        have hu : IRow W W.heap.size (.slice A3 (ga l k).keep.length cap3) (ga l k).keep := ⟨A3, cap3, rfl, hu2⟩
        have HCL : Hid (∀ w', Below W.heap.size W w' → w'.cell? ⟨b, off + k * 6, none⟩ = some (.int .i64 (ga l k).o) ∧ w'.cell? ⟨b, off + k * 6 + 1, none⟩ = some (.int .i64 (ga l k).f) ∧ w'.cell? ⟨b, off + k * 6 + 2, none⟩ = some (.int .i64 (ga l k).g) ∧ w'.cell? ⟨b, off + k * 6 + 3, none⟩ = some (.int .i64 (ga l k).n) ∧ w'.cell? ⟨b, off + k * 6 + 4, none⟩ = some (.string (ga l k).s) ∧ w'.cell? ⟨b, off + k * 6 + 5, none⟩ = some (.slice A3 (ga l k).keep.length cap3)) := Lib.hid fun w' hb => ⟨keep_below hb c0, keep_below hb c1, keep_below hb c2, keep_below hb c3, keep_below hb c4, keep_below hb c5⟩
        have HUR : Hid (∀ w', Below W.heap.size W w' → IRow w' w'.heap.size (.slice A3 (ga l k).keep.length cap3) (ga l k).keep) := Lib.hid fun w' hb => hu.keep hb
        have HOLD : Hid ((ga l k).keep ≠ [] → ∀ j, (Value.slice A3 (ga l k).keep.length cap3).ownBlock = some j → j < W.heap.size) := Lib.hid fun hne => irow_old hu hne
        have hmem : ga l k ∈ l := by rw [ga_get l k hlt]; exact List.getElem_mem hlt
        have hp := runA_pend l k hk
        have ht1 := tot_take_le l k
        have ht2 := tot_snoc l k hlt
        have ht3 := tot_take_le l (k + 1)
        have htt := HTOT.out
        have HWFK := Lib.hid (HWF.out _ hmem)
        have HTK : Hid ((ga l k).w ≤ 5000) := Lib.hid (by omega)
        have HPN : Hid ((runA dk0 (l.take k)).pend.length ≤ 5000) := Lib.hid (by omega)
        have HSN0 := Lib.hid (runA_snoc dk0 l k hlt)
        have q1 : (k : Int) < l.length := by omega
        have HPK := Lib.hid (fun w => pickP (ga l k).o HWFK.out.o.1 HWFK.out.o.2 w)
        clear hA hc hu2 hu hb hmem hp ht1 ht2 ht3 htt c0 c1 c2 c3 c4 c5
        obtain ⟨S, hS⟩ : ∃ S, runA dk0 (l.take k) = S := ⟨_, rfl⟩
        rw [hS] at H HK HPN HSN0
        clear hS
        obtain ⟨K', hK1, hK2⟩ := wk_act S K (ga l k) HK.out
        obtain ⟨⟨A1, A2, S'⟩, hact⟩ : ∃ q, S.act (ga l k) = q := ⟨_, rfl⟩
        rw [hact] at hK1 hK2 HSN0
        obtain ⟨R', hR'⟩ : ∃ R', S'.wk K' = R' := ⟨_, rfl⟩
        obtain ⟨F, hF⟩ : ∃ F, (ga l k).f = F := ⟨_, rfl⟩
        obtain ⟨dn, hdn⟩ : ∃ dn, S'.down = dn := ⟨_, rfl⟩
        obtain ⟨sz, hsz⟩ : ∃ sz, S'.size F = sz := ⟨_, rfl⟩
        have HDN := Lib.hid hdn
        have HSZ := Lib.hid hsz
        have HDX : Hid (R'.down = dn) := Lib.hid (by rw [← hR', ← hdn]; rfl)
        have HSX : Hid (R'.size F = sz) := Lib.hid (by rw [← hR', ← hsz]; rfl)
        have HA := Lib.hid hact
        have HRA := Lib.hid hK1
        have HK' : Hid (S'.calls ≠ 0 → K' = S'.keep) := Lib.hid hK2
        have HRR := Lib.hid hR'
        have HF := Lib.hid hF
        have HSN : Hid (runA dk0 (l.take (k + 1)) = S') := HSN0
        clear hK1 hK2 hact hR' hF hdn hsz HSN0 HK
        obtain ⟨M, hM⟩ : ∃ M, (ga l k).o % 11 = M := ⟨_, rfl⟩
        rw [hM] at HPK
        clear hM
        obtain ⟨x0, x1, x2, x3, x4, x5⟩ := HCL.out _ H.out.bel
        by_cases hm : M = 9
        · have hm2 : (M == 9) = true := by rw [hm]; rfl
          have hm3 : decide (M = 9) = true := decide_eq_true hm
          clear hm
          go_wp2_with fail
          refine (HPK.out _).mono ?_; rintro e w2 ⟨rfl, rfl⟩
          clear x0 x1 x2 x3 x4 x5
          have HC := Lib.hid (copyT H.out)
          go_wp2_with fail
          refine HC.out.mono ?_; rintro e w3 ⟨c, rfl, h3⟩
          have G := Lib.hid h3; clear h3 HC
          have HC := Lib.hid (writeT3 G.out 0 0 { data := #[103, 111, 110, 101] } (by have := HPN.out; show S.pend.length + 4 ≤ _; omega))
          go_wp2_with fail
          refine HC.out.mono ?_; rintro e w4 ⟨rfl, h4⟩
          replace G := Lib.hid h4; clear h4 HC
          have HC := Lib.hid (crashT3 G.out)
          go_wp2_with fail
          refine HC.out.mono ?_; rintro e w5 ⟨rfl, h5⟩
          have H5 := Lib.hid h5.drop; clear h5 HC G H
          have HC := Lib.hid (copyX H5.out)
          go_wp2_with fail
          refine HC.out.mono ?_; rintro e w6 ⟨y, rfl, h6⟩
          have H := Lib.hid h6; clear h6 HC H5
          have HC := Lib.hid (doT H.out (ga l k) _ (HUR.out _ H.out.bel) HWFK.out HTK.out HPN.out)
          unfold av at HC
          rw [HA.out] at HC
          obtain ⟨x0, x1, x2, x3, x4, x5⟩ := HCL.out _ H.out.bel
          go_wp2_with fail
          refine HC.out.mono ?_; rintro e w7 ⟨rfl, h7⟩
          replace H := Lib.hid h7; clear h7 HC x0 x1 x2 x3 x4 x5
          have HC := Lib.hid (twinT H.out (ga l k) _ (HUR.out _ H.out.bel) HOLD.out HWFK.out HTK.out (show ((S.wk K).pend.length) ≤ 5000 from HPN.out))
          unfold av at HC
          rw [HRA.out] at HC
          obtain ⟨x0, x1, x2, x3, x4, x5⟩ := HCL.out _ H.out.bel
          go_wp2_with fail
          refine HC.out.mono ?_; rintro e w8 ⟨rfl, h8⟩
          replace H := Lib.hid h8; clear h8 HC x0 x1 x2 x3 x4 x5
          simp only at H
          have H0 : Hid (TR W w8.drew c y S' R') := Lib.hid (show TR W w8 c y S' R' by have := H.out; rw [HRR.out] at this; exact this).drew
          have HD1 : Hid (∀ w', Hid (TR W w' c y S' R') → Calls Try.prog 16 #[.pointer (some ⟨c, 0, none⟩)] w' fun e w2 => e = .returned (.bool dn) ∧ TR W w2 c y S' R') := Lib.hid fun w' h => by have := downT h.out; rw [HDN.out] at this; exact this
          have HD2 : Hid (∀ w', Hid (TR W w' c y S' R') → Calls Try.prog 17 #[.pointer (some ⟨y, 0, none⟩)] w' fun e w2 => e = .returned (.bool dn) ∧ TR W w2 c y S' R') := Lib.hid fun w' h => by have := downX h.out; rw [HDX.out] at this; exact this
          have HD3 : Hid (∀ w', Hid (TR W w' c y S' R') → Calls Try.prog 18 #[.pointer (some ⟨c, 0, none⟩), .int .i64 F] w' fun e w2 => e = .returned (.int .i64 (sz : Int)) ∧ TR W w2 c y S' R') := Lib.hid fun w' h => by have := sizeT h.out F; rw [HSZ.out] at this; exact this
          have HD4 : Hid (∀ w', Hid (TR W w' c y S' R') → Calls Try.prog 19 #[.pointer (some ⟨y, 0, none⟩), .int .i64 F] w' fun e w2 => e = .returned (.int .i64 (sz : Int)) ∧ TR W w2 c y S' R') := Lib.hid fun w' h => by have := sizeX h.out F; rw [HSX.out] at this; exact this
          have HCF : Hid (∀ w', Hid (TR W w' c y S' R') → w'.cell? ⟨b, off + k * 6 + 1, none⟩ = some (.int .i64 F)) := Lib.hid fun w' h => (HCL.out w' h.out.bel).2.1.trans (by rw [HF.out])
          have HEND : Hid (∀ w', Hid (TR W w' c y S' R') → ∃ (k' d' x' : Nat) (K' : List Int), Value.pointer (some ⟨c, 0, none⟩) = .pointer (some ⟨d', 0, none⟩) ∧ Value.pointer (some ⟨y, 0, none⟩) = .pointer (some ⟨x', 0, none⟩) ∧ Value.int .i64 ((k : Int) + 1) = .int .i64 k' ∧ k' ≤ l.length ∧ TR W w' d' x' (runA dk0 (l.take k')) ((runA dk0 (l.take k')).wk K') ∧ ((runA dk0 (l.take k')).calls ≠ 0 → K' = (runA dk0 (l.take k')).keep)) := Lib.hid fun w' h => ⟨k + 1, c, y, K', rfl, rfl, by go_num, hlt, by rw [HSN.out, HRR.out]; exact h.out, by rw [HSN.out]; exact HK'.out⟩
          have cx := HCF.out _ H0
          have hq1 : (A1.toList != A1.toList) = false := by simp
          have hq2 : (A2 != A2) = false := by simp
          have hq3 : (dn != dn) = false := by simp
          have hq4 : ((sz : Int) != (sz : Int)) = false := by simp
          clear H
          go_wp2_with fail
          go_region_held3 (fun w' => w'.cell? ⟨b, off + k * 6 + 1, none⟩ = some (.int .i64 F)) (first | exact cx | exact HCF.out _ (by assumption) | fail) (first | ((with_reducible refine (HD1.out _ (by assumption)).mono ?_); rintro e wN ⟨rfl, hT⟩; have T := Lib.hid hT; clear hT) | ((with_reducible refine (HD2.out _ (by assumption)).mono ?_); rintro e wN ⟨rfl, hT⟩; have T := Lib.hid hT; clear hT) | ((with_reducible refine (HD3.out _ (by assumption)).mono ?_); rintro e wN ⟨rfl, hT⟩; have T := Lib.hid hT; clear hT) | ((with_reducible refine (HD4.out _ (by assumption)).mono ?_); rintro e wN ⟨rfl, hT⟩; have T := Lib.hid hT; clear hT))
          all_goals
            go_wp2_with fail
            go_roundw
            case rel => exact HEND.out _ T
            case measure => simp [intOf]; omega
        · have hm2 : (M == 9) = false := by simpa using hm
          have hm3 : decide (M = 9) = false := decide_eq_false hm
          clear hm
          go_wp2_with fail
          refine (HPK.out _).mono ?_; rintro e w2 ⟨rfl, rfl⟩
          clear x0 x1 x2 x3 x4 x5
          have HC := Lib.hid (doT H.out (ga l k) _ (HUR.out _ H.out.bel) HWFK.out HTK.out HPN.out)
          unfold av at HC
          rw [HA.out] at HC
          obtain ⟨x0, x1, x2, x3, x4, x5⟩ := HCL.out _ H.out.bel
          go_wp2_with fail
          refine HC.out.mono ?_; rintro e w7 ⟨rfl, h7⟩
          replace H := Lib.hid h7; clear h7 HC x0 x1 x2 x3 x4 x5
          have HC := Lib.hid (twinT H.out (ga l k) _ (HUR.out _ H.out.bel) HOLD.out HWFK.out HTK.out (show ((S.wk K).pend.length) ≤ 5000 from HPN.out))
          unfold av at HC
          rw [HRA.out] at HC
          obtain ⟨x0, x1, x2, x3, x4, x5⟩ := HCL.out _ H.out.bel
          go_wp2_with fail
          refine HC.out.mono ?_; rintro e w8 ⟨rfl, h8⟩
          replace H := Lib.hid h8; clear h8 HC x0 x1 x2 x3 x4 x5
          simp only at H
          have H0 : Hid (TR W w8.drew d x S' R') := Lib.hid (show TR W w8 d x S' R' by have := H.out; rw [HRR.out] at this; exact this).drew
          have HD1 : Hid (∀ w', Hid (TR W w' d x S' R') → Calls Try.prog 16 #[.pointer (some ⟨d, 0, none⟩)] w' fun e w2 => e = .returned (.bool dn) ∧ TR W w2 d x S' R') := Lib.hid fun w' h => by have := downT h.out; rw [HDN.out] at this; exact this
          have HD2 : Hid (∀ w', Hid (TR W w' d x S' R') → Calls Try.prog 17 #[.pointer (some ⟨x, 0, none⟩)] w' fun e w2 => e = .returned (.bool dn) ∧ TR W w2 d x S' R') := Lib.hid fun w' h => by have := downX h.out; rw [HDX.out] at this; exact this
          have HD3 : Hid (∀ w', Hid (TR W w' d x S' R') → Calls Try.prog 18 #[.pointer (some ⟨d, 0, none⟩), .int .i64 F] w' fun e w2 => e = .returned (.int .i64 (sz : Int)) ∧ TR W w2 d x S' R') := Lib.hid fun w' h => by have := sizeT h.out F; rw [HSZ.out] at this; exact this
          have HD4 : Hid (∀ w', Hid (TR W w' d x S' R') → Calls Try.prog 19 #[.pointer (some ⟨x, 0, none⟩), .int .i64 F] w' fun e w2 => e = .returned (.int .i64 (sz : Int)) ∧ TR W w2 d x S' R') := Lib.hid fun w' h => by have := sizeX h.out F; rw [HSX.out] at this; exact this
          have HCF : Hid (∀ w', Hid (TR W w' d x S' R') → w'.cell? ⟨b, off + k * 6 + 1, none⟩ = some (.int .i64 F)) := Lib.hid fun w' h => (HCL.out w' h.out.bel).2.1.trans (by rw [HF.out])
          have HEND : Hid (∀ w', Hid (TR W w' d x S' R') → ∃ (k' d' x' : Nat) (K' : List Int), Value.pointer (some ⟨d, 0, none⟩) = .pointer (some ⟨d', 0, none⟩) ∧ Value.pointer (some ⟨x, 0, none⟩) = .pointer (some ⟨x', 0, none⟩) ∧ Value.int .i64 ((k : Int) + 1) = .int .i64 k' ∧ k' ≤ l.length ∧ TR W w' d' x' (runA dk0 (l.take k')) ((runA dk0 (l.take k')).wk K') ∧ ((runA dk0 (l.take k')).calls ≠ 0 → K' = (runA dk0 (l.take k')).keep)) := Lib.hid fun w' h => ⟨k + 1, d, x, K', rfl, rfl, by go_num, hlt, by rw [HSN.out, HRR.out]; exact h.out, by rw [HSN.out]; exact HK'.out⟩
          have cx := HCF.out _ H0
          have hq1 : (A1.toList != A1.toList) = false := by simp
          have hq2 : (A2 != A2) = false := by simp
          have hq3 : (dn != dn) = false := by simp
          have hq4 : ((sz : Int) != (sz : Int)) = false := by simp
          clear H
          go_wp2_with fail
          go_region_held3 (fun w' => w'.cell? ⟨b, off + k * 6 + 1, none⟩ = some (.int .i64 F)) (first | exact cx | exact HCF.out _ (by assumption) | fail) (first | ((with_reducible refine (HD1.out _ (by assumption)).mono ?_); rintro e wN ⟨rfl, hT⟩; have T := Lib.hid hT; clear hT) | ((with_reducible refine (HD2.out _ (by assumption)).mono ?_); rintro e wN ⟨rfl, hT⟩; have T := Lib.hid hT; clear hT) | ((with_reducible refine (HD3.out _ (by assumption)).mono ?_); rintro e wN ⟨rfl, hT⟩; have T := Lib.hid hT; clear hT) | ((with_reducible refine (HD4.out _ (by assumption)).mono ?_); rintro e wN ⟨rfl, hT⟩; have T := Lib.hid hT; clear hT))
          all_goals
            go_wp2_with fail
            go_roundw
            case rel => exact HEND.out _ T
            case measure => simp [intOf]; omega
      · obtain rfl : k = l.length := by omega
        rw [List.take_length] at H
        clear HK hlt
        have hs := H
        obtain ⟨S, hS⟩ : ∃ S, runA dk0 l = S := ⟨_, rfl⟩
        rw [hS] at H
        clear hS hs HAR
        have HC := Lib.hid (startT H.out)
        go_wp2_with fail
        refine HC.out.mono ?_; rintro e w3 ⟨rfl, h3⟩
        replace H := Lib.hid h3; clear h3 HC
        have HC := Lib.hid (startX H.out)
        go_wp2_with fail
        refine HC.out.mono ?_; rintro e w4 ⟨rfl, h4⟩
        replace H := Lib.hid h4; clear h4 HC
        have HR1 : Hid (∀ f : Nat, f < 8 → S.start.read (f : Int) = (S.bytes f, 0)) := Lib.hid fun f hf => read_of S.start f hf rfl
        have HR2 : Hid (∀ f : Nat, f < 8 → ((S.wk K).start).read (f : Int) = (S.bytes f, 0)) := Lib.hid fun f hf => read_of (S.wk K).start f hf rfl
        obtain ⟨S1, hS1⟩ : ∃ S1, S.start = S1 := ⟨_, rfl⟩
        obtain ⟨R1, hR1⟩ : ∃ R1, (S.wk K).start = R1 := ⟨_, rfl⟩
        rw [hS1] at H HR1
        rw [hR1] at H HR2
        clear hS1 hR1
        go_wp2_with fail
        go_loopw [12] (fun i wl => L2 W d x S1 R1 i wl) (fun i _ => 8 - (intOf i).toNat)
        case atStart => exact ⟨0, rfl, by omega, H.out⟩
        case round =>
          clear H
          obtain ⟨f, rfl, hf, hT⟩ := hrel
          have T := Lib.hid hT
          clear hT
          by_cases hlt : f < 8
          · have q1 : (f : Int) < 8 := by omega
            have HC := Lib.hid (readT T.out f)
            rw [HR1.out f hlt] at HC
            obtain ⟨Z, hZ⟩ : ∃ Z, S.bytes f = Z := ⟨_, rfl⟩
            rw [hZ] at HC
            have HZ := Lib.hid hZ
            clear hZ
            have hq1 : (Z.toList != Z.toList) = false := by simp
            go_wp2_with fail
            refine HC.out.mono ?_; rintro e w5 ⟨rfl, h5⟩
            have T2 := Lib.hid h5; clear h5 HC T
            have HC := Lib.hid (readX T2.out f)
            rw [HR2.out f hlt, HZ.out] at HC
            go_wp2_with fail
            refine HC.out.mono ?_; rintro e w6 ⟨rfl, h6⟩
            have T3 := Lib.hid h6; clear h6 HC T2
            go_wp2_with fail
            go_roundw
            case rel => exact ⟨f + 1, by go_num, by omega, T3.out⟩
            case measure => simp [intOf]; omega
          · obtain rfl : f = 8 := by omega
            have HE := Lib.hid T.out.bel
            go_wp2_with fail
            go_ret
            exact ⟨rfl, HE.out⟩
end Go.Proofs.Ytcfngdlgllanhaa.diskTells

