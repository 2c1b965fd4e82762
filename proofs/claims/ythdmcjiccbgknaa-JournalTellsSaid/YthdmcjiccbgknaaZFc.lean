/-
  Layer 6: what a crash does, file by file (mathematics).
  Layer 6: Crash.
  Layer 6: enter, Read, Flush, Cut, Turn.
-/
import Derived.Test.YthdmcjiccbgknaaZFb
import Derived.Deep.RegionWith
namespace Go.Proofs.Ythdmcjiccbgknaa
set_option linter.unusedVariables false
set_option linter.unusedSimpArgs false
open Go.RowKit

def crashN (s : Dk) (kp : List Pc) (k : Nat) : Dk := { s with dur := (List.range 8).map (fun f => if f < k then bs (fileL (s.d f).data.toList kp f) else s.d f), pend := kp.filter fun p => decide (k ≤ p.f) }
theorem map_d (s : Dk) (h : s.dur.length = 8) : (List.range 8).map (fun f => s.d f) = s.dur := by
  apply List.ext_getElem
  · simp [h]
  · intro i h1 h2
    simp [Dk.d, List.getD_eq_getElem?_getD, h2]
theorem crashN_zero (s : Dk) (h : s.dur.length = 8) (kp : List Pc) : crashN s kp 0 = { s with pend := kp } := by
  unfold crashN
  congr 1
  · rw [← map_d s h]; simp
  · rw [List.filter_eq_self]; intro p _; simp
theorem crashN_d (s : Dk) (kp : List Pc) (k f : Nat) (hf : f < 8) : (crashN s kp k).d f = if f < k then bs (fileL (s.d f).data.toList kp f) else s.d f := by
  have e : (crashN s kp k).d f = ((List.range 8).map fun f => if f < k then bs (fileL (s.d f).data.toList kp f) else s.d f).getD f (bs []) := rfl
  rw [e, List.getD_eq_getElem?_getD, List.getElem?_map, List.getElem?_range hf]
  rfl
theorem crashN_bytes (s : Dk) (kp : List Pc) (k : Nat) (hk : k < 8) : (crashN s kp k).bytes k = bs (fileL (s.d k).data.toList kp k) := by
  unfold Dk.bytes
  rw [crashN_d s kp k k hk, if_neg (Nat.lt_irrefl _)]
  show bs (fileL _ (kp.filter _) k) = _
  rw [fileL_filter _ _ _ _ (fun p _ hp => by simp [hp])]
theorem crashN_step (s : Dk) (kp : List Pc) (k : Nat) (hk : k < 8) : (crashN s kp k).settle k (bs (fileL (s.d k).data.toList kp k)) = crashN s kp (k + 1) := by
  unfold Dk.settle crashN
  simp only [Dk.mk.injEq, and_true, true_and, List.filter_filter]
  constructor
  · apply List.ext_getElem
    · simp
    · intro i h1 h2
      rw [List.getElem_set]
      simp only [List.getElem_map, List.getElem_range]
      by_cases e : k = i
      · subst e
        rw [if_pos rfl, if_pos (by omega)]
      · rw [if_neg e]
        by_cases e2 : i < k
        · rw [if_pos e2, if_pos (by omega)]
        · rw [if_neg e2, if_neg (by omega)]
  · congr 1
    funext p
    rw [Bool.eq_iff_iff]
    simp only [Bool.and_eq_true, Bool.not_eq_true', decide_eq_true_iff, decide_eq_false_iff_not]
    omega
theorem crash_eq (s : Dk) (keep : List Int) (hd : s.down = false) (h : s.ok) : (({ crashN s (kept keep s.pend) 8 with down := true } : Dk).arm 0 []) = s.crash keep := by
  unfold Dk.crash
  rw [hd, if_neg (by simp)]
  unfold Dk.arm crashN
  simp only [Dk.mk.injEq, and_true, true_and]
  refine ⟨?_, ?_, rfl⟩
  · apply List.map_congr_left
    intro f hf
    rw [if_pos (by simpa using hf)]
  · rw [List.filter_eq_nil_iff]
    intro p hp
    obtain ⟨q, hq, h1, _⟩ := keptN_mem keep s.pend _ (Nat.le_refl _) p hp
    have := (h.ps q hq).1
    simp; omega
theorem kept_ok (s : Dk) (h : s.ok) (keep : List Int) (k : Nat) (hk : k ≤ s.pend.length) : (∀ p ∈ keptN keep s.pend k, p.f < 8 ∧ p.a + p.t.size ≤ 16777216 ∧ 0 < p.t.size ∧ p.t.size ≤ 32) ∧ (keptN keep s.pend k).length ≤ 1000000 := by
  refine ⟨fun p hp => ?_, ?_⟩
  · obtain ⟨q, hq, h1, h2, h3, h4⟩ := keptN_mem keep s.pend k hk p hp
    have := h.ps q hq
    omega
  · have := keptN_length keep s.pend k
    have := h.pn
    omega
theorem keptN_snoc (keep : List Int) (l : List Pc) (k xf xa : Nat) (xt : ByteArray) (h : gp l k = ⟨xf, xa, xt⟩) : keptN keep l (k + 1) = keptN keep l k ++ if surv ⟨xf, xa, xt⟩ k keep = 0 then [] else [⟨xf, xa, xt.extract 0 (surv ⟨xf, xa, xt⟩ k keep)⟩] := by
  rw [keptN, h]; rfl
end Go.Proofs.Ythdmcjiccbgknaa

namespace Go.Proofs.Ythdmcjiccbgknaa
set_option linter.unusedVariables false
set_option linter.unusedSimpArgs false
open Go.RowKit

def KepRel (keep : List Int) (l : List Pc) (w : World) (v i : Value) (wl : World) : Prop := ∃ k : Nat, i = .int .i64 k ∧ k ≤ l.length ∧ wl.ownsRow w.heap.size 83 3 v (keptN keep l k).length (pc (keptN keep l k)) ∧ Below w.heap.size w wl
def CrRel (B : Nat → Prop) (w : World) (db : Nat) (s : Dk) (kp : List Pc) (i : Value) (wl : World) : Prop := ∃ k : Nat, i = .int .i64 k ∧ k ≤ 8 ∧ Op B w wl db (crashN s kp k)
theorem ownp_of {w : World} {base : Nat} {v : Value} {l : List Pc} (h : w.ownsRow base 83 3 v l.length (pc l)) : OwnP w v l := by
  refine ⟨h.1, ?_⟩
  rcases h.2 with h | ⟨g, cap, cur, hv, _, r⟩
  · exact .inl h
  · exact .inr ⟨g, cap, cur, hv, Nat.zero_le _, r⟩

theorem ob_none (v : Value) : v.ownBlock = none ∨ v.ownBlock ≠ none := by cases v.ownBlock <;> simp

set_option maxRecDepth 100000 in
set_option maxHeartbeats 8000000 in
theorem crashP {B : Nat → Prop} {w : World} {db : Nat} {s : Dk} (h : DiskAt B w db s) (kv : Value) (keep : List Int) (hk : IRow w w.heap.size kv keep) (hkl : keep.length ≤ maxLen) :
    Calls Try.prog 18 #[.pointer (some ⟨db, 0, none⟩), kv] w fun e w' => e = .returned (.tuple #[]) ∧ Op B w w' db (s.crash keep) := by
  obtain ⟨c9, -, -, -, -⟩ := h.cells
  rcases hd : s.down
  · rw [hd] at c9
    have HDN := Lib.hid hd
    have hok := h.ok
    have HOK := Lib.hid h.ok
    have HH := Lib.hid h
    obtain ⟨h0, v, u, d, hv, hu⟩ := h
    have c8 := d.c_tail.1
    obtain ⟨A, cap, rfl, -, -, -, hA⟩ := d.own.cells
    have HD := Lib.hid d
    have hpn := hok.pn
    have HV := Lib.hid hv
    have HU := Lib.hid hu
    obtain ⟨l, hl⟩ : ∃ l, s.pend = l := ⟨_, rfl⟩
    rw [hl] at c8 hA hpn
    have HL := Lib.hid hl
    have HPS : Hid (∀ p ∈ l, p.f < 8 ∧ p.a + p.t.size ≤ 16777216 ∧ 0 < p.t.size ∧ p.t.size ≤ 32) := by rw [← hl]; exact Lib.hid hok.ps
    have HK : Hid (∀ w', Below w.heap.size w w' → IRow w' w'.heap.size kv keep) := Lib.hid fun w' hb => hk.keep hb
    clear hd d hv hu hl hok hk
    go_enter Try.func18, Try.ntmps18
    go_wp2_with fail
    go_loopw [4, 5, 6, 17] (fun v _ _ i wl => KepRel keep l w v i wl) (fun _ _ _ i _ => l.length - (intOf i).toNat)
    case atStart => exact ⟨0, rfl, by omega, World.ownsRow_nil _ _ _ _, Below.refl _ _⟩
    case round =>
      obtain ⟨k, rfl, hkl2, hown, hB⟩ := hrel
      have HOWN := Lib.hid hown
      by_cases hlt : k < l.length
      · obtain ⟨b, rfl, hb, hc⟩ := hA (by omega)
        have c1 := (hB.cell (p := ⟨b, k * 3, none⟩) hb).trans (hc k hlt).1
        have c2 := (hB.cell (p := ⟨b, k * 3 + 1, none⟩) hb).trans (hc k hlt).2.1
        have c3 := (hB.cell (p := ⟨b, k * 3 + 2, none⟩) hb).trans (hc k hlt).2.2
        have hmem : gp l k ∈ l := by rw [gp_get l k hlt]; exact List.getElem_mem hlt
        have HP := HPS.out (gp l k) hmem
        obtain ⟨xf, hxf⟩ : ∃ n, (gp l k).f = n := ⟨_, rfl⟩
        obtain ⟨xa, hxa⟩ : ∃ n, (gp l k).a = n := ⟨_, rfl⟩
        obtain ⟨xt, hxt⟩ : ∃ n, (gp l k).t = n := ⟨_, rfl⟩
        have hx : gp l k = ⟨xf, xa, xt⟩ := by rw [← hxf, ← hxa, ← hxt]
        rw [hxf] at c1
        rw [hxa] at c2
        rw [hxt] at c3 HP
        have p4 := HP.2.2.2
        have HKN := Lib.hid (keptN_snoc keep l k xf xa xt hx)
        have hb0 := below_new wr (.cells #[.int .i64 xf, .int .i64 xa, .string xt] 83)
        have HBZ := Lib.hid (Blk.new wr 83 #[.int .i64 xf, .int .i64 xa, .string xt])
        have hb1 := chainB hB hb0
        have hws := hB.size
        have HSV : Hid (∀ w', Below (wr.alloc (.cells #[.int .i64 xf, .int .i64 xa, .string xt] 83)).heap.size (wr.alloc (.cells #[.int .i64 xf, .int .i64 xa, .string xt] 83)) w' → Calls Try.prog 59 #[pv ⟨xf, xa, xt⟩, .int .i64 k, kv] w' fun e w2 => e = .returned (.int .i64 (surv ⟨xf, xa, xt⟩ k keep)) ∧ Below w'.heap.size w' w2) := Lib.hid fun w' hw => survivesP ⟨xf, xa, xt⟩ k kv keep w' (HK.out w' (chainB hb1 hw)) hkl (by omega) p4
        unfold pv at HSV
        obtain ⟨n, hn⟩ : ∃ n, surv ⟨xf, xa, xt⟩ k keep = n := ⟨_, rfl⟩
        have hnl : n ≤ xt.size := by rw [← hn]; exact surv_le _ _ _
        rw [hn] at HSV HKN
        have HB1 := Lib.hid hb1
        have q1 : (k : Int) < l.length := by omega
        clear hA hc hxf hxa hxt hx HP hB hmem hb0 hb1 hn hown
        go_wp2_with fail
        have x2 : (wr.alloc (.cells #[.int .i64 xf, .int .i64 xa, .string xt] 83)).cell? ⟨wr.heap.size, 2, none⟩ = some (.string xt) := HBZ.out.cell 2
        have q5 : (0 : Int) ≤ (n : Int) := by omega
        have q6 : (n : Int) ≤ (xt.size : Int) := by omega
        have q7 : ((n : Int)).toNat = n := by omega
        go_region_with (go_at_call 59; refine (HSV.out _ (Below.refl _ _).drew).mono ?_; rintro e wa ⟨rfl, ba⟩; have y2 : wa.cell? ⟨wr.heap.size, 2, none⟩ = some (.string xt) := keep_below (below_drew ba) x2; have z2 : wa.frozen? ⟨wr.heap.size, 2, none⟩ = false := PRow.free (c := []) (rest := [.int .i64 xf, .int .i64 xa, .string xt]) (HBZ.out.below (below_drew ba) HBZ.out.lt) 2)
        all_goals
          obtain ⟨W2, hW2⟩ : ∃ W2, wa.setCell ⟨wr.heap.size, 2, none⟩ (.string (xt.extract 0 n)) = W2 := ⟨_, rfl⟩
          rw [hW2]
          have ba0 := below_drew ba
          have hbz2 : Blk W2 wr.heap.size 83 #[.int .i64 xf, .int .i64 xa, .string (xt.extract 0 n)] := by
            rw [← hW2]
            exact blk_set (HBZ.out.below ba0 HBZ.out.lt) (i := 2) (.string (xt.extract 0 n))
          have hbw : Below wr.heap.size wr W2 := by
            rw [← hW2]
            exact ((below_new wr _).trans (ba0.mono (by simp))).setCell (Nat.le_refl _) _
          have hown2 := HOWN.out.kept (grown_below hbw none) (ob_none _)
          have hB2 : Below w.heap.size w W2 := by
            rw [← hW2]
            exact (chainB HB1.out ba0).setCell (show w.heap.size ≤ wr.heap.size from hws) _
          have HQ : Hid ((xt.extract 0 n).size = n) := by show _ = _; simp; omega
          generalize xt.extract 0 n = q at *
          have y0 := hbz2.cell 0
          have y1 := hbz2.cell 1
          have y3 := hbz2.cell 2
          have HOWN2 := Lib.hid hown2
          have HB2 := Lib.hid hB2
          clear ba ba0 hbz2 hbw hown2 hB2 hW2 x2 y2 z2
          by_cases hn0 : n = 0
          · have hq0 : q = bs [] := by
              have := HQ.out
              rw [← bs_data q]
              congr 1
              exact List.eq_nil_of_length_eq_zero (by rw [dl_len]; omega)
            have e1 : q.toList = [] := by rw [hq0, Lib.toList_data]; rfl
            rw [hn0, if_pos rfl, List.append_nil] at HKN
            have HF : Hid (W2.ownsRow w.heap.size 83 3 u4 (keptN keep l (k + 1)).length (pc (keptN keep l (k + 1)))) := by rw [HKN.out]; exact HOWN2.out
            clear hq0 hn0
            go_wp2_with fail
            go_roundw
            case rel => exact ⟨k + 1, by go_num, by omega, HF.out, HB2.out⟩
            case measure => simp [intOf]; omega
          · have e1 : ¬ q.toList = [] := fun e => hn0 (by rw [← HQ.out, ← dl_len, ← Lib.toList_data, e]; rfl)
            have e2 : q.toList.isEmpty = false := by
              cases h : q.toList with
              | nil => exact absurd h e1
              | cons a b => rfl
            have e3 : (!q.toList.isEmpty) = true := by rw [e2]; rfl
            rw [if_neg hn0] at HKN
            obtain ⟨i0, hi, hz0, hz1, hz2⟩ := info_parts infoP
            have hkn := keptN_length keep l k
            go_wp2_with (at_builtin; refine wpList_append_own _ rfl _ _ 66 rfl w.heap.size 83 i0 (.agg #[.int .i64 0, .int .i64 0, .string (bs [])]) 3 32 Try.underlying66 hi hz0 hz1 hz2 rfl (by decide) _ _ _ rfl (HOWN2.out.alloc _) ⟨W2.heap.size, 0, none⟩ 1 1 [.int .i64 xf, .int .i64 xa, .string q] rfl rfl ?c1 ?c2 ?c3 ?c4 ?c5 ?_)
            case c1 =>
              intro j x hx
              rw [Addr.add_lit, Nat.zero_add, (Blk.new W2 83 #[.int .i64 xf, .int .i64 xa, .string q]).cell]
              simpa using hx
            case c2 => exact pc_one [⟨xf, xa, q⟩]
            case c3 => unfold maxLen; omega
            case c4 => omega
            case c5 => have := HB2.out.size; simp; omega
            intro v' w1 h1 h2 _
            have HF : Hid (w1.ownsRow w.heap.size 83 3 v' (keptN keep l (k + 1)).length (pc (keptN keep l (k + 1)))) := by
              rw [HKN.out, pc_append, List.length_append]; exact h1
            have HB3 : Hid (Below w.heap.size w w1) := Lib.hid (HB2.out.trans (((below_new W2 _).mono HB2.out.size).trans ((Below.refl w.heap.size _).grown h2 (by have := HB2.out.size; simp; omega) (fun k hk => (HOWN2.out.lt k hk).1))))
            clear h1 h2
            go_wp2_with fail
            go_roundw
            case rel => exact ⟨k + 1, by go_num, by omega, HF.out, HB3.out⟩
            case measure => simp [intOf]; omega
      · obtain rfl : k = l.length := by omega
        have c8' := keep_below hB c8
        have f8 := (HD.out.heap hB.size (fun k hk _ => hB.block k hk)).free 8
        obtain ⟨hka, hkb⟩ := kept_ok s HOK.out keep l.length (by rw [HL.out]; exact Nat.le_refl _)
        rw [HL.out] at hka hkb
        have hrp := HD.out.repend h0 HV.out HU.out (grown_below hB _) (ownp_of hown) (fun k hk => .inr (hown.lt k hk).1) ⟨HOK.out.dl, HOK.out.ds, hka, hkb, HOK.out.kn, HOK.out.lo, HOK.out.ca⟩
        rw [← crashN_zero s HOK.out.dl] at hrp
        obtain ⟨A4, cap4, rfl, -⟩ := (ownp_of hown).cells
        have HRP := Lib.hid hrp
        have HKP : Hid (keptN keep l l.length = kept keep s.pend) := by rw [HL.out]; exact Lib.hid rfl
        obtain ⟨kp, hkp⟩ : ∃ kp, keptN keep l l.length = kp := ⟨_, rfl⟩
        rw [hkp] at HRP HKP ⊢
        clear hown hB hka hkb hrp hkp HOWN hA hlt
        go_wp2_with fail
        go_loopw [7, 42] (fun _ i wl => CrRel B w db s kp i wl) (fun _ i _ => 8 - (intOf i).toNat)
        case atStart => exact ⟨0, rfl, by omega, HRP.out⟩
        case round =>
          obtain ⟨k, rfl, hk8, hop⟩ := hrel
          by_cases hlt : k < 8
          · have HO := Lib.hid hop
            have HBY := Lib.hid (bytesP hop.at_ k hlt)
            rw [show BytPost _ (crashN s kp k) k = _ from rfl] at HBY
            have q1 : (k : Int) < 8 := by omega
            clear hop
            go_wp2_with fail
            refine HBY.out.mono ?_; rintro e w5 ⟨rfl, hb5⟩
            have hop5 := HO.out.below hb5
            have HSE := Lib.hid (settleP hop5.at_ k hlt _ (hop5.at_.ok.bytes_le k))
            have HO5 := Lib.hid hop5
            rw [crashN_bytes s kp k hlt, crashN_step s kp k hlt] at HSE
            rw [crashN_bytes s kp k hlt]
            clear hop5 hb5
            go_wp2_with fail
            refine HSE.out.mono ?_; rintro e w6 ⟨rfl, hop6⟩
            have HO6 := Lib.hid (HO5.out.trans hop6)
            clear hop6
            go_wp2_with fail
            go_roundw
            case rel => exact ⟨k + 1, by go_num, by omega, HO6.out⟩
            case measure => simp [intOf]; omega
          · obtain rfl : k = 8 := by omega
            have c9' := hop.at_.cells.1
            have f9 := hop.at_.cells.2.2.2.2 9
            have hop2 := hop.trans (hop.at_.set_down true)
            obtain ⟨W9, hW9⟩ : ∃ W9, wr.setCell ⟨db, 9, none⟩ (.bool true) = W9 := ⟨_, rfl⟩
            rw [hW9] at hop2
            have HAR := Lib.hid (armP hop2.at_ 0 (by omega) (.slice none 0 0) [] (irow_nil _ _) (by simp))
            have HO2 := Lib.hid hop2
            have HCE := Lib.hid (crash_eq s keep HDN.out HOK.out)
            rw [← HKP.out] at HCE
            rw [HCE.out] at HAR
            clear hop hop2
            go_wp2_with fail
            refine HAR.out.mono ?_; rintro e w7 ⟨rfl, hop7⟩
            have HF := Lib.hid (HO2.out.trans hop7)
            clear hop7
            go_wp2_with fail
            go_end0
            exact ⟨rfl, HF.out⟩
  · rw [hd] at c9
    have HR : Hid (Op B w w db (s.crash keep)) := by
      unfold Dk.crash
      rw [if_pos hd]
      exact Op.refl h
    clear hd h hk
    go_enter Try.func18, Try.ntmps18
    go_wp2_with fail
    refine bodyPost_ret (results_none rfl _ _ _) rfl ?_
    exact ⟨rfl, HR.out⟩
end Go.Proofs.Ythdmcjiccbgknaa

namespace Go.Proofs.Ythdmcjiccbgknaa
set_option linter.unusedVariables false
set_option linter.unusedSimpArgs false
open Go.RowKit

theorem irow_new1 (w : World) (x : Int) : IRow (w.alloc (.cells #[.int .i64 x] 3)) (w.alloc (.cells #[.int .i64 x] 3)).heap.size (.slice (some ⟨w.heap.size, 0, none⟩) 1 1) [x] := by
  refine ⟨_, 1, rfl, by simp, by decide, (fun e => by cases e), fun _ => ⟨w.heap.size, 0, rfl, by simp, fun i hi => ?_⟩⟩
  simp at hi; subst hi
  exact (Blk.new w 3 #[.int .i64 x]).cell 0
theorem irow_new2 (w : World) (x y : Int) : IRow (w.alloc (.cells #[.int .i64 x, .int .i64 y] 3)) (w.alloc (.cells #[.int .i64 x, .int .i64 y] 3)).heap.size (.slice (some ⟨w.heap.size, 0, none⟩) 2 2) [x, y] := by
  refine ⟨_, 2, rfl, by simp, by decide, (fun e => by cases e), fun _ => ⟨w.heap.size, 0, rfl, by simp, fun i hi => ?_⟩⟩
  have hi2 : i = 0 ∨ i = 1 := by simp at hi; omega
  rcases hi2 with rfl | rfl
  · exact (Blk.new w 3 #[.int .i64 x, .int .i64 y]).cell 0
  · exact (Blk.new w 3 #[.int .i64 x, .int .i64 y]).cell 1

set_option maxRecDepth 100000 in
set_option maxHeartbeats 2000000 in
theorem enterP {B : Nat → Prop} {w : World} {db : Nat} {s : Dk} (h : DiskAt B w db s) (fv : Value) (fs : List Int) (hr : IRow w w.heap.size fv fs) (hB : ∀ k, fv.ownBlock = some k → ¬ B k) (hl : fs.length ≤ 1000) :
    Calls Try.prog 81 #[.pointer (some ⟨db, 0, none⟩), fv] w fun e w' => e = .returned (.int .i64 (s.enter.chkL fs)) ∧ Op B w w' db s.enter := by
  have HC := Lib.hid (countP h)
  have HFV : Hid (∀ w', Fr B w w' → IRow w' w'.heap.size fv fs) := Lib.hid fun w' hf => hr.heap hf.size fun k hk hkl => hf.block k hkl (hB k hk)
  have HE : Hid (s.enter = if s.due = true then s.tick.crash s.keep else s.tick) := rfl
  have HKP : Hid (s.tick.keep = s.keep) := by show _ = _; unfold Dk.tick; split <;> rfl
  have HKN := Lib.hid h.ok.kn
  clear hr hB h
  rcases hd : s.due
  · rw [hd] at HC
    have HE2 : Hid (s.enter = s.tick) := by show _ = _; rw [HE.out, hd, if_neg (by simp)]
    rw [HE2.out]
    clear hd HE HE2
    go_enter Try.func81, Try.ntmps81
    go_wp2_with fail
    refine HC.out.mono ?_; rintro e w1 ⟨rfl, ho⟩
    have HK := Lib.hid (checkP ho.at_ fv fs (HFV.out _ ho.fr) hl)
    have HO := Lib.hid ho
    clear ho
    go_wp2_with fail
    refine HK.out.mono ?_; rintro e w2 ⟨rfl, rfl⟩
    go_wp2_with fail
    go_ret
    exact ⟨rfl, HO.out⟩
  · rw [hd] at HC
    have HE2 : Hid (s.enter = s.tick.crash s.keep) := by show _ = _; rw [HE.out, hd, if_pos rfl]
    rw [HE2.out]
    clear hd HE HE2
    go_enter Try.func81, Try.ntmps81
    go_wp2_with fail
    refine HC.out.mono ?_; rintro e w1 ⟨rfl, ho⟩
    obtain ⟨h0, v, u, d, _, _⟩ := ho.at_
    have c12 := d.c_tail.2.2.2.2
    have hkr := d.kp
    rw [HKP.out] at hkr
    have HCR := Lib.hid (crashP ho.at_ u s.keep hkr (Nat.le_trans HKN.out (by decide)))
    have HO := Lib.hid ho
    clear ho d hkr
    go_wp2_with fail
    refine HCR.out.mono ?_; rintro e w2 ⟨rfl, ho2⟩
    have ho3 := HO.out.trans ho2
    have HK := Lib.hid (checkP ho3.at_ fv fs (HFV.out _ ho3.fr) hl)
    have HO3 := Lib.hid ho3
    clear ho2 ho3 HCR HO
    go_wp2_with fail
    refine HK.out.mono ?_; rintro e w4 ⟨rfl, rfl⟩
    go_wp2_with fail
    go_ret
    exact ⟨rfl, HO3.out⟩

theorem chk_cases (s : Dk) (f : Int) : (s.chk f = 10) ∨ (s.chk f = 1) ∨ (s.chk f = 0 ∧ s.down = false ∧ 0 ≤ f ∧ f < 8) := by
  unfold Dk.chk
  cases hd : s.down
  · cases hf : isF f
    · simp
    · have : 0 ≤ f ∧ f < 8 := by simpa [isF] using hf
      simp [this]
  · simp
/-- A disk, and nothing but its own blocks. -/
theorem DiskAt.tight {B : Nat → Prop} {w : World} {db : Nat} {s : Dk} (h : DiskAt B w db s) : DiskAt (fun k => B k ∧ k < w.heap.size) w db s := h.mono fun k hk hb => ⟨hb, hk⟩
theorem Op.loose {B : Nat → Prop} {w w' : World} {db n : Nat} {s : Dk} (h : Op (fun k => B k ∧ k < n) w w' db s) : Op B w w' db s := h.mono fun k _ h => h.1

set_option maxRecDepth 100000 in
set_option maxHeartbeats 2000000 in
theorem readP {B : Nat → Prop} {w : World} {db : Nat} {s : Dk} (h : DiskAt B w db s) (f : Int) :
    Calls Try.prog 27 #[.pointer (some ⟨db, 0, none⟩), .int .i64 f] w fun e w' => e = .returned (.tuple #[.string (s.read f).1, .int .i64 (s.read f).2]) ∧ Below w.heap.size w w' := by
  have hb0 := below_new w (.cells #[.int .i64 f] 3)
  have HK := Lib.hid (checkP (h.below hb0) (.slice (some ⟨w.heap.size, 0, none⟩) 1 1) [f] (irow_new1 w f) (by simp))
  rw [chk_one] at HK
  have HR : Hid (s.read f = if s.chk f ≠ 0 then (bs [], s.chk f) else (s.bytes f.toNat, 0)) := rfl
  have HB0 := Lib.hid hb0
  generalize s.read f = R at *
  have hcs := chk_cases s f
  rcases hcs with hc | hc | ⟨hc, hdn, hf0, hf8⟩
  · rw [hc] at HK HR
    clear hc h hb0
    go_enter Try.func27, Try.ntmps27
    go_wp2_with fail
    refine HK.out.mono ?_; rintro e w1 ⟨rfl, rfl⟩
    go_wp2_with fail
    go_ret2
    exact ⟨by rw [HR.out]; rfl, HB0.out⟩
  · rw [hc] at HK HR
    clear hc h hb0
    go_enter Try.func27, Try.ntmps27
    go_wp2_with fail
    refine HK.out.mono ?_; rintro e w1 ⟨rfl, rfl⟩
    go_wp2_with fail
    go_ret2
    exact ⟨by rw [HR.out]; rfl, HB0.out⟩
  · rw [hc] at HK HR
    obtain ⟨F, rfl⟩ : ∃ F : Nat, f = F := ⟨f.toNat, by omega⟩
    have HBY := Lib.hid (bytesP (h.below hb0) F (by omega))
    clear hc h hb0
    go_enter Try.func27, Try.ntmps27
    go_wp2_with fail
    refine HK.out.mono ?_; rintro e w1 ⟨rfl, rfl⟩
    go_wp2_with fail
    refine HBY.out.mono ?_; rintro e w1 ⟨rfl, hb⟩
    go_wp2_with fail
    go_ret2
    exact ⟨by rw [HR.out]; rfl, chainB HB0.out hb⟩

set_option maxRecDepth 100000 in
set_option maxHeartbeats 2000000 in
theorem flushP {B : Nat → Prop} {w : World} {db : Nat} {s : Dk} (h : DiskAt B w db s) (f : Int) :
    Calls Try.prog 52 #[.pointer (some ⟨db, 0, none⟩), .int .i64 f] w fun e w' => e = .returned (.int .i64 (s.flush f).1) ∧ Op B w w' db (s.flush f).2 := by
  have hb0 := below_new w (.cells #[.int .i64 f] 3)
  have HE := Lib.hid (enterP (h.tight.below hb0) (.slice (some ⟨w.heap.size, 0, none⟩) 1 1) [f] (irow_new1 w f) (fun k hk => by simp [Value.ownBlock] at hk; omega) (by simp))
  rw [chk_one] at HE
  have HB0 := Lib.hid hb0
  have HR : Hid (s.flush f = s.enter.flush0 f) := rfl
  generalize s.flush f = R at *
  generalize s.enter = s1 at *
  have HR2 : Hid (R = if s1.chk f ≠ 0 then (s1.chk f, s1) else if 0 < s1.lost then (12, { s1 with lost := s1.lost - 1 }) else (0, s1.settle f.toNat (s1.bytes f.toNat))) := HR.out
  have hcs := chk_cases s1 f
  clear HR h hb0
  rcases hcs with hc | hc | ⟨hc, hdn, hf0, hf8⟩
  · rw [hc] at HE HR2
    clear hc
    go_enter Try.func52, Try.ntmps52
    go_wp2_with fail
    refine HE.out.mono ?_; rintro e w1 ⟨rfl, ho⟩
    have HO := Lib.hid (Op.pre HB0.out ho).loose
    clear ho
    go_wp2_with fail
    go_ret
    exact ⟨by rw [HR2.out]; rfl, by rw [HR2.out]; exact HO.out⟩
  · rw [hc] at HE HR2
    clear hc
    go_enter Try.func52, Try.ntmps52
    go_wp2_with fail
    refine HE.out.mono ?_; rintro e w1 ⟨rfl, ho⟩
    have HO := Lib.hid (Op.pre HB0.out ho).loose
    clear ho
    go_wp2_with fail
    go_ret
    exact ⟨by rw [HR2.out]; rfl, by rw [HR2.out]; exact HO.out⟩
  · rw [hc] at HE HR2
    obtain ⟨F, rfl⟩ : ∃ F : Nat, f = F := ⟨f.toNat, by omega⟩
    have hF : F < 8 := by omega
    clear hc
    go_enter Try.func52, Try.ntmps52
    go_wp2_with fail
    refine HE.out.mono ?_; rintro e w1 ⟨rfl, ho0⟩
    have ho := (Op.pre HB0.out ho0).loose
    have c10 := ho.at_.cells.2.1
    have f10 := ho.at_.cells.2.2.2.2 10
    have hlo := ho.at_.ok.lo
    by_cases hl0 : s1.lost = 0
    · have HR3 : Hid (R = (0, s1.settle F (s1.bytes F))) := by show _ = _; rw [HR2.out, hl0]; rfl
      have HBY := Lib.hid (bytesP ho.at_ F hF)
      have HO := Lib.hid ho
      rw [hl0] at c10
      clear ho ho0 hl0 hlo HR2
      go_wp2_with fail
      refine HBY.out.mono ?_; rintro e w2 ⟨rfl, hb2⟩
      have ho2 := HO.out.below hb2
      have HS := Lib.hid (settleP ho2.at_ F hF _ (ho2.at_.ok.bytes_le F))
      have HO2 := Lib.hid ho2
      clear ho2 hb2 c10 f10 HBY
      go_wp2_with fail
      refine HS.out.mono ?_; rintro e w3 ⟨rfl, ho3⟩
      have HO3 := Lib.hid (HO2.out.trans ho3)
      clear ho3
      go_wp2_with fail
      go_ret
      exact ⟨by rw [HR3.out]; rfl, by rw [HR3.out]; exact HO3.out⟩
    · obtain ⟨m, hm⟩ : ∃ m, s1.lost = m + 1 := ⟨s1.lost - 1, by omega⟩
      have HR3 : Hid (R = (12, { s1 with lost := m })) := by show _ = _; rw [HR2.out, hm]; simp
      have hst := ho.trans (ho.at_.set_lost m (by omega))
      rw [hm] at c10 hlo
      obtain ⟨L, hL⟩ : ∃ L : Int, ((m + 1 : Nat) : Int) = L := ⟨_, rfl⟩
      have e : (m : Int) = L - 1 := by omega
      rw [hL] at c10
      rw [e] at hst
      have HST := Lib.hid hst
      have q1 : 0 < L := by omega
      have q2 : L ≤ 9223372036854775807 := by omega
      clear ho ho0 hl0 hm HR2 hst e hL hlo
      go_wp2_with fail
      go_ret
      exact ⟨by rw [HR3.out]; rfl, by rw [HR3.out]; exact HST.out⟩
end Go.Proofs.Ythdmcjiccbgknaa
