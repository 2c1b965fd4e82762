/-
  Layer 6: Crash.
-/
import Derived.Test.YtlphblnnloigiaaDc
import Derived.Deep.RegionWith
namespace Go.Proofs.Ytlphblnnloigiaa
set_option linter.unusedVariables false
set_option linter.unusedSimpArgs false
open Go.RowKit

def KepRel (keep : List Int) (l : List Pc) (w : World) (v i : Value) (wl : World) : Prop := ∃ k : Nat, i = .int .i64 k ∧ k ≤ l.length ∧ wl.ownsRow w.heap.size 54 3 v (keptN keep l k).length (pc (keptN keep l k)) ∧ Below w.heap.size w wl
def CrRel (B : Nat → Prop) (w : World) (db : Nat) (s : Dk) (kp : List Pc) (i : Value) (wl : World) : Prop := ∃ k : Nat, i = .int .i64 k ∧ k ≤ 8 ∧ Op B w wl db (crashN s kp k)
theorem ownp_of {w : World} {base : Nat} {v : Value} {l : List Pc} (h : w.ownsRow base 54 3 v l.length (pc l)) : OwnP w v l := by
  refine ⟨h.1, ?_⟩
  rcases h.2 with h | ⟨g, cap, cur, hv, _, r⟩
  · exact .inl h
  · exact .inr ⟨g, cap, cur, hv, Nat.zero_le _, r⟩

theorem ob_none (v : Value) : v.ownBlock = none ∨ v.ownBlock ≠ none := by cases v.ownBlock <;> simp

set_option maxRecDepth 100000 in
set_option maxHeartbeats 8000000 in
theorem crashP {B : Nat → Prop} {w : World} {db : Nat} {s : Dk} (h : DiskAt B w db s) (kv : Value) (keep : List Int) (hk : IRow w w.heap.size kv keep) (hkl : keep.length ≤ maxLen) :
    Calls Try.prog 14 #[.pointer (some ⟨db, 0, none⟩), kv] w fun e w' => e = .returned (.tuple #[]) ∧ Op B w w' db (s.crash keep) := by
  obtain ⟨c9, -, -, -, -⟩ := h.cells
  rcases hd : s.down
  · rw [hd] at c9
    have HDN := Lib.hid hd
    have hok := h.ok
    have HOK := Lib.hid h.ok
    have HH := Lib.hid h
    obtain ⟨h0, v, u, d, hv, hu⟩ := h
    have c8 := d.c_tail.1
    obtain ⟨A, cap, rfl, -, -, -, hA⟩ := d.own.cells
    have HD := Lib.hid d
    have hpn := hok.pn
    have HV := Lib.hid hv
    have HU := Lib.hid hu
    obtain ⟨l, hl⟩ : ∃ l, s.pend = l := ⟨_, rfl⟩
    rw [hl] at c8 hA hpn
    have HL := Lib.hid hl
    have HPS : Hid (∀ p ∈ l, p.f < 8 ∧ p.a + p.t.size ≤ 16777216 ∧ 0 < p.t.size ∧ p.t.size ≤ 32) := by rw [← hl]; exact Lib.hid hok.ps
    have HK : Hid (∀ w', Below w.heap.size w w' → IRow w' w'.heap.size kv keep) := Lib.hid fun w' hb => hk.keep hb
    clear hd d hv hu hl hok hk
    go_enter Try.func14, Try.ntmps14
    go_wp2_with fail
    go_loopw [4, 5, 6, 17] (fun v _ _ i wl => KepRel keep l w v i wl) (fun _ _ _ i _ => l.length - (intOf i).toNat)
    case atStart => exact ⟨0, rfl, by omega, World.ownsRow_nil _ _ _ _, Below.refl _ _⟩
    case round =>
      obtain ⟨k, rfl, hkl2, hown, hB⟩ := hrel
      have HOWN := Lib.hid hown
      by_cases hlt : k < l.length
      · obtain ⟨b, rfl, hb, hc⟩ := hA (by omega)
        have c1 := (hB.cell (p := ⟨b, k * 3, none⟩) hb).trans (hc k hlt).1
        have c2 := (hB.cell (p := ⟨b, k * 3 + 1, none⟩) hb).trans (hc k hlt).2.1
        have c3 := (hB.cell (p := ⟨b, k * 3 + 2, none⟩) hb).trans (hc k hlt).2.2
        have hmem : gp l k ∈ l := by rw [gp_get l k hlt]; exact List.getElem_mem hlt
        have HP := HPS.out (gp l k) hmem
        obtain ⟨xf, hxf⟩ : ∃ n, (gp l k).f = n := ⟨_, rfl⟩
        obtain ⟨xa, hxa⟩ : ∃ n, (gp l k).a = n := ⟨_, rfl⟩
        obtain ⟨xt, hxt⟩ : ∃ n, (gp l k).t = n := ⟨_, rfl⟩
        have hx : gp l k = ⟨xf, xa, xt⟩ := by rw [← hxf, ← hxa, ← hxt]
        rw [hxf] at c1
        rw [hxa] at c2
        rw [hxt] at c3 HP
        have p4 := HP.2.2.2
        have HKN := Lib.hid (keptN_snoc keep l k xf xa xt hx)
        have hb0 := below_new wr (.cells #[.int .i64 xf, .int .i64 xa, .string xt] 54)
        have HBZ := Lib.hid (Blk.new wr 54 #[.int .i64 xf, .int .i64 xa, .string xt])
        have hb1 := chainB hB hb0
        have hws := hB.size
        have HSV : Hid (∀ w', Below (wr.alloc (.cells #[.int .i64 xf, .int .i64 xa, .string xt] 54)).heap.size (wr.alloc (.cells #[.int .i64 xf, .int .i64 xa, .string xt] 54)) w' → Calls Try.prog 24 #[pv ⟨xf, xa, xt⟩, .int .i64 k, kv] w' fun e w2 => e = .returned (.int .i64 (surv ⟨xf, xa, xt⟩ k keep)) ∧ Below w'.heap.size w' w2) := Lib.hid fun w' hw => survivesP ⟨xf, xa, xt⟩ k kv keep w' (HK.out w' (chainB hb1 hw)) hkl (by omega) p4
        unfold pv at HSV
        obtain ⟨n, hn⟩ : ∃ n, surv ⟨xf, xa, xt⟩ k keep = n := ⟨_, rfl⟩
        have hnl : n ≤ xt.size := by rw [← hn]; exact surv_le _ _ _
        rw [hn] at HSV HKN
        have HB1 := Lib.hid hb1
        have q1 : (k : Int) < l.length := by omega
        clear hA hc hxf hxa hxt hx HP hB hmem hb0 hb1 hn hown
        go_wp2_with fail
        have x2 : (wr.alloc (.cells #[.int .i64 xf, .int .i64 xa, .string xt] 54)).cell? ⟨wr.heap.size, 2, none⟩ = some (.string xt) := HBZ.out.cell 2
        have q5 : (0 : Int) ≤ (n : Int) := by omega
        have q6 : (n : Int) ≤ (xt.size : Int) := by omega
        have q7 : ((n : Int)).toNat = n := by omega
        go_region_with (go_at_call 24; refine (HSV.out _ (Below.refl _ _).drew).mono ?_; rintro e wa ⟨rfl, ba⟩; have y2 : wa.cell? ⟨wr.heap.size, 2, none⟩ = some (.string xt) := keep_below (below_drew ba) x2; have z2 : wa.frozen? ⟨wr.heap.size, 2, none⟩ = false := PRow.free (c := []) (rest := [.int .i64 xf, .int .i64 xa, .string xt]) (HBZ.out.below (below_drew ba) HBZ.out.lt) 2)
        all_goals
          obtain ⟨W2, hW2⟩ : ∃ W2, wa.setCell ⟨wr.heap.size, 2, none⟩ (.string (xt.extract 0 n)) = W2 := ⟨_, rfl⟩
          rw [hW2]
          have ba0 := below_drew ba
          have hbz2 : Blk W2 wr.heap.size 54 #[.int .i64 xf, .int .i64 xa, .string (xt.extract 0 n)] := by
            rw [← hW2]
            exact blk_set (HBZ.out.below ba0 HBZ.out.lt) (i := 2) (.string (xt.extract 0 n))
          have hbw : Below wr.heap.size wr W2 := by
            rw [← hW2]
            exact ((below_new wr _).trans (ba0.mono (by simp))).setCell (Nat.le_refl _) _
          have hown2 := HOWN.out.kept (grown_below hbw none) (ob_none _)
          have hB2 : Below w.heap.size w W2 := by
            rw [← hW2]
            exact (chainB HB1.out ba0).setCell (show w.heap.size ≤ wr.heap.size from hws) _
          have HQ : Hid ((xt.extract 0 n).size = n) := by show _ = _; simp; omega
          generalize xt.extract 0 n = q at *
          have y0 := hbz2.cell 0
          have y1 := hbz2.cell 1
          have y3 := hbz2.cell 2
          have HOWN2 := Lib.hid hown2
          have HB2 := Lib.hid hB2
          clear ba ba0 hbz2 hbw hown2 hB2 hW2 x2 y2 z2
          by_cases hn0 : n = 0
          · have hq0 : q = bs [] := by
              have := HQ.out
              rw [← bs_data q]
              congr 1
              exact List.eq_nil_of_length_eq_zero (by rw [dl_len]; omega)
            have e1 : q.toList = [] := by rw [hq0, Lib.toList_data]; rfl
            rw [hn0, if_pos rfl, List.append_nil] at HKN
            have HF : Hid (W2.ownsRow w.heap.size 54 3 u4 (keptN keep l (k + 1)).length (pc (keptN keep l (k + 1)))) := by rw [HKN.out]; exact HOWN2.out
            clear hq0 hn0
            go_wp2_with fail
            go_roundw
            case rel => exact ⟨k + 1, by go_num, by omega, HF.out, HB2.out⟩
            case measure => simp [intOf]; omega
          · have e1 : ¬ q.toList = [] := fun e => hn0 (by rw [← HQ.out, ← dl_len, ← Lib.toList_data, e]; rfl)
            have e2 : q.toList.isEmpty = false := by
              cases h : q.toList with
              | nil => exact absurd h e1
              | cons a b => rfl
            have e3 : (!q.toList.isEmpty) = true := by rw [e2]; rfl
            rw [if_neg hn0] at HKN
            obtain ⟨i0, hi, hz0, hz1, hz2⟩ := info_parts infoP
            have hkn := keptN_length keep l k
            go_wp2_with (at_builtin; refine wpList_append_own _ rfl _ _ 48 rfl w.heap.size 54 i0 (.agg #[.int .i64 0, .int .i64 0, .string (bs [])]) 3 32 Try.underlying48 hi hz0 hz1 hz2 rfl (by decide) _ _ _ rfl (HOWN2.out.alloc _) ⟨W2.heap.size, 0, none⟩ 1 1 [.int .i64 xf, .int .i64 xa, .string q] rfl rfl ?c1 ?c2 ?c3 ?c4 ?c5 ?_)
            case c1 =>
              intro j x hx
              rw [Addr.add_lit, Nat.zero_add, (Blk.new W2 54 #[.int .i64 xf, .int .i64 xa, .string q]).cell]
              simpa using hx
            case c2 => exact pc_one [⟨xf, xa, q⟩]
            case c3 => unfold maxLen; omega
            case c4 => omega
            case c5 => have := HB2.out.size; simp; omega
            intro v' w1 h1 h2 _
            have HF : Hid (w1.ownsRow w.heap.size 54 3 v' (keptN keep l (k + 1)).length (pc (keptN keep l (k + 1)))) := by
              rw [HKN.out, pc_append, List.length_append]; exact h1
            have HB3 : Hid (Below w.heap.size w w1) := Lib.hid (HB2.out.trans (((below_new W2 _).mono HB2.out.size).trans ((Below.refl w.heap.size _).grown h2 (by have := HB2.out.size; simp; omega) (fun k hk => (HOWN2.out.lt k hk).1))))
            clear h1 h2
            go_wp2_with fail
            go_roundw
            case rel => exact ⟨k + 1, by go_num, by omega, HF.out, HB3.out⟩
            case measure => simp [intOf]; omega
      · obtain rfl : k = l.length := by omega
        have c8' := keep_below hB c8
        have f8 := (HD.out.heap hB.size (fun k hk _ => hB.block k hk)).free 8
        obtain ⟨hka, hkb⟩ := kept_ok s HOK.out keep l.length (by rw [HL.out]; exact Nat.le_refl _)
        rw [HL.out] at hka hkb
        have hrp := HD.out.repend h0 HV.out HU.out (grown_below hB _) (ownp_of hown) (fun k hk => .inr (hown.lt k hk).1) ⟨HOK.out.dl, HOK.out.ds, hka, hkb, HOK.out.kn, HOK.out.lo, HOK.out.ca⟩
        rw [← crashN_zero s HOK.out.dl] at hrp
        obtain ⟨A4, cap4, rfl, -⟩ := (ownp_of hown).cells
        have HRP := Lib.hid hrp
        have HKP : Hid (keptN keep l l.length = kept keep s.pend) := by rw [HL.out]; exact Lib.hid rfl
        obtain ⟨kp, hkp⟩ : ∃ kp, keptN keep l l.length = kp := ⟨_, rfl⟩
        rw [hkp] at HRP HKP ⊢
        clear hown hB hka hkb hrp hkp HOWN hA hlt
        go_wp2_with fail
        go_loopw [7, 42] (fun _ i wl => CrRel B w db s kp i wl) (fun _ i _ => 8 - (intOf i).toNat)
        case atStart => exact ⟨0, rfl, by omega, HRP.out⟩
        case round =>
          obtain ⟨k, rfl, hk8, hop⟩ := hrel
          by_cases hlt : k < 8
          · have HO := Lib.hid hop
            have HBY := Lib.hid (bytesP hop.at_ k hlt)
            rw [show BytPost _ (crashN s kp k) k = _ from rfl] at HBY
            have q1 : (k : Int) < 8 := by omega
            clear hop
            go_wp2_with fail
            refine HBY.out.mono ?_; rintro e w5 ⟨rfl, hb5⟩
            have hop5 := HO.out.below hb5
            have HSE := Lib.hid (settleP hop5.at_ k hlt _ (hop5.at_.ok.bytes_le k))
            have HO5 := Lib.hid hop5
            rw [crashN_bytes s kp k hlt, crashN_step s kp k hlt] at HSE
            rw [crashN_bytes s kp k hlt]
            clear hop5 hb5
            go_wp2_with fail
            refine HSE.out.mono ?_; rintro e w6 ⟨rfl, hop6⟩
            have HO6 := Lib.hid (HO5.out.trans hop6)
            clear hop6
            go_wp2_with fail
            go_roundw
            case rel => exact ⟨k + 1, by go_num, by omega, HO6.out⟩
            case measure => simp [intOf]; omega
          · obtain rfl : k = 8 := by omega
            have c9' := hop.at_.cells.1
            have f9 := hop.at_.cells.2.2.2.2 9
            have hop2 := hop.trans (hop.at_.set_down true)
            obtain ⟨W9, hW9⟩ : ∃ W9, wr.setCell ⟨db, 9, none⟩ (.bool true) = W9 := ⟨_, rfl⟩
            rw [hW9] at hop2
            have HAR := Lib.hid (armP hop2.at_ 0 (by omega) (.slice none 0 0) [] (irow_nil _ _) (by simp))
            have HO2 := Lib.hid hop2
            have HCE := Lib.hid (crash_eq s keep HDN.out HOK.out)
            rw [← HKP.out] at HCE
            rw [HCE.out] at HAR
            clear hop hop2
            go_wp2_with fail
            refine HAR.out.mono ?_; rintro e w7 ⟨rfl, hop7⟩
            have HF := Lib.hid (HO2.out.trans hop7)
            clear hop7
            go_wp2_with fail
            go_end0
            exact ⟨rfl, HF.out⟩
  · rw [hd] at c9
    have HR : Hid (Op B w w db (s.crash keep)) := by
      unfold Dk.crash
      rw [if_pos hd]
      exact Op.refl h
    clear hd h hk
    go_enter Try.func14, Try.ntmps14
    go_wp2_with fail
    refine bodyPost_ret (results_none rfl _ _ _) rfl ?_
    exact ⟨rfl, HR.out⟩
end Go.Proofs.Ytlphblnnloigiaa
