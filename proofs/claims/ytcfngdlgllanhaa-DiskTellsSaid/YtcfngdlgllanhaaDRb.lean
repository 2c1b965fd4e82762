/-
  The reference of layer 6: after, Crash.
-/
import Derived.Test.YtcfngdlgllanhaaDRc
namespace Go.Proofs.Ytcfngdlgllanhaa
set_option linter.unusedVariables false
set_option linter.unusedSimpArgs false
open Go.RowKit

theorem keptN_add1 (keep : List Int) (l : List Pc) (k : Nat) : keptN keep l (k + 1) = keptN keep l k ++ if surv (gp l k) k keep = 0 then [] else [cutP (gp l k) (surv (gp l k) k keep)] := rfl
theorem keptN_stop (keep : List Int) (l : List Pc) (k : Nat) (h : keep.length ≤ k) : ∀ m, keptN keep l (k + m) = keptN keep l k
  | 0 => rfl
  | m + 1 => by
    rw [show k + (m + 1) = (k + m) + 1 by omega, keptN_add1, keptN_stop keep l k h m]
    have : surv (gp l (k + m)) (k + m) keep = 0 := by
      unfold surv
      rw [List.getD_eq_getElem?_getD, List.getElem?_eq_none (by omega)]
      simp
    rw [if_pos this, List.append_nil]
/-- One step of after. -/
theorem aft_step (d : List UInt8) (keep : List Int) (l : List Pc) (k F : Nat) (hp : 0 < (gp l k).t.size) : fileL d (keptN keep l (k + 1)) F =
    if (gp l k).f = F then (if keep.getD k 0 = 1 then pput (fileL d (keptN keep l k) F) (gp l k).a (gp l k).t.data.toList else if keep.getD k 0 = 2 then pput (fileL d (keptN keep l k) F) (gp l k).a ((gp l k).t.extract 0 (min 16 (gp l k).t.size)).data.toList else fileL d (keptN keep l k) F) else fileL d (keptN keep l k) F := by
  rw [keptN_add1, fileL_append]
  have hs : surv (gp l k) k keep = if keep.getD k 0 = 1 then (gp l k).t.size else if keep.getD k 0 = 2 then min 16 (gp l k).t.size else 0 := rfl
  by_cases h1 : keep.getD k 0 = 1
  · rw [if_pos h1] at hs ⊢
    rw [hs, if_neg (by omega), fileL_one]
    have e : (cutP (gp l k) (gp l k).t.size).l = (gp l k).t.data.toList := by
      show ((gp l k).t.extract 0 (gp l k).t.size).data.toList = _
      rw [ByteArray.extract_zero_size]
    rw [e]; rfl
  · rw [if_neg h1] at hs ⊢
    by_cases h2 : keep.getD k 0 = 2
    · rw [if_pos h2] at hs ⊢
      rw [hs, if_neg (by omega), fileL_one]; rfl
    · rw [if_neg h2] at hs ⊢
      rw [hs, if_pos rfl, fileL_nil]; simp
def AfR (l : List Pc) (d : ByteArray) (keep : List Int) (F : Nat) (w : World) (x i : Value) (wl : World) : Prop := ∃ k : Nat, i = .int .i64 k ∧ k ≤ l.length ∧ k ≤ keep.length ∧ x = .string (bs (fileL d.data.toList (keptN keep l k) F)) ∧ Below w.heap.size w wl
set_option maxRecDepth 100000 in
set_option maxHeartbeats 4000000 in
theorem afterR {B : Nat → Prop} {w : World} {db : Nat} {s : Dk} (h : RefAt B w db s) (F : Nat) (hF : F < 8) (u : Value) (keep : List Int) (hr : IRow w w.heap.size u keep) :
    Calls Try.prog 57 #[.pointer (some ⟨db, 0, none⟩), .int .i64 F, u] w (RRdPost (bs (fileL (s.d F).data.toList (kept keep s.pend) F)) w) := by
  obtain ⟨lv, qv, kv, h, _⟩ := h
  have hok := h.ok
  obtain ⟨c0, c1, _⟩ := h.cells
  obtain ⟨g, cap, rfl, hg, hgc⟩ := h.last
  have cf := (hgc F hF).1
  obtain ⟨A, qcap, rfl, _, _, hA⟩ := own_pcs h.q
  have hdb := h.bx.lt
  have hps := hok.ps
  have hpn := hok.pn
  have hdl := hok.d_le F
  obtain ⟨uA, ucap, rfl, huc, hum, _, hu⟩ := hr
  obtain ⟨r, hr⟩ : ∃ r, bs (fileL (s.d F).data.toList (kept keep s.pend) F) = r := ⟨_, rfl⟩
  have HR := Lib.hid hr
  rw [hr]
  obtain ⟨l, hl⟩ : ∃ l, s.pend = l := ⟨_, rfl⟩
  obtain ⟨d, hd⟩ : ∃ d, s.d F = d := ⟨_, rfl⟩
  rw [hl] at HR hA hps hpn c1
  rw [hd] at HR cf hdl
  have HPS := Lib.hid hps
  have HC1 : Hid (∀ wl, Below w.heap.size w wl → wl.cell? ⟨db, 1, none⟩ = some (.slice A l.length qcap)) := Lib.hid (fun wl hb => (hb.cell (p := ⟨db, 1, none⟩) hdb).trans c1)
  have HD0 : Hid (bs (fileL d.data.toList (keptN keep l 0) F) = d) := Lib.hid (by rw [keptN, fileL_nil, bs_data])
  have HLE : Hid (∀ k, k ≤ l.length → (fileL d.data.toList (keptN keep l k) F).length ≤ 16777216) := Lib.hid (fun k hk => fileL_le _ _ _ _ (by rw [dl_len]; exact hdl) (fun p hp => by
    obtain ⟨q, hq, _, h2, _, h4⟩ := keptN_mem keep l k hk p hp
    have := hps q hq
    omega))
  have q0 : (0 : Int) ≤ (F : Int) := by omega
  have q8 : (F : Int) < 8 := by omega
  have q9 : ((F : Int)).toNat = F := by omega
  clear h hok hgc hps hr hl hd c1 hg
  go_enter Try.func57, Try.ntmps57
  go_wp2_with fail
  clear c0 cf
  go_loopw [7, 8] (fun x i wl => AfR l d keep F w x i wl) (fun _ i _ => l.length - (intOf i).toNat)
  case atStart => exact ⟨0, rfl, by omega, by omega, by rw [HD0.out], Below.refl _ _⟩
  case round =>
    clear HD0
    obtain ⟨k, rfl, hk, hkk, rfl, hB⟩ := hrel
    have c1 := HC1.out wr hB
    have hstz := HLE.out k hk
    obtain ⟨st, hst⟩ : ∃ st, bs (fileL d.data.toList (keptN keep l k) F) = st := ⟨_, rfl⟩
    have HST := Lib.hid hst
    rw [hst]
    have hsz : st.size ≤ 16777216 := by rw [← hst, bs_size]; exact hstz
    clear hst hstz
    by_cases hlt : k < l.length
    · have q1 : (k : Int) < l.length := by omega
      have d1 : decide ((k : Int) < (l.length : Int)) = true := decide_eq_true q1
      by_cases hlk : k < keep.length
      · have q2 : (k : Int) < keep.length := by omega
        have d2 : decide ((k : Int) < (keep.length : Int)) = true := decide_eq_true q2
        obtain ⟨b, rfl, hb, hc⟩ := hA (by omega)
        obtain ⟨kb, koff, rfl, hkb, hkc⟩ := hu (by omega)
        have c2 := (hB.cell (p := ⟨b, k * 3, none⟩) hb).trans (hc k hlt).1
        have c3 := (hB.cell (p := ⟨b, k * 3 + 1, none⟩) hb).trans (hc k hlt).2.1
        have c4 := (hB.cell (p := ⟨b, k * 3 + 2, none⟩) hb).trans (hc k hlt).2.2
        have c5 := hkc k hlk
        have HP := HPS.out (gp l k) (by rw [gp_get l k hlt]; exact List.getElem_mem hlt)
        have HSN := Lib.hid (aft_step d.data.toList keep l k F HP.2.2.1)
        have hgd : keep.getD k 0 = keep[k] := by rw [List.getD_eq_getElem?_getD, List.getElem?_eq_getElem hlk]; rfl
        rw [hgd] at HSN
        obtain ⟨z, hz⟩ : ∃ z, keep[k] = z := ⟨_, rfl⟩
        rw [hz] at c5 HSN
        obtain ⟨xf, hxf⟩ : ∃ n, (gp l k).f = n := ⟨_, rfl⟩
        obtain ⟨xa, hxa⟩ : ∃ n, (gp l k).a = n := ⟨_, rfl⟩
        obtain ⟨xt, hxt⟩ : ∃ n, (gp l k).t = n := ⟨_, rfl⟩
        rw [hxf] at c2 HSN
        rw [hxa] at c3 HSN HP
        rw [hxt] at c4 HP HSN
        have hb1 := below_new wr (.cells #[.int .i64 xf, .int .i64 xa, .string xt] 74)
        have hbB := hB.trans (hb1.mono hB.size)
        have e1 := (hbB.cell (p := ⟨kb, koff + k, none⟩) hkb).trans c5
        have HBA := Lib.hid hbB
        have HPA := HP.2.1
        clear hA hc hxf hxa hxt HP hB hkc hu hgd hz c5
        have f0 := fun i => (show (wr.alloc (.cells #[.int .i64 xf, .int .i64 xa, .string xt] 74)).cell? ⟨wr.heap.size, i, none⟩ = _ from (Blk.new wr 74 #[.int .i64 xf, .int .i64 xa, .string xt]).cell i)
        have g0 := f0 0
        have g1 := f0 1
        have g2 := f0 2
        clear f0
        by_cases hf : xf = F
        · subst hf
          have hq2 : ((xf : Int) != (xf : Int)) = false := by simp
          by_cases hz1 : z = 1
          · subst hz1
            have HNX : Hid (bs (pput st.data.toList xa xt.data.toList) = bs (fileL d.data.toList (keptN keep l (k + 1)) xf)) := Lib.hid (by rw [HSN.out, if_pos rfl, if_pos rfl, ← HST.out]; rfl)
            have HPT := Lib.hid (fun w' => putP st xa xt w' hsz HPA)
            clear HSN hsz HPA
            go_wp2_with fail
            refine (HPT.out _).mono ?_; rintro e w2 ⟨rfl, hB2⟩
            have e2 := (hB2.cell (p := ⟨kb, koff + k, none⟩) (Nat.lt_of_lt_of_le hkb HBA.out.size)).trans e1
            have HB2 := Lib.hid (HBA.out.trans (hB2.mono HBA.out.size))
            clear hB2 HPT e1
            go_wp2_with fail
            go_roundw
            case rel => exact ⟨k + 1, by go_num, by omega, by omega, by rw [← HNX.out], HB2.out⟩
            case measure => simp [intOf]; omega
          · have hz1' : (z == 1) = false := by simp; exact hz1
            by_cases hz2 : z = 2
            · subst hz2
              have HNX : Hid (bs (pput st.data.toList xa (xt.extract 0 (min 16 xt.size)).data.toList) = bs (fileL d.data.toList (keptN keep l (k + 1)) xf)) := Lib.hid (by rw [HSN.out, if_pos rfl, if_neg (by decide), if_pos rfl, ← HST.out]; rfl)
              have hmin : min (16 : Int) (xt.size : Int) = ((min 16 xt.size : Nat) : Int) := by omega
              obtain ⟨m, hm⟩ : ∃ m, min 16 xt.size = m := ⟨_, rfl⟩
              rw [hm] at hmin HNX
              have HEX : Hid ((xt.extract 0 m).data.toList = xt.data.toList.take m) := Lib.hid (by simp only [ByteArray.data_extract, Array.toList_extract, List.extract_eq_take_drop, List.drop_zero, Nat.sub_zero])
              have hm1 : (m : Int) ≤ (xt.size : Int) := by omega
              have hm0 : (0 : Int) ≤ (m : Int) := by omega
              have HPT := Lib.hid (fun w' => putP st xa (xt.extract 0 m) w' hsz (by have := HPA; simp; omega))
              clear HSN hsz HPA hm
              go_wp2_with fail
              generalize hW1 : wr.alloc (.cells #[.int .i64 (xf : Int), .int .i64 (xa : Int), .string xt] 74) = W1 at g0 g1 g2 e1 HBA ⊢
              clear hW1 hbB hb1
              go_still_tail 10, (by kernel_rfl)
              change wpList _ _ _ _ _ W1.drew
              go_wp2_with fail
              refine (HPT.out _).mono ?_; rintro e w2 ⟨rfl, hB2⟩
              have HB2 := Lib.hid (HBA.out.trans ((below_drew hB2).mono HBA.out.size))
              clear hB2 HPT e1
              go_wp2_with fail
              go_roundw
              case rel => exact ⟨k + 1, by go_num, by omega, by omega, by rw [← HNX.out, HEX.out], HB2.out⟩
              case measure => simp [intOf]; omega
            · have hz2' : (z == 2) = false := by simp; exact hz2
              have HNX : Hid (st = bs (fileL d.data.toList (keptN keep l (k + 1)) xf)) := Lib.hid (by rw [HSN.out, if_pos rfl, if_neg hz1, if_neg hz2, HST.out])
              clear HSN hsz HPA
              go_wp2_with fail
              go_roundw
              case rel => exact ⟨k + 1, by go_num, by omega, by omega, by rw [← HNX.out], HBA.out⟩
              case measure => simp [intOf]; omega
        · have hq2 : ((xf : Int) != (F : Int)) = true := by simp; omega
          have hf2 : ¬ (xf : Int) = (F : Int) := by omega
          have HNX : Hid (st = bs (fileL d.data.toList (keptN keep l (k + 1)) F)) := Lib.hid (by rw [HSN.out, if_neg hf, HST.out])
          clear HSN hsz HPA
          go_wp2_with fail
          go_roundw
          case rel => exact ⟨k + 1, by go_num, by omega, by omega, by rw [← HNX.out], HBA.out⟩
          case measure => simp [intOf]; omega
      · have d2 : decide ((k : Int) < (keep.length : Int)) = false := decide_eq_false (by omega)
        have HF : Hid (RRdPost r w (.returned (.string st)) wr) := Lib.hid ⟨by
          rw [← HR.out, ← HST.out]
          unfold kept
          obtain ⟨m, hm⟩ : ∃ m, l.length = k + m := ⟨l.length - k, by omega⟩
          rw [hm, keptN_stop keep l k (by omega) m], hB⟩
        clear hA hB hu hsz
        go_wp2_with fail
        go_ret
        exact HF.out
    · have d1 : decide ((k : Int) < (l.length : Int)) = false := decide_eq_false (by omega)
      have HF : Hid (RRdPost r w (.returned (.string st)) wr) := Lib.hid ⟨by
        rw [← HR.out, ← HST.out]
        unfold kept
        rw [show l.length = k by omega], hB⟩
      clear hA hB hu hsz
      go_wp2_with fail
      go_ret
      exact HF.out
/-- What the reference makes of a crash: what it keeps of an Arm stays. -/
def Dk.rcrash (s : Dk) (keep : List Int) : Dk := if s.down = true then s else { s.crash keep with keep := s.keep }
def CrR (s : Dk) (keep : List Int) (w : World) (o i : Value) (wl : World) : Prop := ∃ k : Nat, i = .int .i64 k ∧ k ≤ 8 ∧ wl.ownsRow w.heap.size 9 1 o k ((List.range k).map fun f : Nat => Value.string (bs (fileL (s.d f).data.toList (kept keep s.pend) f))) ∧ Below w.heap.size w wl
set_option maxRecDepth 100000 in
theorem pushStr (W : World) (base : Nat) (u : Value) (n : Nat) (L : List Value) (x : ByteArray) (ho : W.ownsRow base 9 1 u n L) (hb : base ≤ W.heap.size) (hl : n ≤ 1000000) :
    ∃ g' cap' w3, (Builtin.append_ #[40, 40] 40 #[u, .slice (some ⟨W.heap.size, 0, none⟩) 1 1]).run Try.prog (W.alloc (.cells #[.string x] 9)) = .ok (.slice (some ⟨g', 0, none⟩) (n + 1) cap') w3 ∧
      w3.ownsRow base 9 1 (.slice (some ⟨g', 0, none⟩) (n + 1) cap') (n + 1) (L ++ [.string x]) ∧ (W.alloc (.cells #[.string x] 9)).grownBy w3 u.ownBlock := by
  obtain ⟨i0, hi, hz0, hz1, hz2⟩ := info_parts infoStr
  have hbk := Blk.new W 9 #[.string x]
  obtain ⟨v', w3, hrun, ho3, hg3, _, hw⟩ := run_append_own_at (P := Try.prog) (W.alloc (.cells #[.string x] 9)) base 40 40 9 i0 (.string (bs [])) 1 16 Try.underlying40 hi hz0 hz1 hz2 rfl (by decide) _ _ _ (ho.alloc _) ⟨W.heap.size, 0, none⟩ 1 1 [.string x] rfl (fun j y hy => by
    rw [Addr.add_lit, Nat.zero_add, hbk.cell]
    rw [← hy]
    match j with
    | 0 => rfl
    | j + 1 => simp) (fun y hy => by rw [List.mem_singleton.1 hy]; rfl) (by unfold maxLen; omega) (by omega) (by simp; omega)
  obtain ⟨g', cap', rfl⟩ := (show ∃ g cap, v' = .slice (some ⟨g, 0, none⟩) (n + 1) cap by
    rcases ho3.2 with ⟨_, h0⟩ | ⟨g, cap, cur, hv, _⟩
    · omega
    · exact ⟨g, cap, hv⟩)
  exact ⟨g', cap', w3, hrun, ho3, hg3⟩
end Go.Proofs.Ytcfngdlgllanhaa
