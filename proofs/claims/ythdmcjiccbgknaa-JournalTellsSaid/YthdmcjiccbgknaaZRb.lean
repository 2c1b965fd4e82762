/-
  The reference of layer 6: add.
  The reference of layer 6: after, Crash.
  The reference of layer 6: Crash.
-/
import Derived.Test.YthdmcjiccbgknaaZRa
namespace Go.Proofs.Ythdmcjiccbgknaa
set_option linter.unusedVariables false
set_option linter.unusedSimpArgs false
open Go.RowKit

set_option maxRecDepth 100000 in
theorem ext_extR (t : ByteArray) (i n k : Nat) (hn : i + n ≤ k) : (t.extract i k).extract 0 n = t.extract i (i + n) := by
  apply ByteArray.ext
  simp only [ByteArray.data_extract, Array.extract_extract]
  congr 1
  omega
set_option maxRecDepth 100000 in
theorem ext_ext2 (t : ByteArray) (i n : Nat) : (t.extract i t.size).extract n (t.extract i t.size).size = t.extract (i + n) t.size := by
  apply ByteArray.ext
  simp only [ByteArray.data_extract, Array.extract_extract]
  simp
  congr 1
  omega
set_option maxRecDepth 100000 in
theorem ext_snocR (t : ByteArray) (j k : Nat) (hj : j ≤ k) (hk : k < t.size) : t.extract j k ++ t.extract k (k + 1) = t.extract j (k + 1) := by
  apply ByteArray.ext
  simp only [ByteArray.data_append, ByteArray.data_extract]
  rw [Array.extract_append_extract]
  congr 1 <;> omega
set_option maxRecDepth 100000 in
theorem grown_alloc {w w3 : World} {o : Obj} {r : Option Nat} (h : (w.alloc o).grownBy w3 r) : w.grownBy w3 r :=
  ⟨h.os, h.tape, h.output, Nat.le_trans (by simp) h.size, fun k hk hne => (h.block k (by simp; omega) hne).trans (heap_alloc_old w o hk)⟩
/-- The pending writes that are left behind the first j bytes. -/
def restP (F a : Nat) (t : ByteArray) (j : Nat) : List Pc := pcs F (t.extract j t.size).size (a + j) (t.extract j t.size)
set_option maxRecDepth 100000 in
theorem restP_zero (F a : Nat) (t : ByteArray) : restP F a t 0 = pcs F t.size a t := by
  unfold restP
  have e : t.extract 0 t.size = t := by apply ByteArray.ext; simp
  rw [e]; rfl
set_option maxRecDepth 100000 in
theorem restP_end (F a : Nat) (t : ByteArray) : restP F a t t.size = [] := by
  unfold restP
  exact pcs_zero _ _ _ (by simp)
set_option maxRecDepth 100000 in
theorem restP_step (F a : Nat) (t : ByteArray) (j n : Nat) (hj : j < t.size) (hn : n = min (t.size - j) (32 - (a + j) % 32)) : restP F a t j = ⟨F, a + j, t.extract j (j + n)⟩ :: restP F a t (j + n) := by
  have hs : (t.extract j t.size).size = t.size - j := by simp
  unfold restP
  rw [pcs_step F (a + j) (t.extract j t.size) (by rw [hs]; omega), hs, ← hn, ext_extR t j n t.size (by omega)]
  have e := ext_ext2 t j n
  rw [hs] at e
  rw [e, Nat.add_assoc]
def AddR (B : Nat → Prop) (s : Dk) (F a : Nat) (t : ByteArray) (db : Nat) (w : World) (x fr i : Value) (wl : World) : Prop := ∃ (k j : Nat) (done : List Pc), i = .int .i64 k ∧ k ≤ t.size ∧ j ≤ k ∧ x = .string (t.extract j k) ∧ fr = .int .i64 ((a + j : Nat) : Int) ∧ done ++ restP F a t j = pcs F t.size a t ∧ (j < k → k - j < min (t.size - j) (32 - (a + j) % 32)) ∧ ROp B w wl db { s with pend := s.pend ++ done }
def AddPost (B : Nat → Prop) (w : World) (db : Nat) (s : Dk) (e : Ending) (w' : World) : Prop := e = .returned (.tuple #[]) ∧ ROp B w w' db s
set_option maxRecDepth 100000 in
set_option maxHeartbeats 8000000 in
theorem addR {B : Nat → Prop} {w : World} {db : Nat} {s : Dk} (h : RefAt B w db s) (F : Nat) (hF : F < 8) (a : Nat) (t : ByteArray) (hat : a + t.size ≤ 16777216) (hn : s.pend.length + t.size ≤ 1000000) :
    Calls Try.prog 79 #[.pointer (some ⟨db, 0, none⟩), .int .i64 F, .int .i64 a, .string t] w (AddPost B w db { s with pend := s.pend ++ pcs F t.size a t }) := by
  have hpl := pcs_length F t.size a t
  have HOK : Hid (∀ done r, done ++ r = pcs F t.size a t → Dk.ok { s with pend := s.pend ++ done }) := Lib.hid (fun done r hd => by
    have ho := h.ok
    refine ⟨ho.dl, ho.ds, fun p hp => ?_, ?_, ho.kn, ho.lo, ho.ca⟩
    · rcases List.mem_append.1 hp with hp | hp
      · exact ho.ps p hp
      · have := pcs_ok F t.size a t p (by rw [← hd]; exact List.mem_append_left _ hp)
        exact ⟨by omega, by omega, this.2.2.2.1, this.2.2.2.2⟩
    · have := congrArg List.length hd
      rw [List.length_append] at this
      rw [List.length_append]; omega)
  have HR0 := Lib.hid (restP_zero F a t)
  have H0 : Hid (ROp B w w db { s with pend := s.pend ++ [] }) := Lib.hid (by rw [List.append_nil]; exact ROp.refl h)
  have HE0 : Hid (t.extract 0 0 = { data := #[] }) := Lib.hid (by apply ByteArray.ext; simp)
  have hts : (t.size : Int) ≤ 16777216 := by omega
  clear h
  go_enter Try.func79, Try.ntmps79
  go_wp2_with fail
  go_loopw [8, 9, 10] (fun x fr i wl => AddR B s F a t db w x fr i wl) (fun _ _ i _ => t.size - (intOf i).toNat)
  case atStart => exact ⟨0, 0, [], rfl, Nat.zero_le _, Nat.le_refl _, by rw [HE0.out], rfl, by rw [List.nil_append]; exact HR0.out, fun h => by omega, H0.out⟩
  case round =>
    clear H0 HE0 HR0
    obtain ⟨k, j, done, rfl, hk, hjk, rfl, rfl, hdn, hpart, hop⟩ := hrel
    have HDN := Lib.hid hdn
    have HOP := Lib.hid hop
    by_cases hlt : k < t.size
    · have q1 : (k : Int) < t.size := by omega
      have q0 : (0 : Int) ≤ (k : Int) := by omega
      have q3 : (k : Int) + 1 ≤ t.size := by omega
      have q4 : (k : Int) ≤ (k : Int) + 1 := by omega
      have q5 : ((k : Int) + 1).toNat = k + 1 := by omega
      have hsn := ext_snocR t j k hjk hlt
      have hadd := fun w => run_string_add_sum (P := Try.prog) (w := w) (t.extract j k) (t.extract k (k + 1)) (by simp; omega)
      rw [hsn] at hadd
      have hmod : ((a : Int) + (k : Int) + 1).tmod 32 = (((a + k + 1) % 32 : Nat) : Int) := by
        rw [Int.tmod_eq_emod_of_nonneg (by omega)]; omega
      obtain ⟨R, hR⟩ : ∃ R, (a + k + 1) % 32 = R := ⟨_, rfl⟩
      have hmod2 : ((a : Int) + ((k : Int) + 1)) % 32 = (((a + k + 1) % 32 : Nat) : Int) := by omega
      have hmod3 : ((a : Int) + ((k : Int) + 1)).tmod 32 = (((a + k + 1) % 32 : Nat) : Int) := by
        rw [Int.tmod_eq_emod_of_nonneg (by omega)]; omega
      rw [hR] at hmod hmod2 hmod3
      have hR32 : R < 32 := by omega
      have hw1 : IntKind.i64.wrap ((R : Nat) : Int) = (R : Int) := IntWalk.i64_in _ (by omega)
      obtain ⟨lv, qv, kv, h, hb⟩ := hop.at_
      obtain ⟨_, c1, _, _, _, _, fz⟩ := h.cells
      have f1 := fz 1
      obtain ⟨aj, haj⟩ : ∃ aj, a + j = aj := ⟨_, rfl⟩
      rw [haj] at hpart ⊢
      have hkk : ((a : Int) + (k : Int) + 1) = ((a + (k + 1) : Nat) : Int) := by omega
      by_cases hend : R = 0 ∨ k + 1 = t.size
      · have hnn : k + 1 - j = min (t.size - j) (32 - (a + j) % 32) := by
          rw [haj]
          by_cases hj : j < k
          · have := hpart hj; omega
          · omega
        have hst := restP_step F a t j (k + 1 - j) (by omega) hnn
        rw [show j + (k + 1 - j) = k + 1 by omega, haj] at hst
        have HDD : Hid ((done ++ [⟨F, aj, t.extract j (k + 1)⟩]) ++ restP F a t (k + 1) = pcs F t.size a t) := Lib.hid (by rw [← HDN.out, hst]; simp)
        have HEE : Hid (t.extract (k + 1) (k + 1) = { data := #[] }) := Lib.hid (by apply ByteArray.ext; simp)
        obtain ⟨qA, qcap, rfl, _⟩ := own_pcs h.q
        obtain ⟨g', cap', w3, hrun, ho3, hg3, hob⟩ := pushQ wr 0 _ (s.pend ++ done) ⟨F, aj, t.extract j (k + 1)⟩ h.q (Nat.zero_le _) h.ok.pn
        have hg := grown_alloc hg3
        have hblk := (hg.block db h.bx.lt (fun e => own_blk h.q h.bx (by decide) e.symm)).trans h.bx
        have d1 : w3.cell? ⟨db, 1, none⟩ = some (.slice qA (s.pend ++ done).length qcap) := Blk.cell hblk 1
        have d2 : w3.frozen? ⟨db, 1, none⟩ = false := by simp [World.frozen?, hblk]
        have hfi := RAt.field (i := 1) (s' := { s with pend := s.pend ++ (done ++ [⟨F, aj, t.extract j (k + 1)⟩]) }) (x := .slice (some ⟨g', 0, none⟩) ((s.pend ++ done).length + 1) cap') (lv' := lv) (kv' := kv) (qv' := .slice (some ⟨g', 0, none⟩) ((s.pend ++ done).length + 1) cap') h hb hg (own_heap h.lst fun y hy hyl => hg.block y hyl (fun e => own_own h.lst h.q (by decide) y hy e.symm)) (by rw [← List.append_assoc]; exact ho3) (own_heap h.kp fun y hy hyl => hg.block y hyl (fun e => own_own h.kp h.q (by decide) y hy e.symm)) (fun y hy => .inl hy) (fun y hy => by
          simp [Value.ownBlock] at hy
          subst hy
          exact hob) (fun y hy => .inl hy) rfl (HOK.out _ _ HDD.out)
        have HFI := Lib.hid (HOP.out.trans hfi)
        have HRUN := Lib.hid hrun
        obtain ⟨ql, hql⟩ : ∃ n, (s.pend ++ done).length = n := ⟨_, rfl⟩
        rw [hql] at HFI HRUN c1 d1
        have hwk : IntKind.i64.wrap ((a : Int) + (k : Int) + 1) = (a : Int) + (k : Int) + 1 := IntWalk.i64_in _ (by omega)
        clear hst hrun ho3 hg3 hob hg hblk hfi h hb hdn hop hnn hpart HDN fz HOP hsn hR haj hql
        by_cases hr : R = 0
        · subst hr
          have hr0 : (((0 : Nat) : Int) == 0) = true := rfl
          have hm0 : ((a : Int) + ((k : Int) + 1)) % 32 = 0 := by omega
          have hm1 : ((a : Int) + ((k : Int) + 1)).tmod 32 = 0 := hmod3
          clear hend
          go_wp2_with (at_builtin; refine Lib.wpList_append_run_sl _ rfl _ _ 69 rfl _ _ rfl rfl HRUN.out ?_)
          go_roundw
          case rel => exact ⟨k + 1, k + 1, done ++ [⟨F, aj, t.extract j (k + 1)⟩], by go_num, by omega, Nat.le_refl _, by rw [HEE.out], by go_num, HDD.out, fun h => by omega, HFI.out⟩
          case measure => simp [intOf]; omega
        · have hr0 : ((R : Int) == 0) = false := by simp; exact hr
          have hm0 : ¬ ((a : Int) + ((k : Int) + 1)) % 32 = 0 := by omega
          have hke : ((k : Int) == (t.size : Int) - 1) = true := by
            have : k + 1 = t.size := by omega
            simp; omega
          clear hend
          go_wp2_with (at_builtin; refine Lib.wpList_append_run_sl _ rfl _ _ 69 rfl _ _ rfl rfl HRUN.out ?_)
          go_roundw
          case rel => exact ⟨k + 1, k + 1, done ++ [⟨F, aj, t.extract j (k + 1)⟩], by go_num, by omega, Nat.le_refl _, by rw [HEE.out], by go_num, HDD.out, fun h => by omega, HFI.out⟩
          case measure => simp [intOf]; omega
      · have hr0 : ((R : Int) == 0) = false := by simp; omega
        have hm0 : ¬ ((a : Int) + ((k : Int) + 1)) % 32 = 0 := by omega
        have hke2 : ¬ (k : Int) = (t.size : Int) - 1 := by omega
        have hke : ((k : Int) == (t.size : Int) - 1) = false := by simp; omega
        have HP2 : Hid (j < k + 1 → k + 1 - j < min (t.size - j) (32 - (a + j) % 32)) := Lib.hid (fun _ => by
          rw [haj]
          by_cases hj : j < k
          · have := hpart hj; omega
          · omega)
        rw [haj] at HP2
        have HAJ := Lib.hid haj
        clear h hb hdn hop hpart fz hsn hR haj hend c1 f1
        go_wp2_with fail
        go_roundw
        case rel => exact ⟨k + 1, j, done, by go_num, by omega, by omega, rfl, by rw [HAJ.out], HDN.out, by rw [HAJ.out]; exact HP2.out, HOP.out⟩
        case measure => simp [intOf]; omega
    · have hjj : j = t.size := by
        by_cases hj : j < k
        · have := hpart hj; omega
        · omega
      have HF : Hid (AddPost B w db { s with pend := s.pend ++ pcs F t.size a t } (.returned (.tuple #[])) wr) := Lib.hid ⟨rfl, by
        rw [hjj, restP_end, List.append_nil] at hdn
        rw [← hdn]; exact hop⟩
      clear hdn hop
      go_wp2_with fail
      go_end0
      exact HF.out
end Go.Proofs.Ythdmcjiccbgknaa

namespace Go.Proofs.Ythdmcjiccbgknaa
set_option linter.unusedVariables false
set_option linter.unusedSimpArgs false
open Go.RowKit

set_option maxRecDepth 100000 in
theorem keptN_add1 (keep : List Int) (l : List Pc) (k : Nat) : keptN keep l (k + 1) = keptN keep l k ++ if surv (gp l k) k keep = 0 then [] else [cutP (gp l k) (surv (gp l k) k keep)] := rfl
set_option maxRecDepth 100000 in
theorem keptN_stop (keep : List Int) (l : List Pc) (k : Nat) (h : keep.length ≤ k) : ∀ m, keptN keep l (k + m) = keptN keep l k
  | 0 => rfl
  | m + 1 => by
    rw [show k + (m + 1) = (k + m) + 1 by omega, keptN_add1, keptN_stop keep l k h m]
    have : surv (gp l (k + m)) (k + m) keep = 0 := by
      unfold surv
      rw [List.getD_eq_getElem?_getD, List.getElem?_eq_none (by omega)]
      simp
    rw [if_pos this, List.append_nil]
set_option maxRecDepth 100000 in
/-- One step of after. -/
theorem aft_step (d : List UInt8) (keep : List Int) (l : List Pc) (k F : Nat) (hp : 0 < (gp l k).t.size) : fileL d (keptN keep l (k + 1)) F =
    if (gp l k).f = F then (if keep.getD k 0 = 1 then pput (fileL d (keptN keep l k) F) (gp l k).a (gp l k).t.data.toList else if keep.getD k 0 = 2 then pput (fileL d (keptN keep l k) F) (gp l k).a ((gp l k).t.extract 0 (min 16 (gp l k).t.size)).data.toList else fileL d (keptN keep l k) F) else fileL d (keptN keep l k) F := by
  rw [keptN_add1, fileL_append]
  have hs : surv (gp l k) k keep = if keep.getD k 0 = 1 then (gp l k).t.size else if keep.getD k 0 = 2 then min 16 (gp l k).t.size else 0 := rfl
  by_cases h1 : keep.getD k 0 = 1
  · rw [if_pos h1] at hs ⊢
    rw [hs, if_neg (by omega), fileL_one]
    have e : (cutP (gp l k) (gp l k).t.size).l = (gp l k).t.data.toList := by
      show ((gp l k).t.extract 0 (gp l k).t.size).data.toList = _
      rw [ByteArray.extract_zero_size]
    rw [e]; rfl
  · rw [if_neg h1] at hs ⊢
    by_cases h2 : keep.getD k 0 = 2
    · rw [if_pos h2] at hs ⊢
      rw [hs, if_neg (by omega), fileL_one]; rfl
    · rw [if_neg h2] at hs ⊢
      rw [hs, if_pos rfl, fileL_nil]; simp
def AfR (l : List Pc) (d : ByteArray) (keep : List Int) (F : Nat) (w : World) (x i : Value) (wl : World) : Prop := ∃ k : Nat, i = .int .i64 k ∧ k ≤ l.length ∧ k ≤ keep.length ∧ x = .string (bs (fileL d.data.toList (keptN keep l k) F)) ∧ Below w.heap.size w wl
set_option maxRecDepth 100000 in
set_option maxHeartbeats 4000000 in
theorem afterR {B : Nat → Prop} {w : World} {db : Nat} {s : Dk} (h : RefAt B w db s) (F : Nat) (hF : F < 8) (u : Value) (keep : List Int) (hr : IRow w w.heap.size u keep) :
    Calls Try.prog 62 #[.pointer (some ⟨db, 0, none⟩), .int .i64 F, u] w (RRdPost (bs (fileL (s.d F).data.toList (kept keep s.pend) F)) w) := by
  obtain ⟨lv, qv, kv, h, _⟩ := h
  have hok := h.ok
  obtain ⟨c0, c1, _⟩ := h.cells
  obtain ⟨g, cap, rfl, hg, hgc⟩ := h.last
  have cf := (hgc F hF).1
  obtain ⟨A, qcap, rfl, _, _, hA⟩ := own_pcs h.q
  have hdb := h.bx.lt
  have hps := hok.ps
  have hpn := hok.pn
  have hdl := hok.d_le F
  obtain ⟨uA, ucap, rfl, huc, hum, _, hu⟩ := hr
  obtain ⟨r, hr⟩ : ∃ r, bs (fileL (s.d F).data.toList (kept keep s.pend) F) = r := ⟨_, rfl⟩
  have HR := Lib.hid hr
  rw [hr]
  obtain ⟨l, hl⟩ : ∃ l, s.pend = l := ⟨_, rfl⟩
  obtain ⟨d, hd⟩ : ∃ d, s.d F = d := ⟨_, rfl⟩
  rw [hl] at HR hA hps hpn c1
  rw [hd] at HR cf hdl
  have HPS := Lib.hid hps
  have HC1 : Hid (∀ wl, Below w.heap.size w wl → wl.cell? ⟨db, 1, none⟩ = some (.slice A l.length qcap)) := Lib.hid (fun wl hb => (hb.cell (p := ⟨db, 1, none⟩) hdb).trans c1)
  have HD0 : Hid (bs (fileL d.data.toList (keptN keep l 0) F) = d) := Lib.hid (by rw [keptN, fileL_nil, bs_data])
  have HLE : Hid (∀ k, k ≤ l.length → (fileL d.data.toList (keptN keep l k) F).length ≤ 16777216) := Lib.hid (fun k hk => fileL_le _ _ _ _ (by rw [dl_len]; exact hdl) (fun p hp => by
    obtain ⟨q, hq, _, h2, _, h4⟩ := keptN_mem keep l k hk p hp
    have := hps q hq
    omega))
  have q0 : (0 : Int) ≤ (F : Int) := by omega
  have q8 : (F : Int) < 8 := by omega
  have q9 : ((F : Int)).toNat = F := by omega
  clear h hok hgc hps hr hl hd c1 hg
  go_enter Try.func62, Try.ntmps62
  go_wp2_with fail
  clear c0 cf
  go_loopw [7, 8] (fun x i wl => AfR l d keep F w x i wl) (fun _ i _ => l.length - (intOf i).toNat)
  case atStart => exact ⟨0, rfl, by omega, by omega, by rw [HD0.out], Below.refl _ _⟩
  case round =>
    clear HD0
    obtain ⟨k, rfl, hk, hkk, rfl, hB⟩ := hrel
    have c1 := HC1.out wr hB
    have hstz := HLE.out k hk
    obtain ⟨st, hst⟩ : ∃ st, bs (fileL d.data.toList (keptN keep l k) F) = st := ⟨_, rfl⟩
    have HST := Lib.hid hst
    rw [hst]
    have hsz : st.size ≤ 16777216 := by rw [← hst, bs_size]; exact hstz
    clear hst hstz
    by_cases hlt : k < l.length
    · have q1 : (k : Int) < l.length := by omega
      have d1 : decide ((k : Int) < (l.length : Int)) = true := decide_eq_true q1
      by_cases hlk : k < keep.length
      · have q2 : (k : Int) < keep.length := by omega
        have d2 : decide ((k : Int) < (keep.length : Int)) = true := decide_eq_true q2
        obtain ⟨b, rfl, hb, hc⟩ := hA (by omega)
        obtain ⟨kb, koff, rfl, hkb, hkc⟩ := hu (by omega)
        have c2 := (hB.cell (p := ⟨b, k * 3, none⟩) hb).trans (hc k hlt).1
        have c3 := (hB.cell (p := ⟨b, k * 3 + 1, none⟩) hb).trans (hc k hlt).2.1
        have c4 := (hB.cell (p := ⟨b, k * 3 + 2, none⟩) hb).trans (hc k hlt).2.2
        have c5 := hkc k hlk
        have HP := HPS.out (gp l k) (by rw [gp_get l k hlt]; exact List.getElem_mem hlt)
        have HSN := Lib.hid (aft_step d.data.toList keep l k F HP.2.2.1)
        have hgd : keep.getD k 0 = keep[k] := by rw [List.getD_eq_getElem?_getD, List.getElem?_eq_getElem hlk]; rfl
        rw [hgd] at HSN
        obtain ⟨z, hz⟩ : ∃ z, keep[k] = z := ⟨_, rfl⟩
        rw [hz] at c5 HSN
        obtain ⟨xf, hxf⟩ : ∃ n, (gp l k).f = n := ⟨_, rfl⟩
        obtain ⟨xa, hxa⟩ : ∃ n, (gp l k).a = n := ⟨_, rfl⟩
        obtain ⟨xt, hxt⟩ : ∃ n, (gp l k).t = n := ⟨_, rfl⟩
        rw [hxf] at c2 HSN
        rw [hxa] at c3 HSN HP
        rw [hxt] at c4 HP HSN
        have hb1 := below_new wr (.cells #[.int .i64 xf, .int .i64 xa, .string xt] 111)
        have hbB := hB.trans (hb1.mono hB.size)
        have e1 := (hbB.cell (p := ⟨kb, koff + k, none⟩) hkb).trans c5
        have HBA := Lib.hid hbB
        have HPA := HP.2.1
        clear hA hc hxf hxa hxt HP hB hkc hu hgd hz c5
        have f0 := fun i => (show (wr.alloc (.cells #[.int .i64 xf, .int .i64 xa, .string xt] 111)).cell? ⟨wr.heap.size, i, none⟩ = _ from (Blk.new wr 111 #[.int .i64 xf, .int .i64 xa, .string xt]).cell i)
        have g0 := f0 0
        have g1 := f0 1
        have g2 := f0 2
        clear f0
        by_cases hf : xf = F
        · subst hf
          have hq2 : ((xf : Int) != (xf : Int)) = false := by simp
          by_cases hz1 : z = 1
          · subst hz1
            have HNX : Hid (bs (pput st.data.toList xa xt.data.toList) = bs (fileL d.data.toList (keptN keep l (k + 1)) xf)) := Lib.hid (by rw [HSN.out, if_pos rfl, if_pos rfl, ← HST.out]; rfl)
            have HPT := Lib.hid (fun w' => putP st xa xt w' hsz HPA)
            clear HSN hsz HPA
            go_wp2_with fail
            refine (HPT.out _).mono ?_; rintro e w2 ⟨rfl, hB2⟩
            have e2 := (hB2.cell (p := ⟨kb, koff + k, none⟩) (Nat.lt_of_lt_of_le hkb HBA.out.size)).trans e1
            have HB2 := Lib.hid (HBA.out.trans (hB2.mono HBA.out.size))
            clear hB2 HPT e1
            go_wp2_with fail
            go_roundw
            case rel => exact ⟨k + 1, by go_num, by omega, by omega, by rw [← HNX.out], HB2.out⟩
            case measure => simp [intOf]; omega
          · have hz1' : (z == 1) = false := by simp; exact hz1
            by_cases hz2 : z = 2
            · subst hz2
              have HNX : Hid (bs (pput st.data.toList xa (xt.extract 0 (min 16 xt.size)).data.toList) = bs (fileL d.data.toList (keptN keep l (k + 1)) xf)) := Lib.hid (by rw [HSN.out, if_pos rfl, if_neg (by decide), if_pos rfl, ← HST.out]; rfl)
              have hmin : min (16 : Int) (xt.size : Int) = ((min 16 xt.size : Nat) : Int) := by omega
              obtain ⟨m, hm⟩ : ∃ m, min 16 xt.size = m := ⟨_, rfl⟩
              rw [hm] at hmin HNX
              have HEX : Hid ((xt.extract 0 m).data.toList = xt.data.toList.take m) := Lib.hid (by simp only [ByteArray.data_extract, Array.toList_extract, List.extract_eq_take_drop, List.drop_zero, Nat.sub_zero])
              have hm1 : (m : Int) ≤ (xt.size : Int) := by omega
              have hm0 : (0 : Int) ≤ (m : Int) := by omega
              have HPT := Lib.hid (fun w' => putP st xa (xt.extract 0 m) w' hsz (by have := HPA; simp; omega))
              clear HSN hsz HPA hm
              go_wp2_with fail
              generalize hW1 : wr.alloc (.cells #[.int .i64 (xf : Int), .int .i64 (xa : Int), .string xt] 111) = W1 at g0 g1 g2 e1 HBA ⊢
              clear hW1 hbB hb1
              go_still_tail 10, (by kernel_rfl)
              change wpList _ _ _ _ _ W1.drew
              go_wp2_with fail
              refine (HPT.out _).mono ?_; rintro e w2 ⟨rfl, hB2⟩
              have HB2 := Lib.hid (HBA.out.trans ((below_drew hB2).mono HBA.out.size))
              clear hB2 HPT e1
              go_wp2_with fail
              go_roundw
              case rel => exact ⟨k + 1, by go_num, by omega, by omega, by rw [← HNX.out, HEX.out], HB2.out⟩
              case measure => simp [intOf]; omega
            · have hz2' : (z == 2) = false := by simp; exact hz2
              have HNX : Hid (st = bs (fileL d.data.toList (keptN keep l (k + 1)) xf)) := Lib.hid (by rw [HSN.out, if_pos rfl, if_neg hz1, if_neg hz2, HST.out])
              clear HSN hsz HPA
              go_wp2_with fail
              go_roundw
              case rel => exact ⟨k + 1, by go_num, by omega, by omega, by rw [← HNX.out], HBA.out⟩
              case measure => simp [intOf]; omega
        · have hq2 : ((xf : Int) != (F : Int)) = true := by simp; omega
          have hf2 : ¬ (xf : Int) = (F : Int) := by omega
          have HNX : Hid (st = bs (fileL d.data.toList (keptN keep l (k + 1)) F)) := Lib.hid (by rw [HSN.out, if_neg hf, HST.out])
          clear HSN hsz HPA
          go_wp2_with fail
          go_roundw
          case rel => exact ⟨k + 1, by go_num, by omega, by omega, by rw [← HNX.out], HBA.out⟩
          case measure => simp [intOf]; omega
      · have d2 : decide ((k : Int) < (keep.length : Int)) = false := decide_eq_false (by omega)
        have HF : Hid (RRdPost r w (.returned (.string st)) wr) := Lib.hid ⟨by
          rw [← HR.out, ← HST.out]
          unfold kept
          obtain ⟨m, hm⟩ : ∃ m, l.length = k + m := ⟨l.length - k, by omega⟩
          rw [hm, keptN_stop keep l k (by omega) m], hB⟩
        clear hA hB hu hsz
        go_wp2_with fail
        go_ret
        exact HF.out
    · have d1 : decide ((k : Int) < (l.length : Int)) = false := decide_eq_false (by omega)
      have HF : Hid (RRdPost r w (.returned (.string st)) wr) := Lib.hid ⟨by
        rw [← HR.out, ← HST.out]
        unfold kept
        rw [show l.length = k by omega], hB⟩
      clear hA hB hu hsz
      go_wp2_with fail
      go_ret
      exact HF.out
/-- What the reference makes of a crash: what it keeps of an Arm stays. -/
def Dk.rcrash (s : Dk) (keep : List Int) : Dk := if s.down = true then s else { s.crash keep with keep := s.keep }
def CrR (s : Dk) (keep : List Int) (w : World) (o i : Value) (wl : World) : Prop := ∃ k : Nat, i = .int .i64 k ∧ k ≤ 8 ∧ wl.ownsRow w.heap.size 9 1 o k ((List.range k).map fun f : Nat => Value.string (bs (fileL (s.d f).data.toList (kept keep s.pend) f))) ∧ Below w.heap.size w wl
set_option maxRecDepth 100000 in
theorem pushStr (W : World) (base : Nat) (u : Value) (n : Nat) (L : List Value) (x : ByteArray) (ho : W.ownsRow base 9 1 u n L) (hb : base ≤ W.heap.size) (hl : n ≤ 1000000) :
    ∃ g' cap' w3, (Builtin.append_ #[36, 36] 36 #[u, .slice (some ⟨W.heap.size, 0, none⟩) 1 1]).run Try.prog (W.alloc (.cells #[.string x] 9)) = .ok (.slice (some ⟨g', 0, none⟩) (n + 1) cap') w3 ∧
      w3.ownsRow base 9 1 (.slice (some ⟨g', 0, none⟩) (n + 1) cap') (n + 1) (L ++ [.string x]) ∧ (W.alloc (.cells #[.string x] 9)).grownBy w3 u.ownBlock := by
  obtain ⟨i0, hi, hz0, hz1, hz2⟩ := info_parts infoStr
  have hbk := Blk.new W 9 #[.string x]
  obtain ⟨v', w3, hrun, ho3, hg3, _, hw⟩ := run_append_own_at (P := Try.prog) (W.alloc (.cells #[.string x] 9)) base 36 36 9 i0 (.string (bs [])) 1 16 Try.underlying36 hi hz0 hz1 hz2 rfl (by decide) _ _ _ (ho.alloc _) ⟨W.heap.size, 0, none⟩ 1 1 [.string x] rfl (fun j y hy => by
    rw [Addr.add_lit, Nat.zero_add, hbk.cell]
    rw [← hy]
    match j with
    | 0 => rfl
    | j + 1 => simp) (fun y hy => by rw [List.mem_singleton.1 hy]; rfl) (by unfold maxLen; omega) (by omega) (by simp; omega)
  obtain ⟨g', cap', rfl⟩ := (show ∃ g cap, v' = .slice (some ⟨g, 0, none⟩) (n + 1) cap by
    rcases ho3.2 with ⟨_, h0⟩ | ⟨g, cap, cur, hv, _⟩
    · omega
    · exact ⟨g, cap, hv⟩)
  exact ⟨g', cap', w3, hrun, ho3, hg3⟩
end Go.Proofs.Ythdmcjiccbgknaa

namespace Go.Proofs.Ythdmcjiccbgknaa
set_option linter.unusedVariables false
set_option linter.unusedSimpArgs false
open Go.RowKit

set_option maxRecDepth 100000 in
theorem own_form2 {w : World} {base sz n : Nat} {e : TypeId} {v : Value} {xs : List Value} (h : w.ownsRow base e sz v n xs) : ∃ A cap, v = .slice A n cap := by
  rcases h.2 with ⟨rfl, h0⟩ | ⟨g, cap, cur, hv, _⟩
  · exact ⟨none, 0, by rw [h0]⟩
  · exact ⟨_, cap, hv⟩
set_option maxRecDepth 100000 in
theorem own_mono0 {w : World} {base sz n : Nat} {e : TypeId} {v : Value} {xs : List Value} (h : w.ownsRow base e sz v n xs) : w.ownsRow 0 e sz v n xs := by
  refine ⟨h.1, ?_⟩
  rcases h.2 with h | ⟨g, cap, cur, h1, h2, r⟩
  · exact .inl h
  · exact .inr ⟨g, cap, cur, h1, Nat.zero_le _, r⟩
def CrPost (B : Nat → Prop) (w : World) (db : Nat) (s : Dk) (e : Ending) (w' : World) : Prop := e = .returned (.tuple #[]) ∧ ROp B w w' db s
set_option maxRecDepth 100000 in
set_option maxHeartbeats 8000000 in
theorem crashR {B : Nat → Prop} {w : World} {db : Nat} {s : Dk} (h : RefAt B w db s) (u : Value) (keep : List Int) (hr : IRow w w.heap.size u keep) (hnu : keep ≠ [] → u.ownBlock ≠ some db) :
    Calls Try.prog 19 #[.pointer (some ⟨db, 0, none⟩), u] w (CrPost B w db (s.rcrash keep)) := by
  obtain ⟨lv0, qv0, kv0, h0, _⟩ := id h
  obtain ⟨_, _, _, c3, c4, _, fz⟩ := h0.cells
  cases hd : s.down with
  | true =>
    have HF : Hid (CrPost B w db (s.rcrash keep) (.returned (.tuple #[])) w) := Lib.hid ⟨rfl, by unfold Dk.rcrash; rw [if_pos hd]; exact ROp.refl h⟩
    rw [hd] at c3
    clear h h0 fz c4 hd
    go_enter Try.func19, Try.ntmps19
    go_wp2_with fail
    go_end0
    exact HF.out
  | false =>
    have f3 := fz 3
    have o1 := h.set_down true
    have o2 := o1.at_.set_calls 0 (by omega)
    have o12 := o1.trans o2
    obtain ⟨W2, hW2⟩ : ∃ W2, (w.setCell ⟨db, 3, none⟩ (.bool true)).setCell ⟨db, 4, none⟩ (.int .i64 ((0 : Nat) : Int)) = W2 := ⟨_, rfl⟩
    have hws : W2.heap.size = w.heap.size := by rw [← hW2]; simp [World.setCell]
    have hr2 : IRow W2 W2.heap.size u keep := hr.heap2 (by rw [hws]; exact Nat.le_refl _) fun hke k hk hkl => by
      rw [← hW2]
      have hne : k ≠ db := fun e => hnu hke (by rw [hk, e])
      exact (Below.heap_setCell _ ⟨db, 4, none⟩ _ k hne).trans (Below.heap_setCell w ⟨db, 3, none⟩ _ k hne)
    obtain ⟨lv1, qv1, kv1, h1, _⟩ := o1.at_
    obtain ⟨_, _, _, _, d4, _, fz1⟩ := h1.cells
    have f4 := fz1 4
    rw [hW2] at o12
    have HO2 := Lib.hid o12
    have HR2 := Lib.hid hr2
    have HDF := Lib.hid hd
    have HOKS := Lib.hid h0.ok
    obtain ⟨uA, ucap, rfl, _⟩ := hr
    have hW3 : (w.setCell ⟨db, 3, none⟩ (.bool true)).setCell ⟨db, 4, none⟩ (.int .i64 0) = W2 := hW2
    rw [hd] at c3
    clear h h0 fz o1 o2 o12 hW2 hr2 h1 fz1 hd
    go_enter Try.func19, Try.ntmps19
    go_wp2_with fail
    try rw [hW3]
    clear hW3 c3 c4 d4 f3 f4
    go_loopw [4, 5] (fun o i wl => CrR { s with down := true, calls := 0 } keep W2 o i wl) (fun _ i _ => 8 - (intOf i).toNat)
    case atStart => exact ⟨0, rfl, by omega, World.ownsRow_nil _ _ _ _, Below.refl _ _⟩
    case round =>
      obtain ⟨k, rfl, hk, ho, hB⟩ := hrel
      obtain ⟨oA, ocap, rfl⟩ := own_form2 ho
      by_cases hlt : k < 8
      · have q1 : (k : Int) < 8 := by omega
        have hra := HO2.out.at_.below (w' := wr) (hB.mono (Nat.le_refl _))
        have HA := Lib.hid (afterR hra k hlt _ keep (HR2.out.keep hB))
        have hrg : (List.range (k + 1)).map (fun f : Nat => Value.string (bs (fileL ((({ s with down := true, calls := 0 } : Dk)).d f).data.toList (kept keep s.pend) f))) = (List.range k).map (fun f : Nat => Value.string (bs (fileL ((({ s with down := true, calls := 0 } : Dk)).d f).data.toList (kept keep s.pend) f))) ++ [Value.string (bs (fileL ((({ s with down := true, calls := 0 } : Dk)).d k).data.toList (kept keep s.pend) k))] := by
          rw [List.range_succ, List.map_append]; rfl
        have HRG := Lib.hid hrg
        have HOW := Lib.hid ho
        have HB := Lib.hid hB
        obtain ⟨X, hX⟩ : ∃ X, bs (fileL ((({ s with down := true, calls := 0 } : Dk)).d k).data.toList (kept keep s.pend) k) = X := ⟨_, rfl⟩
        rw [hX] at HRG
        have HA2 : Hid (Calls Try.prog 62 #[.pointer (some ⟨db, 0, none⟩), .int .i64 k, .slice uA keep.length ucap] wr (RRdPost X wr)) := Lib.hid (by rw [← hX]; exact HA.out)
        clear hra HA hrg ho hB hX
        go_wp2_with fail
        refine HA2.out.mono ?_; rintro e w4 ⟨rfl, hb4⟩
        have ho4 := own_heap HOW.out (fun y hy hyl => hb4.block y hyl)
        have hB4 := HB.out.trans (hb4.mono HB.out.size)
        obtain ⟨g', cap', w5, hrun, ho5, hg5⟩ := pushStr w4 W2.heap.size _ k _ X ho4 hB4.size (by omega)
        have HRUN := Lib.hid hrun
        have HO5 := Lib.hid ho5
        have HB5 : Hid (Below W2.heap.size W2 w5) := Lib.hid ((hB4.trans ((below_new w4 (.cells #[.string X] 9)).mono hB4.size)).trans ((Below.refl W2.heap.size _).grown hg5 (by have := hB4.size; simp; omega) (fun j hj => (World.ownsRow.lt ho4 j hj).1)))
        clear hb4 ho4 hB4 hrun ho5 hg5 HA2 HOW HB
        go_wp2_with (at_builtin; refine Lib.wpList_append_run_sl _ rfl _ _ 36 rfl _ _ rfl rfl HRUN.out ?_)
        go_roundw
        case rel => exact ⟨k + 1, by go_num, by omega, (show World.ownsRow _ _ _ _ _ _ ((List.range (k + 1)).map (fun f : Nat => Value.string (bs (fileL ((({ s with down := true, calls := 0 } : Dk)).d f).data.toList (kept keep s.pend) f)))) by rw [HRG.out]; exact HO5.out), HB5.out⟩
        case measure => simp [intOf]; omega
      · obtain rfl : k = 8 := by omega
        have hrA := HO2.out.at_
        obtain ⟨lv, qv, kv, h2, hb2⟩ := hrA
        have h3 := h2.heap (w' := wr) (fun y hy _ => hB.block y hy)
        obtain ⟨e0, _, _, _, _, _, fz3⟩ := h3.cells
        have f0 := fz3 0
        obtain ⟨L, hL⟩ : ∃ L, (List.range 8).map (fun f : Nat => bs (fileL ((({ s with down := true, calls := 0 } : Dk)).d f).data.toList (kept keep s.pend) f)) = L := ⟨_, rfl⟩
        have hLm : (List.range 8).map (fun f : Nat => Value.string (bs (fileL ((({ s with down := true, calls := 0 } : Dk)).d f).data.toList (kept keep s.pend) f))) = L.map Value.string := by rw [← hL, List.map_map]; rfl
        have ho' : wr.ownsRow W2.heap.size 9 1 (.slice oA 8 ocap) 8 (L.map Value.string) := by rw [← hLm]; exact ho
        have hcr := Calm.crash HDF.out keep
        have hok : Dk.ok { s with down := true, calls := 0, dur := L } := by
          refine ⟨by rw [← hL]; simp, fun b hb => (HOKS.out.crash keep).ds b ?_, HOKS.out.ps, HOKS.out.pn, HOKS.out.kn, HOKS.out.lo, Nat.zero_le _⟩
          rw [hcr]
          rw [← hL] at hb
          exact hb
        have o3 := RAt.field (i := 0) (s' := { s with down := true, calls := 0, dur := L }) (x := .slice oA 8 ocap) (lv' := .slice oA 8 ocap) (qv' := qv) (kv' := kv) h2 hb2 (grown_below hB _) (own_mono0 ho') h3.q h3.kp (fun y hy => .inr (World.ownsRow.lt ho' y hy).1) (fun y hy => .inl hy) (fun y hy => .inl hy) rfl hok
        obtain ⟨lv4, qv4, kv4, h4, hb4⟩ := o3.at_
        obtain ⟨_, e1, _, _, _, _, fz4⟩ := h4.cells
        have f1 := fz4 1
        have o4 := RAt.field (i := 1) (s' := { s with down := true, calls := 0, dur := L, pend := [] }) (x := .slice none 0 0) (lv' := lv4) (qv' := .slice none 0 0) (kv' := kv4) h4 hb4 (grownR _ _) h4.lst (World.ownsRow_nil _ _ _ _) h4.kp (fun y hy => .inl hy) (fun y hy => by simp [Value.ownBlock] at hy) (fun y hy => .inl hy) rfl ⟨hok.dl, hok.ds, (fun p hp => by cases hp), Nat.zero_le _, hok.kn, hok.lo, hok.ca⟩
        have hst : s.rcrash keep = { s with down := true, calls := 0, dur := L, pend := [] } := by
          unfold Dk.rcrash
          rw [if_neg (by rw [HDF.out]; decide), hcr, ← hL]
          rfl
        have HF : Hid (CrPost B w db (s.rcrash keep) (.returned (.tuple #[])) ((wr.setCell ⟨db, 0, none⟩ (.slice oA 8 ocap)).setCell ⟨db, 1, none⟩ (.slice none 0 0))) := Lib.hid ⟨rfl, by rw [hst]; exact HO2.out.trans (o3.trans o4)⟩
        clear h2 hb2 h3 fz3 hL hLm ho ho' hcr hok o3 h4 hb4 fz4 o4 hst hB HO2 HR2
        go_wp2_with fail
        go_end0
        exact HF.out
end Go.Proofs.Ythdmcjiccbgknaa
