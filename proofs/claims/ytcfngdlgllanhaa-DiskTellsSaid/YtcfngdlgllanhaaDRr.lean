/-
  The reference of layer 6: read, may, fits, without.
-/
import Derived.Test.YtcfngdlgllanhaaDRm
import Derived.StillTailTactics
namespace Go.Proofs.Ytcfngdlgllanhaa
set_option linter.unusedVariables false
set_option linter.unusedSimpArgs false
open Go.RowKit

def RRdR (l : List Pc) (d : ByteArray) (F : Nat) (w : World) (x i : Value) (wl : World) : Prop := ∃ k : Nat, i = .int .i64 k ∧ k ≤ l.length ∧ x = .string (bs (fileL d.data.toList (l.take k) F)) ∧ Below w.heap.size w wl
def RRdPost (r : ByteArray) (w : World) (e : Ending) (w' : World) : Prop := e = .returned (.string r) ∧ Below w.heap.size w w'
set_option maxRecDepth 100000 in
set_option maxHeartbeats 4000000 in
theorem readR {B : Nat → Prop} {w : World} {db : Nat} {s : Dk} (h : RefAt B w db s) (F : Nat) (hF : F < 8) :
    Calls Try.prog 46 #[.pointer (some ⟨db, 0, none⟩), .int .i64 F] w (RRdPost (s.bytes F) w) := by
  obtain ⟨lv, qv, kv, h, _⟩ := h
  have hok := h.ok
  obtain ⟨c0, c1, _⟩ := h.cells
  obtain ⟨g, cap, rfl, hg, hgc⟩ := h.last
  have cf := (hgc F hF).1
  obtain ⟨A, qcap, rfl, _, _, hA⟩ := own_pcs h.q
  have hdb := h.bx.lt
  have hps := hok.ps
  have hpn := hok.pn
  have hdl := hok.d_le F
  have hbl := hok.bytes_le F
  have hby : s.bytes F = bs (fileL (s.d F).data.toList s.pend F) := rfl
  obtain ⟨r, hr⟩ : ∃ r, s.bytes F = r := ⟨_, rfl⟩
  obtain ⟨l, hl⟩ : ∃ l, s.pend = l := ⟨_, rfl⟩
  obtain ⟨d, hd⟩ : ∃ d, s.d F = d := ⟨_, rfl⟩
  rw [hr] at hby hbl
  rw [hr]
  rw [hl] at hby hA hps hpn c1
  rw [hd] at hby cf hdl
  have HPS := Lib.hid hps
  have HBY := Lib.hid hby
  have HBL := Lib.hid hbl
  have HC1 : Hid (∀ wl, Below w.heap.size w wl → wl.cell? ⟨db, 1, none⟩ = some (.slice A l.length qcap)) := Lib.hid (fun wl hb => (hb.cell (p := ⟨db, 1, none⟩) hdb).trans c1)
  have HD0 : Hid (bs (fileL d.data.toList (l.take 0) F) = d) := Lib.hid (by rw [List.take_zero, fileL_nil, bs_data])
  have q0 : (0 : Int) ≤ (F : Int) := by omega
  have q8 : (F : Int) < 8 := by omega
  have q9 : ((F : Int)).toNat = F := by omega
  clear h hok hgc hps hby hbl hr hl hd c1 hg
  go_enter Try.func46, Try.ntmps46
  go_wp2_with fail
  clear c0 cf
  go_loopw [5, 6] (fun x i wl => RRdR l d F w x i wl) (fun _ i _ => l.length - (intOf i).toNat)
  case atStart => exact ⟨0, rfl, by omega, by rw [HD0.out], Below.refl _ _⟩
  case round =>
    clear HD0
    obtain ⟨k, rfl, hk, rfl, hB⟩ := hrel
    have c1 := HC1.out wr hB
    obtain ⟨st, hst⟩ : ∃ st, bs (fileL d.data.toList (l.take k) F) = st := ⟨_, rfl⟩
    have HST := Lib.hid hst
    rw [hst]
    clear hst
    by_cases hlt : k < l.length
    · obtain ⟨b, rfl, hb, hc⟩ := hA (by omega)
      have c2 := (hB.cell (p := ⟨b, k * 3, none⟩) hb).trans (hc k hlt).1
      have c3 := (hB.cell (p := ⟨b, k * 3 + 1, none⟩) hb).trans (hc k hlt).2.1
      have c4 := (hB.cell (p := ⟨b, k * 3 + 2, none⟩) hb).trans (hc k hlt).2.2
      have HP := HPS.out (gp l k) (by rw [gp_get l k hlt]; exact List.getElem_mem hlt)
      have HSN := Lib.hid (fileL_snoc d.data.toList l F k hlt)
      have hle := fileL_take_le d.data.toList l F k
      have hstz : st.size ≤ 16777216 := by
        rw [← HST.out, bs_size]
        have := HBL.out
        rw [HBY.out, bs_size] at this
        omega
      obtain ⟨xf, hxf⟩ : ∃ n, (gp l k).f = n := ⟨_, rfl⟩
      obtain ⟨xa, hxa⟩ : ∃ n, (gp l k).a = n := ⟨_, rfl⟩
      obtain ⟨xt, hxt⟩ : ∃ n, (gp l k).t = n := ⟨_, rfl⟩
      rw [hxf] at c2 HSN
      rw [hxa] at c3 HSN HP
      rw [hxt] at c4 HP
      rw [show (gp l k).l = xt.data.toList by unfold Pc.l; rw [hxt]] at HSN
      have q1 : (k : Int) < l.length := by omega
      have HPT := Lib.hid (putP st xa xt wr.drew hstz HP.2.1)
      have HBD := Lib.hid (hB.trans (Below.refl w.heap.size wr).drew)
      have HB := Lib.hid hB
      clear hA hc hxf hxa hxt HP hle hstz hB
      by_cases hf : xf = F
      · subst hf
        have HNX : Hid (bs (pput st.data.toList xa xt.data.toList) = bs (fileL d.data.toList (l.take (k + 1)) xf)) := Lib.hid (by rw [HSN.out, if_pos rfl, ← HST.out]; rfl)
        clear HSN
        go_wp2_with fail
        go_still_tail 17, (by kernel_rfl)
        change wpList _ _ _ _ _ wr.drew
        go_wp2_with fail
        refine HPT.out.mono ?_; rintro e w2 ⟨rfl, hB2⟩
        have HB2 := Lib.hid (HBD.out.trans (hB2.mono HBD.out.size))
        clear hB2 HPT
        go_wp2_with fail
        go_roundw
        case rel => exact ⟨k + 1, by go_num, by omega, by rw [← HNX.out], HB2.out⟩
        case measure => simp [intOf]; omega
      · have hq : ((xf : Int) == (F : Int)) = false := by simp; omega
        have hf2 : ¬ (xf : Int) = (F : Int) := by omega
        have HNX : Hid (st = bs (fileL d.data.toList (l.take (k + 1)) F)) := Lib.hid (by rw [HSN.out, if_neg hf, HST.out])
        clear HSN HPT
        go_wp2_with fail
        go_roundw
        case rel => exact ⟨k + 1, by go_num, by omega, by rw [← HNX.out], HB.out⟩
        case measure => simp [intOf]; omega
    · have HF : Hid (RRdPost r w (.returned (.string st)) wr) := Lib.hid ⟨by rw [HBY.out, ← HST.out, List.take_of_length_le (by omega)], hB⟩
      clear hA hB
      go_wp2_with fail
      go_ret
      exact HF.out
set_option maxHeartbeats 2000000 in
theorem mayR {B : Nat → Prop} {w : World} {db : Nat} {s : Dk} (h : RefAt B w db s) (f : Int) :
    Calls Try.prog 48 #[.pointer (some ⟨db, 0, none⟩), .int .i64 f] w fun e w' => e = .returned (.int .i64 (s.chk f)) ∧ w = w' := by
  obtain ⟨lv, qv, kv, h, _⟩ := h
  obtain ⟨_, _, _, c3, _⟩ := h.cells
  have HZ : Hid (s.chk f = if s.down = true then 10 else if isF f = false then 1 else 0) := rfl
  generalize s.chk f = Z at *
  clear h
  cases hd : s.down with
  | true =>
    have HF : Hid (Z = 10) := Lib.hid (by rw [HZ.out, if_pos hd])
    rw [hd] at c3
    clear HZ hd
    go_enter Try.func48, Try.ntmps48
    go_wp2_with fail
    go_ret
    exact ⟨by rw [HF.out]; rfl, rfl⟩
  | false =>
    rw [hd] at c3 HZ
    have HZ2 : Hid (Z = if isF f = false then 1 else 0) := HZ.out
    clear HZ hd
    by_cases h1 : f < 0
    · have HF : Hid (Z = 1) := Lib.hid (by rw [HZ2.out, if_pos (show isF f = false from decide_eq_false (by omega))])
      have d1 : decide (f < 0) = true := decide_eq_true h1
      clear HZ2
      go_enter Try.func48, Try.ntmps48
      go_wp2_with fail
      go_ret
      exact ⟨by rw [HF.out]; rfl, rfl⟩
    · have d1 : decide (f < 0) = false := decide_eq_false h1
      by_cases h2 : 7 < f
      · have HF : Hid (Z = 1) := Lib.hid (by rw [HZ2.out, if_pos (show isF f = false from decide_eq_false (by omega))])
        have d2 : decide (7 < f) = true := decide_eq_true h2
        have d3 : decide (f > 7) = true := decide_eq_true h2
        clear HZ2
        go_enter Try.func48, Try.ntmps48
        go_wp2_with fail
        go_ret
        exact ⟨by rw [HF.out]; rfl, rfl⟩
      · have HF : Hid (Z = 0) := Lib.hid (by rw [HZ2.out, if_neg (by unfold isF; rw [decide_eq_true (by omega)]; decide)])
        have d2 : decide (7 < f) = false := decide_eq_false h2
        have d3 : decide (f > 7) = false := decide_eq_false h2
        clear HZ2
        go_enter Try.func48, Try.ntmps48
        go_wp2_with fail
        go_ret
        exact ⟨by rw [HF.out]; rfl, rfl⟩
set_option maxHeartbeats 2000000 in
theorem fitsR (a : Int) (t : ByteArray) (w : World) (ht : t.size ≤ 1000000) :
    Calls Try.prog 54 #[.int .i64 a, .string t] w fun e w' => e = .returned (.bool (decide (0 ≤ a ∧ a + t.size ≤ 16777216))) ∧ w = w' := by
  obtain ⟨Z, hZ⟩ : ∃ Z, decide (0 ≤ a ∧ a + (t.size : Int) ≤ 16777216) = Z := ⟨_, rfl⟩
  have HZ := Lib.hid hZ
  rw [hZ]
  clear hZ
  by_cases h1 : 0 ≤ a
  · have d1 : decide (0 ≤ a) = true := decide_eq_true h1
    have d1' : decide (a ≥ 0) = true := decide_eq_true h1
    by_cases h2 : a ≤ 16777216
    · have d2 : decide (a ≤ 16777216) = true := decide_eq_true h2
      by_cases h3 : a + (t.size : Int) ≤ 16777216
      · have d3 : decide (a + (t.size : Int) ≤ 16777216) = true := decide_eq_true h3
        have hF : Z = true := by rw [← HZ.out]; exact decide_eq_true ⟨h1, h3⟩
        subst hF
        go_enter Try.func54, Try.ntmps54
        go_wp2_with fail
        go_ret
        exact ⟨rfl, rfl⟩
      · have d3 : decide (a + (t.size : Int) ≤ 16777216) = false := decide_eq_false h3
        have hF : Z = false := by rw [← HZ.out]; exact decide_eq_false (fun h => h3 h.2)
        subst hF
        go_enter Try.func54, Try.ntmps54
        go_wp2_with fail
        go_ret
        exact ⟨rfl, rfl⟩
    · have d2 : decide (a ≤ 16777216) = false := decide_eq_false h2
      have hF : Z = false := by rw [← HZ.out]; exact decide_eq_false (fun h => by omega)
      subst hF
      go_enter Try.func54, Try.ntmps54
      go_wp2_with fail
      go_ret
      exact ⟨rfl, rfl⟩
  · have d1 : decide (0 ≤ a) = false := decide_eq_false h1
    have d1' : decide (a ≥ 0) = false := decide_eq_false h1
    have hF : Z = false := by rw [← HZ.out]; exact decide_eq_false (fun h => h1 h.1)
    subst hF
    go_enter Try.func54, Try.ntmps54
    go_wp2_with fail
    go_ret
    exact ⟨rfl, rfl⟩
set_option maxRecDepth 100000 in
theorem pushQ (W : World) (base : Nat) (u : Value) (L : List Pc) (p : Pc) (ho : W.ownsRow base 74 3 u L.length (pc L)) (hb : base ≤ W.heap.size) (hl : L.length ≤ 1000000) :
    ∃ g' cap' w3, (Builtin.append_ #[54, 54] 54 #[u, .slice (some ⟨W.heap.size, 0, none⟩) 1 1]).run Try.prog (W.alloc (.cells #[.int .i64 p.f, .int .i64 p.a, .string p.t] 74)) = .ok (.slice (some ⟨g', 0, none⟩) (L.length + 1) cap') w3 ∧
      w3.ownsRow base 74 3 (.slice (some ⟨g', 0, none⟩) (L.length + 1) cap') (L ++ [p]).length (pc (L ++ [p])) ∧ (W.alloc (.cells #[.int .i64 p.f, .int .i64 p.a, .string p.t] 74)).grownBy w3 u.ownBlock ∧ (u.ownBlock = some g' ∨ W.heap.size ≤ g') := by
  obtain ⟨i0, hi, hz0, hz1, hz2⟩ := info_parts infoRP
  have hbk := Blk.new W 74 #[.int .i64 p.f, .int .i64 p.a, .string p.t]
  obtain ⟨v', w3, hrun, ho3, hg3, _, hw⟩ := run_append_own_at (P := Try.prog) (W.alloc (.cells #[.int .i64 p.f, .int .i64 p.a, .string p.t] 74)) base 54 54 74 i0 (.agg #[.int .i64 0, .int .i64 0, .string (bs [])]) 3 32 Try.underlying54 hi hz0 hz1 hz2 rfl (by decide) _ _ _ (ho.alloc _) ⟨W.heap.size, 0, none⟩ 1 1 (pc [p]) rfl (fun j y hy => by
    rw [Addr.add_lit, Nat.zero_add, hbk.cell]
    rw [← hy]
    match j with
    | 0 => rfl
    | 1 => rfl
    | 2 => rfl
    | j + 3 => simp [pc]) (pc_one _) (by unfold maxLen; omega) (by omega) (by simp; omega)
  obtain ⟨g', cap', rfl⟩ := (show ∃ g cap, v' = .slice (some ⟨g, 0, none⟩) (L.length + 1) cap by
    rcases ho3.2 with ⟨_, h0⟩ | ⟨g, cap, cur, hv, _⟩
    · omega
    · exact ⟨g, cap, hv⟩)
  refine ⟨g', cap', w3, hrun, by rw [List.length_append, pc_append]; exact ho3, hg3, ?_⟩
  rcases hw with hw | hw
  · exact .inl hw.symm
  · right
    simp [Value.ownBlock] at hw
    omega
def RWoR (l : List Pc) (F : Nat) (w : World) (o i : Value) (wl : World) : Prop := ∃ k : Nat, i = .int .i64 k ∧ k ≤ l.length ∧ wl.ownsRow w.heap.size 74 3 o ((l.take k).filter fun p => !decide (p.f = F)).length (pc ((l.take k).filter fun p => !decide (p.f = F))) ∧ Below w.heap.size w wl
def RWoPost (l : List Pc) (w : World) (e : Ending) (w' : World) : Prop := ∃ u, e = .returned u ∧ w'.ownsRow w.heap.size 74 3 u l.length (pc l) ∧ Below w.heap.size w w'
set_option maxRecDepth 100000 in
set_option maxHeartbeats 4000000 in
theorem withoutR {B : Nat → Prop} {w : World} {db : Nat} {s : Dk} (h : RefAt B w db s) (F : Nat) :
    Calls Try.prog 56 #[.pointer (some ⟨db, 0, none⟩), .int .i64 F] w (RWoPost (s.pend.filter fun p => !decide (p.f = F)) w) := by
  obtain ⟨lv, qv, kv, h, _⟩ := h
  have hok := h.ok
  obtain ⟨c0, c1, _⟩ := h.cells
  obtain ⟨A, qcap, rfl, _, _, hA⟩ := own_pcs h.q
  have hdb := h.bx.lt
  have hpn := hok.pn
  obtain ⟨l, hl⟩ : ∃ l, s.pend = l := ⟨_, rfl⟩
  rw [hl] at hA hpn c1 ⊢
  have HC1 : Hid (∀ wl, Below w.heap.size w wl → wl.cell? ⟨db, 1, none⟩ = some (.slice A l.length qcap)) := Lib.hid (fun wl hb => (hb.cell (p := ⟨db, 1, none⟩) hdb).trans c1)
  clear h hok hl c1 c0
  go_enter Try.func56, Try.ntmps56
  go_wp2_with fail
  go_loopw [5, 6] (fun o i wl => RWoR l F w o i wl) (fun _ i _ => l.length - (intOf i).toNat)
  case atStart => exact ⟨0, rfl, by omega, World.ownsRow_nil _ _ _ _, Below.refl _ _⟩
  case round =>
    obtain ⟨k, rfl, hk, ho, hB⟩ := hrel
    have c1 := HC1.out wr hB
    obtain ⟨uA, ucap, rfl, _⟩ := own_pcs ho
    by_cases hlt : k < l.length
    · obtain ⟨b, rfl, hb, hc⟩ := hA (by omega)
      have c2 := (hB.cell (p := ⟨b, k * 3, none⟩) hb).trans (hc k hlt).1
      have c3 := (hB.cell (p := ⟨b, k * 3 + 1, none⟩) hb).trans (hc k hlt).2.1
      have c4 := (hB.cell (p := ⟨b, k * 3 + 2, none⟩) hb).trans (hc k hlt).2.2
      have hfl : (l.take (k + 1)).filter (fun p => !decide (p.f = F)) = (l.take k).filter (fun p => !decide (p.f = F)) ++ if (gp l k).f = F then [] else [gp l k] := by
        rw [take_gp l k hlt, List.filter_append]
        congr 1
        by_cases hf : (gp l k).f = F
        · rw [if_pos hf, List.filter_cons_of_neg (by simp [hf])]; rfl
        · rw [if_neg hf, List.filter_cons_of_pos (by simp [hf])]; rfl
      have hflen := List.length_filter_le (fun p => !decide (p.f = F)) (l.take k)
      rw [List.length_take] at hflen
      obtain ⟨L, hL⟩ : ∃ L, (l.take k).filter (fun p => !decide (p.f = F)) = L := ⟨_, rfl⟩
      rw [hL] at ho hfl hflen
      rw [hL]
      have HFL := Lib.hid hfl
      obtain ⟨p, hp⟩ : ∃ p, gp l k = p := ⟨_, rfl⟩
      rw [hp] at c2 c3 c4 HFL
      have q1 : (k : Int) < l.length := by omega
      have hl1 : L.length ≤ 1000000 := by omega
      obtain ⟨g', cap', w3, hrun, ho3, hg3, _⟩ := pushQ wr w.heap.size _ L p ho hB.size hl1
      have HRUN := Lib.hid hrun
      have HO3 := Lib.hid ho3
      have HO := Lib.hid ho
      have HB := Lib.hid hB
      have HB3 : Hid (Below w.heap.size w w3) := Lib.hid ((hB.trans ((below_new wr (.cells #[.int .i64 p.f, .int .i64 p.a, .string p.t] 74)).mono hB.size)).trans ((Below.refl w.heap.size _).grown hg3 (by have := hB.size; simp; omega) (fun j hj => (World.ownsRow.lt ho j hj).1)))
      obtain ⟨pf, hpf⟩ : ∃ n, p.f = n := ⟨_, rfl⟩
      obtain ⟨pa, hpa⟩ : ∃ n, p.a = n := ⟨_, rfl⟩
      obtain ⟨pt, hpt⟩ : ∃ n, p.t = n := ⟨_, rfl⟩
      rw [hpf] at c2 HRUN
      rw [hpa] at c3 HRUN
      rw [hpt] at c4 HRUN
      have HPF := Lib.hid hpf
      clear hA hc hrun ho3 hg3 ho hB hfl hL hp hpf hpa hpt
      by_cases hf : pf = F
      · subst hf
        have HN : Hid ((l.take (k + 1)).filter (fun p => !decide (p.f = pf)) = L) := Lib.hid (by rw [HFL.out, if_pos HPF.out, List.append_nil])
        clear HFL
        go_wp2_with fail
        go_roundw
        case rel => exact ⟨k + 1, by go_num, by omega, by rw [HN.out]; exact HO.out, HB.out⟩
        case measure => simp [intOf]; omega
      · have hq : ((pf : Int) == (F : Int)) = false := by simp; omega
        have hq2 : ((pf : Int) != (F : Int)) = true := by simp; omega
        have hf2 : ¬ (pf : Int) = (F : Int) := by omega
        have HN : Hid ((l.take (k + 1)).filter (fun p => !decide (p.f = F)) = L ++ [p]) := Lib.hid (by rw [HFL.out, if_neg (by rw [HPF.out]; exact hf)])
        clear HFL
        go_wp2_with (at_builtin; refine Lib.wpList_append_run_sl _ rfl _ _ 54 rfl _ _ rfl rfl HRUN.out ?_)
        go_roundw
        case rel => exact ⟨k + 1, by go_num, by omega, by rw [HN.out]; exact HO3.out, HB3.out⟩
        case measure => simp [intOf]; omega
    · rw [List.take_of_length_le (by omega)] at ho
      have e : (List.take k l) = l := List.take_of_length_le (by omega)
      rw [e]
      have HF : Hid (RWoPost (l.filter fun p => !decide (p.f = F)) w (.returned (.slice uA (l.filter fun p => !decide (p.f = F)).length ucap)) wr) := Lib.hid ⟨_, rfl, ho, hB⟩
      clear hA ho hB e
      go_wp2_with fail
      go_ret
      exact HF.out
end Go.Proofs.Ytcfngdlgllanhaa
