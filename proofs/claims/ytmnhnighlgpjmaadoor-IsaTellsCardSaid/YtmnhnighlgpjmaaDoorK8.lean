/-
  The reference of isa: Parse.
-/
import Derived.Test.YtmnhnighlgpjmaaDoorK4
import Derived.Test.YtmnhnighlgpjmaaDoorK5
import Derived.StillTailTactics
namespace Go.Proofs.YtmnhnighlgpjmaaDoor
set_option linter.unusedVariables false
set_option linter.unusedSimpArgs false
open Go.RowKit

/-- Where the word that begins at an offset ends. -/
def endN (l : List UInt8) (p : Nat) : Nat := p + ((l.drop p).takeWhile (!isBl ·)).length
theorem end_on {l : List UInt8} {p : Nat} {u : UInt8} (h : l[p]? = some u) (hb : isBl u = false) : endN l p = endN l (p + 1) := by
  unfold endN
  rw [drop_at h, List.takeWhile_cons_of_pos (by rw [hb]; rfl), List.length_cons]
  omega
theorem end_stop {l : List UInt8} {p : Nat} {u : UInt8} (h : l[p]? = some u) (hb : isBl u = true) : endN l p = p := by
  unfold endN
  rw [drop_at h, List.takeWhile_cons_of_neg (by rw [hb]; decide)]
  rfl
theorem end_end {l : List UInt8} {p : Nat} (h : l.length ≤ p) : endN l p = p := by
  unfold endN
  rw [List.drop_eq_nil_of_le h]; rfl
theorem skip_drop (l : List UInt8) (p : Nat) : l.drop (skipN l p) = dB (l.drop p) := by
  unfold skipN dB
  rw [← List.drop_drop, drop_word]
theorem skip_le {l : List UInt8} {p : Nat} (h : p ≤ l.length) : p ≤ skipN l p ∧ skipN l p ≤ l.length := by
  unfold skipN
  have := congrArg List.length (List.takeWhile_append_dropWhile (p := isBl) (l := l.drop p))
  rw [List.length_append, List.length_drop] at this
  omega
theorem end_le {l : List UInt8} {p : Nat} (h : p ≤ l.length) : p ≤ endN l p ∧ endN l p ≤ l.length := by
  unfold endN
  have := congrArg List.length (List.takeWhile_append_dropWhile (p := (!isBl ·)) (l := l.drop p))
  rw [List.length_append, List.length_drop] at this
  omega
theorem word_extract (s : ByteArray) (p : Nat) : (s.extract p (endN s.data.toList p)).data.toList = (s.data.toList.drop p).takeWhile (!isBl ·) := by
  rw [W1.extract_list]
  unfold endN
  rw [List.drop_take, Nat.add_sub_cancel_left, take_word]
theorem end_drop (l : List UInt8) (p : Nat) : l.drop (endN l p) = (l.drop p).dropWhile (!isBl ·) := by
  unfold endN
  rw [← List.drop_drop, drop_word]
theorem rGo_none {f : Nat} {fs : List Nat} {r : List UInt8} {v : Ins} (h : rOpd f r = none) : rGo (f :: fs) r v = none := by
  unfold rGo; rw [h]
theorem rGo_some {f : Nat} {fs : List Nat} {r : List UInt8} {v : Ins} {n : Int} {q : Nat} (h : rOpd f r = some (n, q)) : rGo (f :: fs) r v = if fs = [] then (if dB (r.drop q) = [] then some (setF v f n) else none) else if (dB (r.drop q)).head? = some 44 then rGo fs (dB (dB (r.drop q)).tail) (setF v f n) else none := by
  rw [rGo, h]
/-- What Parse answers behind the operands. -/
def finN (g : Option Ins) : Ins × Int := match g with
  | none => (Ins.zero, 2)
  | some v => if rightB v then (v, 0) else (Ins.zero, 6)
theorem refN_zero {l : List UInt8} (h : opOf ((dB l).takeWhile (!isBl ·)) = 0) : refN l = (Ins.zero, 2) := by unfold refN; rw [if_pos h]
theorem refN_fin {l : List UInt8} {o : Nat} (h : opOf ((dB l).takeWhile (!isBl ·)) = o) (h0 : o ≠ 0) : refN l = finN (rGo (fields (opsN o)) (dB ((dB l).dropWhile (!isBl ·))) { Ins.zero with op := (o : Nat) }) := by
  unfold refN; rw [h, if_neg h0]; rfl
def PsPost (v : Ins × Int) (w : World) (e : Ending) (w' : World) : Prop := e = .returned (.tuple #[insV v.1, .int .i64 v.2]) ∧ Below w.heap.size w w'
/-- The box of the result, all zeros, and the box of the instruction. -/
structure PBox (w wl : World) (ib : Nat) (v : Ins) : Prop where
  res : wl.heap[w.heap.size]? = some (.cells #[.int .i64 0, .int .i64 0, .int .i64 0, .int .i64 0, .int .i64 0] 23)
  cur : wl.heap[ib]? = some (.cells #[.int .i64 v.op, .int .i64 v.a, .int .i64 v.b, .int .i64 v.c, .int .i64 v.m] 23)
  bel : Below w.heap.size w wl
  ne : w.heap.size < ib
theorem PBox.lt {w wl : World} {ib : Nat} {v : Ins} (h : PBox w wl ib v) : ib < wl.heap.size := (Array.getElem?_eq_some_iff.1 h.cur).1
theorem PBox.keep {w wl w' : World} {ib : Nat} {v : Ins} (h : PBox w wl ib v) (hb : Below wl.heap.size wl w') : PBox w w' ib v := by
  have h1 := h.lt
  have h2 := h.ne
  exact ⟨(hb.block _ (by omega)).trans h.res, (hb.block _ h1).trans h.cur, h.bel.trans (hb.mono (by omega)), h.ne⟩
theorem PBox.drew {w wl : World} {ib : Nat} {v : Ins} (h : PBox w wl ib v) : PBox w wl.drew ib v := h.keep (Below.refl _ _).drew
theorem PBox.put {w wl : World} {ib : Nat} {v : Ins} (h : PBox w wl ib v) (u : Ins) :
    PBox w (((((wl.setCell ⟨ib, 0, none⟩ (.int .i64 u.op)).setCell ⟨ib, 1, none⟩ (.int .i64 u.a)).setCell ⟨ib, 2, none⟩ (.int .i64 u.b)).setCell ⟨ib, 3, none⟩ (.int .i64 u.c)).setCell ⟨ib, 4, none⟩ (.int .i64 u.m)) ib u := by
  have h2 := h.ne
  refine ⟨?_, set5 h.cur _ _ _ _ _, ((((h.bel.setCell (by simp; omega) _).setCell (by simp; omega) _).setCell (by simp; omega) _).setCell (by simp; omega) _).setCell (by simp; omega) _, h.ne⟩
  rw [setCell_else (by omega), setCell_else (by omega), setCell_else (by omega), setCell_else (by omega), setCell_else (by omega)]
  exact h.res
theorem opd_first : ∀ o, o < 31 → ∀ k, (opdL o)[0]? = some k → k ≠ o := by decide +kernel
theorem IRow.put {w : World} {v : Value} {l : List Nat} {ib : Nat} (h : IRow w v l) (hne : 0 < l.length → ∀ g n c, v = .slice (some ⟨g, 0, none⟩) n c → g ≠ ib) (x0 x1 x2 x3 x4 : Value) :
    IRow (((((w.setCell ⟨ib, 0, none⟩ x0).setCell ⟨ib, 1, none⟩ x1).setCell ⟨ib, 2, none⟩ x2).setCell ⟨ib, 3, none⟩ x3).setCell ⟨ib, 4, none⟩ x4) v l := by
  obtain ⟨A, cap, hv, h1, h2, hA⟩ := h
  refine ⟨A, cap, hv, h1, h2, fun h0 => ?_⟩
  obtain ⟨g, hg, hl, hc⟩ := hA h0
  have hn := hne h0 g _ _ (by rw [hv, hg])
  refine ⟨g, hg, by simp; omega, fun i hi => ?_⟩
  refine (World.cell?_of_block ?_).trans (hc i hi)
  rw [setCell_else hn, setCell_else hn, setCell_else hn, setCell_else hn, setCell_else hn]
def PsRel (L : List UInt8) (F : List Nat) (o q : Nat) (G : Option Ins) (vl : Value) (w : World) (ib : Nat) (x y : Value) (wl : World) : Prop :=
  ∃ (k p : Nat) (v : Ins), k ≤ q ∧ y = .int .i64 k ∧ p ≤ L.length ∧ x = .int .i64 p ∧ rGo (F.drop k) (L.drop p) v = G ∧ PBox w wl ib v ∧ IRow wl vl (opdL o)
set_option maxRecDepth 100000 in
set_option maxHeartbeats 0 in
theorem rParseP (s : ByteArray) (w : World) (hs : s.size ≤ 300) : Calls Tryd.prog 10 #[.string s] w (PsPost (refN s.data.toList) w) := by
  have HZ := Lib.hid (show s.data.toList.length = s.size by simp)
  obtain ⟨ans, hans⟩ : ∃ a, refN s.data.toList = a := ⟨_, rfl⟩
  rw [hans]
  have HANS := Lib.hid hans
  clear hans
  have hs1 : s.size ≤ 1000000 := by omega
  have hsk := skip_le (l := s.data.toList) (p := 0) (Nat.zero_le _)
  have HD0 := Lib.hid (skip_drop s.data.toList 0)
  have HSK := Lib.hid (fun W => skipP s 0 W (Nat.zero_le _) hs1)
  rw [HZ.out] at hsk
  obtain ⟨p0, hp0⟩ : ∃ p, skipN s.data.toList 0 = p := ⟨_, rfl⟩
  rw [hp0] at hsk HD0 HSK
  have hp0s : p0 ≤ s.size := hsk.2
  have hen := end_le (l := s.data.toList) (p := p0) (by rw [HZ.out]; exact hp0s)
  have HED := Lib.hid (end_drop s.data.toList p0)
  have HWX := Lib.hid (word_extract s p0)
  rw [HZ.out] at hen
  obtain ⟨E, hE⟩ : ∃ e, endN s.data.toList p0 = e := ⟨_, rfl⟩
  rw [hE] at hen HED HWX
  have hpE : p0 ≤ E := hen.1
  have hEs : E ≤ s.size := hen.2
  rw [HD0.out, List.drop_zero] at HED HWX
  have HFN := Lib.hid (fun W => rFindP (s.extract p0 E) W)
  rw [HWX.out] at HFN
  have hoc := opOf_cases ((dB s.data.toList).takeWhile (!isBl ·))
  obtain ⟨op, hop⟩ : ∃ x, opOf ((dB s.data.toList).takeWhile (!isBl ·)) = x := ⟨_, rfl⟩
  rw [hop] at HFN hoc
  have HOP := Lib.hid hop
  have HEE := Lib.hid hE
  have HK0 := Lib.hid (block_new w (.cells #[.int .i64 0, .int .i64 0, .int .i64 0, .int .i64 0, .int .i64 0] 23))
  have HB0 := Lib.hid (below_new w (.cells #[.int .i64 0, .int .i64 0, .int .i64 0, .int .i64 0, .int .i64 0] 23))
  have HOC : Hid (op = 0 ∨ 1 ≤ op ∧ op < 31) := Lib.hid (by omega)
  have hpEi : (p0 : Int) ≤ E := by omega
  have hEsi : (E : Int) ≤ s.size := by omega
  clear hp0 hE hop hen hsk HD0 HWX hoc
  go_enter Tryd.func10, Tryd.ntmps10
  go_wp2_with fail
  refine (HSK.out _).mono ?_; rintro e w' ⟨rfl, rfl⟩
  go_wp2_with fail
  go_loop [5] (fun i => ∃ k : Nat, p0 ≤ k ∧ k ≤ s.size ∧ i = .int .i64 k ∧ endN s.data.toList k = E) (fun i => s.size - (intOf i).toNat)
  case atStart => exact ⟨p0, Nat.le_refl _, hp0s, rfl, HEE.out⟩
  case round =>
    obtain ⟨k, hpk, hk, rfl, hkE⟩ := hrel
    have HKE := Lib.hid hkE
    clear hkE
    by_cases hlt : k < s.size
    · have HE := Lib.hid (Lib.data_getElem? s k hlt)
      have hki : (k : Int) < s.size := by omega
      by_cases h32 : s[k].toNat = 32
      · have hb : ((s[k].toNat : Int) == 32) = true := by rw [h32]; rfl
        have hb2 : ((s[k].toNat : Int) != 32) = false := by rw [h32]; rfl
        obtain rfl : E = k := by rw [← HKE.out, end_stop HE.out (by rw [u8_eq h32 (by omega)]; decide)]
        clear HE h32 hpk hk
        go_wp2_with fail
        refine (HFN.out _).mono ?_; rintro e w1 ⟨rfl, hb⟩
        have HK1 := Lib.hid ((hb.block w.heap.size (by simp)).trans HK0.out)
        have HB1 := Lib.hid (HB0.out.trans (hb.mono (by simp)))
        have hlt1 : w.heap.size < w1.heap.size := (Array.getElem?_eq_some_iff.1 HK1.out).1
        clear hb
        by_cases hz : op = 0
        · subst hz
          have HV : Hid (ans = (Ins.zero, 2)) := Lib.hid (by rw [← HANS.out]; exact refN_zero HOP.out)
          have o0 := blk_cell HK1.out 0
          have o1 := blk_cell HK1.out 1
          have o2 := blk_cell HK1.out 2
          have o3 := blk_cell HK1.out 3
          have o4 := blk_cell HK1.out 4
          have f0 := blk_free HK1.out
          go_wp2_with fail
          have hr := set5_alloc HK1.out (.int .i64 0) (.int .i64 0) (.int .i64 0) (.int .i64 0) (.int .i64 0) (.cells #[.int .i64 0, .int .i64 0, .int .i64 0, .int .i64 0, .int .i64 0] 23)
          have r0 := blk_cell hr 0
          have r1 := blk_cell hr 1
          have r2 := blk_cell hr 2
          have r3 := blk_cell hr 3
          have r4 := blk_cell hr 4
          clear hr
          refine bodyPost_ret (v := .tuple #[.agg #[.int .i64 0, .int .i64 0, .int .i64 0, .int .i64 0, .int .i64 0], .int .i64 2]) (by simp [results, Tryd.results10, go_sem, r0, r1, r2, r3, r4]) rfl ⟨by rw [HV.out]; rfl, ?_⟩
          exact ((((((HB1.out.setCell (Nat.le_refl _) _).setCell (Nat.le_refl _) _).setCell (Nat.le_refl _) _).setCell (Nat.le_refl _) _).setCell (Nat.le_refl _) _)).alloc (by simp [World.size_setCell]; omega) _
        · have hop1 : 1 ≤ op ∧ op < 31 := by have := HOC.out; omega
          have hz' : ((op : Int) == 0) = false := by rw [beq_eq_false_iff_ne]; omega
          have HBOX : Hid (PBox w (w1.alloc (.cells #[.int .i64 op, .int .i64 0, .int .i64 0, .int .i64 0, .int .i64 0] 23)) w1.heap.size ⟨(op : Nat), 0, 0, 0, 0⟩) := Lib.hid
            ⟨by rw [Below.heap_alloc _ _ _ hlt1]; exact HK1.out, block_new w1 _, HB1.out.alloc HB1.out.size _, hlt1⟩
          have HQO := Lib.hid (fun W => operandsP op W hop1.1 (by omega))
          have HSE := Lib.hid (fun W => skipP s E W hEs hs1)
          have hsk2 := skip_le (l := s.data.toList) (p := E) (by rw [HZ.out]; exact hEs)
          have HDE := Lib.hid (skip_drop s.data.toList E)
          obtain ⟨p1, hp1⟩ : ∃ p, skipN s.data.toList E = p := ⟨_, rfl⟩
          rw [hp1] at HSE hsk2 HDE
          rw [HED.out] at HDE
          obtain ⟨G, hG⟩ : ∃ G, rGo (fields (opsN op)) (s.data.toList.drop p1) ⟨(op : Nat), 0, 0, 0, 0⟩ = G := ⟨_, rfl⟩
          have HGG := Lib.hid hG
          have HV : Hid (ans = finN G) := Lib.hid (by
            rw [← HANS.out, refN_fin HOP.out hz, ← HDE.out]
            exact congrArg finN hG)
          have hp1L := hsk2.2
          clear hp1 hsk2 hG hz
          go_wp2_with fail
          refine (HQO.out _).mono ?_; rintro e w2 ⟨vl, rfl, hrow, hb⟩
          have HP2 := Lib.hid (HBOX.out.keep hb)
          have HNI : Hid (0 < (opdL op).length → ∀ g n c, vl = .slice (some ⟨g, 0, none⟩) n c → g ≠ w1.heap.size) := Lib.hid (by
            intro h0 g n c hv e
            obtain ⟨A, cap, hv2, h1, h2, hA⟩ := id hrow
            rw [hv] at hv2
            injection hv2 with e1 e2 _
            obtain ⟨g2, hg2, _, hc⟩ := hA h0
            rw [← e1] at hg2
            injection hg2 with hg2
            injection hg2 with hg2 _ _
            have k1 := hc 0 h0
            have k2 : w2.cell? ⟨w1.heap.size, 0, none⟩ = some (.int .i64 op) := blk_cell HP2.out.cur 0
            rw [← hg2, e, k2] at k1
            have k3 : (op : Int) = ((opdL op)[0] : Nat) := by
              injection k1 with k1
              injection k1 with _ k1
            exact opd_first op hop1.2 _ (List.getElem?_eq_getElem h0) (by omega))
          obtain ⟨vA, vcap, hv, _⟩ := id hrow
          subst hv
          have hol : (opdL op).length = (fields (opsN op)).length := by unfold opdL fields; rw [List.length_map]
          have hq4 : (fields (opsN op)).length ≤ 4 := by unfold fields; exact Nat.le_trans (List.length_filter_le _ _) (by simp)
          obtain ⟨F, hF⟩ : ∃ F, fields (opsN op) = F := ⟨_, rfl⟩
          rw [hF] at hol hq4 HGG
          obtain ⟨q, hq⟩ : ∃ q, F.length = q := ⟨_, rfl⟩
          rw [hq] at hol hq4
          rw [hol] at hrow HNI ⊢
          have HOL := Lib.hid hol
          have HQ := Lib.hid hq
          have HF := Lib.hid hF
          have HR2 := Lib.hid hrow
          clear hb hrow hol hq hF HQO HBOX
          go_wp2_with fail
          refine (HSE.out _).mono ?_; rintro e w' ⟨rfl, rfl⟩
          go_wp2_with fail
          obtain ⟨ib, hib⟩ : ∃ ib, w1.heap.size = ib := ⟨_, rfl⟩
          rw [hib] at HP2 HNI ⊢
          clear hib hlt1
          go_loopw [4, 8] (fun x y wl => PsRel s.data.toList F op q G (.slice vA q vcap) w ib x y wl) (fun _ y _ => 6 - (intOf y).toNat)
          case atStart => exact ⟨0, p1, _, Nat.zero_le _, rfl, hp1L, rfl, HGG.out, HP2.out, HR2.out⟩
          case round =>
            clear HP2 HR2 HGG
            obtain ⟨k, p, v, hk, rfl, hp, rfl, hG, hP, hR⟩ := hrel
            obtain ⟨vo, va, vb, vc, vm⟩ := v
            have HG := Lib.hid hG
            have HP := Lib.hid hP
            have HR := Lib.hid hR
            have hps : p ≤ s.size := by rw [HZ.out] at hp; exact hp
            clear hG hP hR hp
            by_cases hlt : k < q
            · have hkF : k < F.length := by rw [HQ.out]; exact hlt
              have hdrop : F.drop k = F[k] :: F.drop (k + 1) := List.drop_eq_getElem_cons hkF
              obtain ⟨f, hf⟩ : ∃ f, F[k] = f := ⟨_, rfl⟩
              rw [hf] at hdrop
              obtain ⟨g, hg, hgs, c9⟩ := HR.out.at k (by rw [HOL.out]; exact hlt)
              subst hg
              have hF4 : f < 4 := by
                have hm : f ∈ fields (opsN op) := by rw [HF.out, ← hf]; exact List.getElem_mem hkF
                unfold fields at hm
                rw [List.mem_filter, List.mem_range] at hm
                exact hm.1
              have hkx : (opdL op)[k]'(by rw [HOL.out]; exact hlt) = f + 1 := by
                have e : opdL op = F.map (· + 1) := by rw [← HF.out]; rfl
                simp only [e, List.getElem_map, hf]
              rw [hkx] at c9
              obtain ⟨K, hK⟩ : ∃ K, f + 1 = K := ⟨_, rfl⟩
              rw [hK] at c9
              have hO := fun W => rOpdP s p K W hps hs1 (by omega)
              rw [show K - 1 = f by omega] at hO
              have hki : (k : Int) < q := by omega
              have HKK := Lib.hid hK
              have HDR := Lib.hid hdrop
              clear hf hkx hgs hdrop
              cases hro : rOpd f (s.data.toList.drop p) with
              | none =>
                have hans2 := opdAns_none hro
                have HO : Hid (∀ W, Calls Tryd.prog 26 #[.string s, .int .i64 p, .int .i64 K] W fun e w' => e = .returned (.tuple #[.int .i64 0, .int .i64 (-1)]) ∧ W = w') := Lib.hid (fun W => by
                  have := hO W
                  unfold OpdPost at this
                  rw [hans2] at this
                  exact this)
                have HVV : Hid (ans = (Ins.zero, 2)) := Lib.hid (by
                  rw [HV.out, ← HG.out, HDR.out, rGo_none hro]; rfl)
                have o0 := blk_cell HP.out.res 0
                have o1 := blk_cell HP.out.res 1
                have o2 := blk_cell HP.out.res 2
                have o3 := blk_cell HP.out.res 3
                have o4 := blk_cell HP.out.res 4
                have f0 := blk_free HP.out.res
                clear hO hans2 hro hK
                go_wp2_with fail
                refine (HO.out _).mono ?_; rintro e w' ⟨rfl, rfl⟩
                go_wp2_with fail
                have hr := set5 HP.out.res (.int .i64 0) (.int .i64 0) (.int .i64 0) (.int .i64 0) (.int .i64 0)
                have r0 := blk_cell hr 0
                have r1 := blk_cell hr 1
                have r2 := blk_cell hr 2
                have r3 := blk_cell hr 3
                have r4 := blk_cell hr 4
                clear hr
                refine bodyPost_ret (v := .tuple #[.agg #[.int .i64 0, .int .i64 0, .int .i64 0, .int .i64 0, .int .i64 0], .int .i64 2]) (by simp [results, Tryd.results10, go_sem, r0, r1, r2, r3, r4]) rfl ?_
                exact ⟨by rw [HVV.out]; rfl, ((((HP.out.bel.setCell (Nat.le_refl _) _).setCell (Nat.le_refl _) _).setCell (Nat.le_refl _) _).setCell (Nat.le_refl _) _).setCell (Nat.le_refl _) _⟩
              | some nq =>
                obtain ⟨n, qq⟩ := nq
                have hans2 := opdAns_some hro
                obtain ⟨hqq, hqq1, _, _⟩ := opd_back hro
                rw [List.length_drop, HZ.out] at hqq
                obtain ⟨E2, hE2⟩ : ∃ e, p + qq = e := ⟨_, rfl⟩
                rw [hE2] at hans2
                have hE2s : E2 ≤ s.size := by omega
                have HO : Hid (∀ W, Calls Tryd.prog 26 #[.string s, .int .i64 p, .int .i64 K] W fun e w' => e = .returned (.tuple #[.int .i64 n, .int .i64 E2]) ∧ W = w') := Lib.hid (fun W => by
                  have := hO W
                  unfold OpdPost at this
                  rw [hans2] at this
                  exact this)
                have dneg : decide ((E2 : Int) < 0) = false := decide_eq_false (by omega)
                obtain ⟨u, hu⟩ : ∃ u, setF ⟨vo, va, vb, vc, vm⟩ f n = u := ⟨_, rfl⟩
                have hgo := HG.out
                rw [HDR.out, rGo_some hro, List.drop_drop, hE2, hu] at hgo
                have hsd := skip_drop s.data.toList E2
                have hsl := skip_le (l := s.data.toList) (p := E2) (by rw [HZ.out]; exact hE2s)
                have HSK2 := Lib.hid (fun W => skipP s E2 W hE2s hs1)
                obtain ⟨p2, hp2⟩ : ∃ p, skipN s.data.toList E2 = p := ⟨_, rfl⟩
                rw [hp2] at hsd hsl HSK2
                rw [← hsd] at hgo
                have hp2s : p2 ≤ s.size := by rw [HZ.out] at hsl; exact hsl.2
                have HGO := Lib.hid hgo
                have HSET : Hid (∀ W, Calls Tryd.prog 27 #[.agg #[.int .i64 vo, .int .i64 va, .int .i64 vb, .int .i64 vc, .int .i64 vm], .int .i64 K, .int .i64 n] W fun e w' => e = .returned (.agg #[.int .i64 u.op, .int .i64 u.a, .int .i64 u.b, .int .i64 u.c, .int .i64 u.m]) ∧ Below W.heap.size W w') := Lib.hid (fun W => by
                  have := rSetP vo va vb vc vm n f W hF4
                  rw [HKK.out, hu] at this
                  exact this)
                have c0 := blk_cell HP.out.cur 0
                have c1 := blk_cell HP.out.cur 1
                have c2 := blk_cell HP.out.cur 2
                have c3 := blk_cell HP.out.cur 3
                have c4 := blk_cell HP.out.cur 4
                have g0 := blk_free HP.out.cur
                obtain ⟨uo, ua, ub, uc, um⟩ := u
                clear hO hans2 hro hK hE2 hu hgo hsd hsl hp2 hqq hqq1
                go_wp2_with fail
                refine (HO.out _).mono ?_; rintro e w' ⟨rfl, rfl⟩
                go_wp2_with fail
                go_still_tail 6, (by kernel_rfl)
                change wpList _ _ _ _ _ wr.drew
                go_wp2_with fail
                refine (HSET.out _).mono ?_; rintro e w4 ⟨rfl, hb⟩
                have HP4 := Lib.hid (HP.out.drew.keep hb)
                have HR4 := Lib.hid (HR.out.keep ((Below.refl _ _).drew.trans hb))
                clear hb c0 c1 c2 c3 c4 g0 c9 dneg HSET HO
                have c0 := blk_cell HP4.out.cur 0
                have c1 := blk_cell HP4.out.cur 1
                have c2 := blk_cell HP4.out.cur 2
                have c3 := blk_cell HP4.out.cur 3
                have c4 := blk_cell HP4.out.cur 4
                have g0 := blk_free HP4.out.cur
                have HP5 := Lib.hid (HP4.out.put ⟨uo, ua, ub, uc, um⟩)
                have HR5 := Lib.hid (HR4.out.put (by rw [HOL.out]; exact HNI.out) (.int .i64 uo) (.int .i64 ua) (.int .i64 ub) (.int .i64 uc) (.int .i64 um))
                go_wp2_with fail
                refine (HSK2.out _).mono ?_; rintro e w' ⟨rfl, rfl⟩
                generalize hW5 : (((((w4.setCell ⟨ib, 0, none⟩ (.int .i64 uo)).setCell ⟨ib, 1, none⟩ (.int .i64 ua)).setCell ⟨ib, 2, none⟩ (.int .i64 ub)).setCell ⟨ib, 3, none⟩ (.int .i64 uc)).setCell ⟨ib, 4, none⟩ (.int .i64 um)) = W5 at HP5 HR5 ⊢
                clear hW5 c0 c1 c2 c3 c4 g0 HP4 HR4
                obtain ⟨qm, hqm⟩ : ∃ x, q = x + 1 := ⟨q - 1, by omega⟩
                have hqi : (q : Int) - 1 = qm := by omega
                have HQM := Lib.hid hqm
                by_cases hkq : k < qm
                · have dk : decide ((k : Int) < qm) = true := decide_eq_true (by omega)
                  have dk' : decide (k < qm) = true := decide_eq_true hkq
                  have hne : F.drop (k + 1) ≠ [] := by
                    intro h
                    have := congrArg List.length h
                    rw [List.length_drop, HQ.out] at this
                    simp at this; omega
                  have HG3 : Hid ((if (s.data.toList.drop p2).head? = some 44 then rGo (F.drop (k + 1)) (dB (s.data.toList.drop p2).tail) ⟨uo, ua, ub, uc, um⟩ else none) = G) := Lib.hid (by
                    have := HGO.out
                    rw [if_neg hne] at this
                    exact this)
                  clear hqm hne
                  by_cases hpl : p2 < s.size
                  · have HE := Lib.hid (Lib.data_getElem? s p2 hpl)
                    have d2 : decide ((s.size : Int) ≤ p2) = false := decide_eq_false (by omega)
                    have d2' : decide (s.size ≤ p2) = false := decide_eq_false (by omega)
                    have hpli : (p2 : Int) < s.size := by omega
                    by_cases h44 : s[p2].toNat = 44
                    · have hb : ((s[p2].toNat : Int) != 44) = false := by rw [h44]; rfl
                      have hb2 : ((s[p2].toNat : Int) == 44) = true := by rw [h44]; rfl
                      obtain ⟨p3, hp3⟩ : ∃ x, p2 + 1 = x := ⟨_, rfl⟩
                      have hp3i : (p2 : Int) + 1 = p3 := by omega
                      have hp3s : p3 ≤ s.size := by omega
                      have HSK3 := Lib.hid (fun W => skipP s p3 W hp3s hs1)
                      have hsl := skip_le (l := s.data.toList) (p := p3) (by rw [HZ.out]; exact hp3s)
                      have HSD3 := Lib.hid (skip_drop s.data.toList p3)
                      obtain ⟨p4, hp4⟩ : ∃ p, skipN s.data.toList p3 = p := ⟨_, rfl⟩
                      rw [hp4] at HSK3 HSD3 hsl
                      have hp4L := hsl.2
                      have HG4 : Hid (rGo (F.drop (k + 1)) (s.data.toList.drop p4) ⟨uo, ua, ub, uc, um⟩ = G) := Lib.hid (by
                        have := HG3.out
                        rw [List.head?_drop, HE.out, if_pos (by rw [u8_eq h44 (by omega)]; rfl), List.tail_drop, hp3, ← HSD3.out] at this
                        exact this)
                      clear hp3 hp4 hsl h44
                      go_wp2_with fail
                      refine (HSK3.out _).mono ?_; rintro e w' ⟨rfl, rfl⟩
                      go_wp2_with fail
                      go_roundw
                      case rel => exact ⟨k + 1, p4, _, by omega, by go_num, hp4L, rfl, HG4.out, HP5.out, HR5.out⟩
                      case measure => simp [intOf]; omega
                    · have hb2 : ((s[p2].toNat : Int) == 44) = false := by rw [beq_eq_false_iff_ne]; omega
                      have hb : ((s[p2].toNat : Int) != 44) = true := by rw [bne, hb2]; rfl
                      have HVV : Hid (ans = (Ins.zero, 2)) := Lib.hid (by
                        rw [HV.out, ← HG3.out, if_neg (by
                          rw [List.head?_drop, HE.out]
                          intro h
                          injection h with h
                          exact h44 (by rw [h]; rfl))]; rfl)
                      have o0 := blk_cell HP5.out.res 0
                      have o1 := blk_cell HP5.out.res 1
                      have o2 := blk_cell HP5.out.res 2
                      have o3 := blk_cell HP5.out.res 3
                      have o4 := blk_cell HP5.out.res 4
                      have f0 := blk_free HP5.out.res
                      clear h44
                      go_wp2_with fail
                      have hr := set5 HP5.out.res (.int .i64 0) (.int .i64 0) (.int .i64 0) (.int .i64 0) (.int .i64 0)
                      have r0 := blk_cell hr 0
                      have r1 := blk_cell hr 1
                      have r2 := blk_cell hr 2
                      have r3 := blk_cell hr 3
                      have r4 := blk_cell hr 4
                      clear hr
                      refine bodyPost_ret (v := .tuple #[.agg #[.int .i64 0, .int .i64 0, .int .i64 0, .int .i64 0, .int .i64 0], .int .i64 2]) (by simp [results, Tryd.results10, go_sem, r0, r1, r2, r3, r4]) rfl ?_
                      exact ⟨by rw [HVV.out]; rfl, ((((HP5.out.bel.setCell (Nat.le_refl _) _).setCell (Nat.le_refl _) _).setCell (Nat.le_refl _) _).setCell (Nat.le_refl _) _).setCell (Nat.le_refl _) _⟩
                  · have d2 : decide ((s.size : Int) ≤ p2) = true := decide_eq_true (by omega)
                    have d2' : decide (s.size ≤ p2) = true := decide_eq_true (by omega)
                    have HVV : Hid (ans = (Ins.zero, 2)) := Lib.hid (by
                      rw [HV.out, ← HG3.out, if_neg (by
                        rw [List.head?_drop, List.getElem?_eq_none (by rw [HZ.out]; omega)]
                        simp)]; rfl)
                    have o0 := blk_cell HP5.out.res 0
                    have o1 := blk_cell HP5.out.res 1
                    have o2 := blk_cell HP5.out.res 2
                    have o3 := blk_cell HP5.out.res 3
                    have o4 := blk_cell HP5.out.res 4
                    have f0 := blk_free HP5.out.res
                    go_wp2_with fail
                    have hr := set5 HP5.out.res (.int .i64 0) (.int .i64 0) (.int .i64 0) (.int .i64 0) (.int .i64 0)
                    have r0 := blk_cell hr 0
                    have r1 := blk_cell hr 1
                    have r2 := blk_cell hr 2
                    have r3 := blk_cell hr 3
                    have r4 := blk_cell hr 4
                    clear hr
                    refine bodyPost_ret (v := .tuple #[.agg #[.int .i64 0, .int .i64 0, .int .i64 0, .int .i64 0, .int .i64 0], .int .i64 2]) (by simp [results, Tryd.results10, go_sem, r0, r1, r2, r3, r4]) rfl ?_
                    exact ⟨by rw [HVV.out]; rfl, ((((HP5.out.bel.setCell (Nat.le_refl _) _).setCell (Nat.le_refl _) _).setCell (Nat.le_refl _) _).setCell (Nat.le_refl _) _).setCell (Nat.le_refl _) _⟩
                · have dk : decide ((k : Int) < qm) = false := decide_eq_false (by omega)
                  have dk' : decide (k < qm) = false := decide_eq_false hkq
                  have hnil : F.drop (k + 1) = [] := List.drop_eq_nil_of_le (by rw [HQ.out]; omega)
                  have HG3 : Hid (rGo (F.drop (k + 1)) (s.data.toList.drop p2) ⟨uo, ua, ub, uc, um⟩ = G) := Lib.hid (by
                    have := HGO.out
                    rw [if_pos hnil] at this
                    rw [hnil]
                    exact this)
                  have hp2L : p2 ≤ s.data.toList.length := by rw [HZ.out]; exact hp2s
                  clear hqm hnil
                  go_wp2_with fail
                  go_roundw
                  case rel => exact ⟨k + 1, p2, _, by omega, by go_num, hp2L, rfl, HG3.out, HP5.out, HR5.out⟩
                  case measure => simp [intOf]; omega
            · obtain rfl : q = k := by omega
              have HG2 : Hid ((if s.data.toList.drop p = [] then some (⟨vo, va, vb, vc, vm⟩ : Ins) else none) = G) := Lib.hid (by
                have := HG.out
                rw [List.drop_eq_nil_of_le (by rw [HQ.out]; exact Nat.le_refl _)] at this
                exact this)
              by_cases hpe : p = s.size
              · have hpe' : ((p : Int) != s.size) = false := by
                  have : ((p : Int) == s.size) = true := by rw [beq_iff_eq]; omega
                  rw [bne, this]; rfl
                have HGV : Hid (G = some ⟨vo, va, vb, vc, vm⟩) := Lib.hid (by rw [← HG2.out, if_pos (List.drop_eq_nil_of_le (by rw [HZ.out]; omega))])
                have HRT := Lib.hid (fun W => rRightP vo va vb vc vm W)
                obtain ⟨yes, hyes⟩ : ∃ y, rightB ⟨vo, va, vb, vc, vm⟩ = y := ⟨_, rfl⟩
                rw [hyes] at HRT
                have HVV : Hid (ans = if yes then (⟨vo, va, vb, vc, vm⟩, 0) else (Ins.zero, 6)) := Lib.hid (by rw [HV.out, HGV.out]; unfold finN; simp only [hyes])
                have c0 := blk_cell HP.out.cur 0
                have c1 := blk_cell HP.out.cur 1
                have c2 := blk_cell HP.out.cur 2
                have c3 := blk_cell HP.out.cur 3
                have c4 := blk_cell HP.out.cur 4
                have g0 := blk_free HP.out.cur
                clear hyes hpe
                go_wp2_with fail
                refine (HRT.out _).mono ?_; rintro e w6 ⟨rfl, hb⟩
                have HP6 := Lib.hid (HP.out.keep hb)
                clear hb c0 c1 c2 c3 c4 g0 HRT
                have c0 := blk_cell HP6.out.cur 0
                have c1 := blk_cell HP6.out.cur 1
                have c2 := blk_cell HP6.out.cur 2
                have c3 := blk_cell HP6.out.cur 3
                have c4 := blk_cell HP6.out.cur 4
                have g0 := blk_free HP6.out.cur
                have o0 := blk_cell HP6.out.res 0
                have o1 := blk_cell HP6.out.res 1
                have o2 := blk_cell HP6.out.res 2
                have o3 := blk_cell HP6.out.res 3
                have o4 := blk_cell HP6.out.res 4
                have f0 := blk_free HP6.out.res
                cases yes
                · go_wp2_with fail
                  have hr := set5 HP6.out.res (.int .i64 0) (.int .i64 0) (.int .i64 0) (.int .i64 0) (.int .i64 0)
                  have r0 := blk_cell hr 0
                  have r1 := blk_cell hr 1
                  have r2 := blk_cell hr 2
                  have r3 := blk_cell hr 3
                  have r4 := blk_cell hr 4
                  clear hr
                  refine bodyPost_ret (v := .tuple #[.agg #[.int .i64 0, .int .i64 0, .int .i64 0, .int .i64 0, .int .i64 0], .int .i64 6]) (by simp [results, Tryd.results10, go_sem, r0, r1, r2, r3, r4]) rfl ?_
                  exact ⟨by rw [HVV.out]; rfl, ((((HP6.out.bel.setCell (Nat.le_refl _) _).setCell (Nat.le_refl _) _).setCell (Nat.le_refl _) _).setCell (Nat.le_refl _) _).setCell (Nat.le_refl _) _⟩
                · go_wp2_with fail
                  have hr := set5 HP6.out.res (.int .i64 vo) (.int .i64 va) (.int .i64 vb) (.int .i64 vc) (.int .i64 vm)
                  have r0 := blk_cell hr 0
                  have r1 := blk_cell hr 1
                  have r2 := blk_cell hr 2
                  have r3 := blk_cell hr 3
                  have r4 := blk_cell hr 4
                  clear hr
                  refine bodyPost_ret (v := .tuple #[.agg #[.int .i64 vo, .int .i64 va, .int .i64 vb, .int .i64 vc, .int .i64 vm], .int .i64 0]) (by simp [results, Tryd.results10, go_sem, r0, r1, r2, r3, r4]) rfl ?_
                  exact ⟨by rw [HVV.out]; rfl, ((((HP6.out.bel.setCell (Nat.le_refl _) _).setCell (Nat.le_refl _) _).setCell (Nat.le_refl _) _).setCell (Nat.le_refl _) _).setCell (Nat.le_refl _) _⟩
              · have hpe' : ((p : Int) != s.size) = true := by
                  have : ((p : Int) == s.size) = false := by rw [beq_eq_false_iff_ne]; omega
                  rw [bne, this]; rfl
                have HVV : Hid (ans = (Ins.zero, 2)) := Lib.hid (by
                  rw [HV.out, ← HG2.out, if_neg (by
                    intro h
                    have := congrArg List.length h
                    rw [List.length_drop, HZ.out] at this
                    simp at this; omega)]
                  rfl)
                have o0 := blk_cell HP.out.res 0
                have o1 := blk_cell HP.out.res 1
                have o2 := blk_cell HP.out.res 2
                have o3 := blk_cell HP.out.res 3
                have o4 := blk_cell HP.out.res 4
                have f0 := blk_free HP.out.res
                go_wp2_with fail
                have hr := set5 HP.out.res (.int .i64 0) (.int .i64 0) (.int .i64 0) (.int .i64 0) (.int .i64 0)
                have r0 := blk_cell hr 0
                have r1 := blk_cell hr 1
                have r2 := blk_cell hr 2
                have r3 := blk_cell hr 3
                have r4 := blk_cell hr 4
                clear hr
                refine bodyPost_ret (v := .tuple #[.agg #[.int .i64 0, .int .i64 0, .int .i64 0, .int .i64 0, .int .i64 0], .int .i64 2]) (by simp [results, Tryd.results10, go_sem, r0, r1, r2, r3, r4]) rfl ?_
                exact ⟨by rw [HVV.out]; rfl, ((((HP.out.bel.setCell (Nat.le_refl _) _).setCell (Nat.le_refl _) _).setCell (Nat.le_refl _) _).setCell (Nat.le_refl _) _).setCell (Nat.le_refl _) _⟩
      · have hb : ((s[k].toNat : Int) == 32) = false := by rw [beq_eq_false_iff_ne]; omega
        have hb2 : ((s[k].toNat : Int) != 32) = true := by rw [bne, hb]; rfl
        by_cases h9 : s[k].toNat = 9
        · have hb3 : ((s[k].toNat : Int) == 9) = true := by rw [h9]; rfl
          have hb4 : ((s[k].toNat : Int) != 9) = false := by rw [h9]; rfl
          obtain rfl : E = k := by rw [← HKE.out, end_stop HE.out (by rw [u8_eq h9 (by omega)]; decide)]
          clear HE h32 h9 hpk hk
          go_wp2_with fail
          refine (HFN.out _).mono ?_; rintro e w1 ⟨rfl, hb⟩
          have HK1 := Lib.hid ((hb.block w.heap.size (by simp)).trans HK0.out)
          have HB1 := Lib.hid (HB0.out.trans (hb.mono (by simp)))
          have hlt1 : w.heap.size < w1.heap.size := (Array.getElem?_eq_some_iff.1 HK1.out).1
          clear hb
          by_cases hz : op = 0
          · subst hz
            have HV : Hid (ans = (Ins.zero, 2)) := Lib.hid (by rw [← HANS.out]; exact refN_zero HOP.out)
            have o0 := blk_cell HK1.out 0
            have o1 := blk_cell HK1.out 1
            have o2 := blk_cell HK1.out 2
            have o3 := blk_cell HK1.out 3
            have o4 := blk_cell HK1.out 4
            have f0 := blk_free HK1.out
            go_wp2_with fail
            have hr := set5_alloc HK1.out (.int .i64 0) (.int .i64 0) (.int .i64 0) (.int .i64 0) (.int .i64 0) (.cells #[.int .i64 0, .int .i64 0, .int .i64 0, .int .i64 0, .int .i64 0] 23)
            have r0 := blk_cell hr 0
            have r1 := blk_cell hr 1
            have r2 := blk_cell hr 2
            have r3 := blk_cell hr 3
            have r4 := blk_cell hr 4
            clear hr
            refine bodyPost_ret (v := .tuple #[.agg #[.int .i64 0, .int .i64 0, .int .i64 0, .int .i64 0, .int .i64 0], .int .i64 2]) (by simp [results, Tryd.results10, go_sem, r0, r1, r2, r3, r4]) rfl ⟨by rw [HV.out]; rfl, ?_⟩
            exact ((((((HB1.out.setCell (Nat.le_refl _) _).setCell (Nat.le_refl _) _).setCell (Nat.le_refl _) _).setCell (Nat.le_refl _) _).setCell (Nat.le_refl _) _)).alloc (by simp [World.size_setCell]; omega) _
          · have hop1 : 1 ≤ op ∧ op < 31 := by have := HOC.out; omega
            have hz' : ((op : Int) == 0) = false := by rw [beq_eq_false_iff_ne]; omega
            have HBOX : Hid (PBox w (w1.alloc (.cells #[.int .i64 op, .int .i64 0, .int .i64 0, .int .i64 0, .int .i64 0] 23)) w1.heap.size ⟨(op : Nat), 0, 0, 0, 0⟩) := Lib.hid
              ⟨by rw [Below.heap_alloc _ _ _ hlt1]; exact HK1.out, block_new w1 _, HB1.out.alloc HB1.out.size _, hlt1⟩
            have HQO := Lib.hid (fun W => operandsP op W hop1.1 (by omega))
            have HSE := Lib.hid (fun W => skipP s E W hEs hs1)
            have hsk2 := skip_le (l := s.data.toList) (p := E) (by rw [HZ.out]; exact hEs)
            have HDE := Lib.hid (skip_drop s.data.toList E)
            obtain ⟨p1, hp1⟩ : ∃ p, skipN s.data.toList E = p := ⟨_, rfl⟩
            rw [hp1] at HSE hsk2 HDE
            rw [HED.out] at HDE
            obtain ⟨G, hG⟩ : ∃ G, rGo (fields (opsN op)) (s.data.toList.drop p1) ⟨(op : Nat), 0, 0, 0, 0⟩ = G := ⟨_, rfl⟩
            have HGG := Lib.hid hG
            have HV : Hid (ans = finN G) := Lib.hid (by
              rw [← HANS.out, refN_fin HOP.out hz, ← HDE.out]
              exact congrArg finN hG)
            have hp1L := hsk2.2
            clear hp1 hsk2 hG hz
            go_wp2_with fail
            refine (HQO.out _).mono ?_; rintro e w2 ⟨vl, rfl, hrow, hb⟩
            have HP2 := Lib.hid (HBOX.out.keep hb)
            have HNI : Hid (0 < (opdL op).length → ∀ g n c, vl = .slice (some ⟨g, 0, none⟩) n c → g ≠ w1.heap.size) := Lib.hid (by
              intro h0 g n c hv e
              obtain ⟨A, cap, hv2, h1, h2, hA⟩ := id hrow
              rw [hv] at hv2
              injection hv2 with e1 e2 _
              obtain ⟨g2, hg2, _, hc⟩ := hA h0
              rw [← e1] at hg2
              injection hg2 with hg2
              injection hg2 with hg2 _ _
              have k1 := hc 0 h0
              have k2 : w2.cell? ⟨w1.heap.size, 0, none⟩ = some (.int .i64 op) := blk_cell HP2.out.cur 0
              rw [← hg2, e, k2] at k1
              have k3 : (op : Int) = ((opdL op)[0] : Nat) := by
                injection k1 with k1
                injection k1 with _ k1
              exact opd_first op hop1.2 _ (List.getElem?_eq_getElem h0) (by omega))
            obtain ⟨vA, vcap, hv, _⟩ := id hrow
            subst hv
            have hol : (opdL op).length = (fields (opsN op)).length := by unfold opdL fields; rw [List.length_map]
            have hq4 : (fields (opsN op)).length ≤ 4 := by unfold fields; exact Nat.le_trans (List.length_filter_le _ _) (by simp)
            obtain ⟨F, hF⟩ : ∃ F, fields (opsN op) = F := ⟨_, rfl⟩
            rw [hF] at hol hq4 HGG
            obtain ⟨q, hq⟩ : ∃ q, F.length = q := ⟨_, rfl⟩
            rw [hq] at hol hq4
            rw [hol] at hrow HNI ⊢
            have HOL := Lib.hid hol
            have HQ := Lib.hid hq
            have HF := Lib.hid hF
            have HR2 := Lib.hid hrow
            clear hb hrow hol hq hF HQO HBOX
            go_wp2_with fail
            refine (HSE.out _).mono ?_; rintro e w' ⟨rfl, rfl⟩
            go_wp2_with fail
            obtain ⟨ib, hib⟩ : ∃ ib, w1.heap.size = ib := ⟨_, rfl⟩
            rw [hib] at HP2 HNI ⊢
            clear hib hlt1
            go_loopw [4, 8] (fun x y wl => PsRel s.data.toList F op q G (.slice vA q vcap) w ib x y wl) (fun _ y _ => 6 - (intOf y).toNat)
            case atStart => exact ⟨0, p1, _, Nat.zero_le _, rfl, hp1L, rfl, HGG.out, HP2.out, HR2.out⟩
            case round =>
              clear HP2 HR2 HGG
              obtain ⟨k, p, v, hk, rfl, hp, rfl, hG, hP, hR⟩ := hrel
              obtain ⟨vo, va, vb, vc, vm⟩ := v
              have HG := Lib.hid hG
              have HP := Lib.hid hP
              have HR := Lib.hid hR
              have hps : p ≤ s.size := by rw [HZ.out] at hp; exact hp
              clear hG hP hR hp
              by_cases hlt : k < q
              · have hkF : k < F.length := by rw [HQ.out]; exact hlt
                have hdrop : F.drop k = F[k] :: F.drop (k + 1) := List.drop_eq_getElem_cons hkF
                obtain ⟨f, hf⟩ : ∃ f, F[k] = f := ⟨_, rfl⟩
                rw [hf] at hdrop
                obtain ⟨g, hg, hgs, c9⟩ := HR.out.at k (by rw [HOL.out]; exact hlt)
                subst hg
                have hF4 : f < 4 := by
                  have hm : f ∈ fields (opsN op) := by rw [HF.out, ← hf]; exact List.getElem_mem hkF
                  unfold fields at hm
                  rw [List.mem_filter, List.mem_range] at hm
                  exact hm.1
                have hkx : (opdL op)[k]'(by rw [HOL.out]; exact hlt) = f + 1 := by
                  have e : opdL op = F.map (· + 1) := by rw [← HF.out]; rfl
                  simp only [e, List.getElem_map, hf]
                rw [hkx] at c9
                obtain ⟨K, hK⟩ : ∃ K, f + 1 = K := ⟨_, rfl⟩
                rw [hK] at c9
                have hO := fun W => rOpdP s p K W hps hs1 (by omega)
                rw [show K - 1 = f by omega] at hO
                have hki : (k : Int) < q := by omega
                have HKK := Lib.hid hK
                have HDR := Lib.hid hdrop
                clear hf hkx hgs hdrop
                cases hro : rOpd f (s.data.toList.drop p) with
                | none =>
                  have hans2 := opdAns_none hro
                  have HO : Hid (∀ W, Calls Tryd.prog 26 #[.string s, .int .i64 p, .int .i64 K] W fun e w' => e = .returned (.tuple #[.int .i64 0, .int .i64 (-1)]) ∧ W = w') := Lib.hid (fun W => by
                    have := hO W
                    unfold OpdPost at this
                    rw [hans2] at this
                    exact this)
                  have HVV : Hid (ans = (Ins.zero, 2)) := Lib.hid (by
                    rw [HV.out, ← HG.out, HDR.out, rGo_none hro]; rfl)
                  have o0 := blk_cell HP.out.res 0
                  have o1 := blk_cell HP.out.res 1
                  have o2 := blk_cell HP.out.res 2
                  have o3 := blk_cell HP.out.res 3
                  have o4 := blk_cell HP.out.res 4
                  have f0 := blk_free HP.out.res
                  clear hO hans2 hro hK
                  go_wp2_with fail
                  refine (HO.out _).mono ?_; rintro e w' ⟨rfl, rfl⟩
                  go_wp2_with fail
                  have hr := set5 HP.out.res (.int .i64 0) (.int .i64 0) (.int .i64 0) (.int .i64 0) (.int .i64 0)
                  have r0 := blk_cell hr 0
                  have r1 := blk_cell hr 1
                  have r2 := blk_cell hr 2
                  have r3 := blk_cell hr 3
                  have r4 := blk_cell hr 4
                  clear hr
                  refine bodyPost_ret (v := .tuple #[.agg #[.int .i64 0, .int .i64 0, .int .i64 0, .int .i64 0, .int .i64 0], .int .i64 2]) (by simp [results, Tryd.results10, go_sem, r0, r1, r2, r3, r4]) rfl ?_
                  exact ⟨by rw [HVV.out]; rfl, ((((HP.out.bel.setCell (Nat.le_refl _) _).setCell (Nat.le_refl _) _).setCell (Nat.le_refl _) _).setCell (Nat.le_refl _) _).setCell (Nat.le_refl _) _⟩
                | some nq =>
                  obtain ⟨n, qq⟩ := nq
                  have hans2 := opdAns_some hro
                  obtain ⟨hqq, hqq1, _, _⟩ := opd_back hro
                  rw [List.length_drop, HZ.out] at hqq
                  obtain ⟨E2, hE2⟩ : ∃ e, p + qq = e := ⟨_, rfl⟩
                  rw [hE2] at hans2
                  have hE2s : E2 ≤ s.size := by omega
                  have HO : Hid (∀ W, Calls Tryd.prog 26 #[.string s, .int .i64 p, .int .i64 K] W fun e w' => e = .returned (.tuple #[.int .i64 n, .int .i64 E2]) ∧ W = w') := Lib.hid (fun W => by
                    have := hO W
                    unfold OpdPost at this
                    rw [hans2] at this
                    exact this)
                  have dneg : decide ((E2 : Int) < 0) = false := decide_eq_false (by omega)
                  obtain ⟨u, hu⟩ : ∃ u, setF ⟨vo, va, vb, vc, vm⟩ f n = u := ⟨_, rfl⟩
                  have hgo := HG.out
                  rw [HDR.out, rGo_some hro, List.drop_drop, hE2, hu] at hgo
                  have hsd := skip_drop s.data.toList E2
                  have hsl := skip_le (l := s.data.toList) (p := E2) (by rw [HZ.out]; exact hE2s)
                  have HSK2 := Lib.hid (fun W => skipP s E2 W hE2s hs1)
                  obtain ⟨p2, hp2⟩ : ∃ p, skipN s.data.toList E2 = p := ⟨_, rfl⟩
                  rw [hp2] at hsd hsl HSK2
                  rw [← hsd] at hgo
                  have hp2s : p2 ≤ s.size := by rw [HZ.out] at hsl; exact hsl.2
                  have HGO := Lib.hid hgo
                  have HSET : Hid (∀ W, Calls Tryd.prog 27 #[.agg #[.int .i64 vo, .int .i64 va, .int .i64 vb, .int .i64 vc, .int .i64 vm], .int .i64 K, .int .i64 n] W fun e w' => e = .returned (.agg #[.int .i64 u.op, .int .i64 u.a, .int .i64 u.b, .int .i64 u.c, .int .i64 u.m]) ∧ Below W.heap.size W w') := Lib.hid (fun W => by
                    have := rSetP vo va vb vc vm n f W hF4
                    rw [HKK.out, hu] at this
                    exact this)
                  have c0 := blk_cell HP.out.cur 0
                  have c1 := blk_cell HP.out.cur 1
                  have c2 := blk_cell HP.out.cur 2
                  have c3 := blk_cell HP.out.cur 3
                  have c4 := blk_cell HP.out.cur 4
                  have g0 := blk_free HP.out.cur
                  obtain ⟨uo, ua, ub, uc, um⟩ := u
                  clear hO hans2 hro hK hE2 hu hgo hsd hsl hp2 hqq hqq1
                  go_wp2_with fail
                  refine (HO.out _).mono ?_; rintro e w' ⟨rfl, rfl⟩
                  go_wp2_with fail
                  go_still_tail 6, (by kernel_rfl)
                  change wpList _ _ _ _ _ wr.drew
                  go_wp2_with fail
                  refine (HSET.out _).mono ?_; rintro e w4 ⟨rfl, hb⟩
                  have HP4 := Lib.hid (HP.out.drew.keep hb)
                  have HR4 := Lib.hid (HR.out.keep ((Below.refl _ _).drew.trans hb))
                  clear hb c0 c1 c2 c3 c4 g0 c9 dneg HSET HO
                  have c0 := blk_cell HP4.out.cur 0
                  have c1 := blk_cell HP4.out.cur 1
                  have c2 := blk_cell HP4.out.cur 2
                  have c3 := blk_cell HP4.out.cur 3
                  have c4 := blk_cell HP4.out.cur 4
                  have g0 := blk_free HP4.out.cur
                  have HP5 := Lib.hid (HP4.out.put ⟨uo, ua, ub, uc, um⟩)
                  have HR5 := Lib.hid (HR4.out.put (by rw [HOL.out]; exact HNI.out) (.int .i64 uo) (.int .i64 ua) (.int .i64 ub) (.int .i64 uc) (.int .i64 um))
                  go_wp2_with fail
                  refine (HSK2.out _).mono ?_; rintro e w' ⟨rfl, rfl⟩
                  generalize hW5 : (((((w4.setCell ⟨ib, 0, none⟩ (.int .i64 uo)).setCell ⟨ib, 1, none⟩ (.int .i64 ua)).setCell ⟨ib, 2, none⟩ (.int .i64 ub)).setCell ⟨ib, 3, none⟩ (.int .i64 uc)).setCell ⟨ib, 4, none⟩ (.int .i64 um)) = W5 at HP5 HR5 ⊢
                  clear hW5 c0 c1 c2 c3 c4 g0 HP4 HR4
                  obtain ⟨qm, hqm⟩ : ∃ x, q = x + 1 := ⟨q - 1, by omega⟩
                  have hqi : (q : Int) - 1 = qm := by omega
                  have HQM := Lib.hid hqm
                  by_cases hkq : k < qm
                  · have dk : decide ((k : Int) < qm) = true := decide_eq_true (by omega)
                    have dk' : decide (k < qm) = true := decide_eq_true hkq
                    have hne : F.drop (k + 1) ≠ [] := by
                      intro h
                      have := congrArg List.length h
                      rw [List.length_drop, HQ.out] at this
                      simp at this; omega
                    have HG3 : Hid ((if (s.data.toList.drop p2).head? = some 44 then rGo (F.drop (k + 1)) (dB (s.data.toList.drop p2).tail) ⟨uo, ua, ub, uc, um⟩ else none) = G) := Lib.hid (by
                      have := HGO.out
                      rw [if_neg hne] at this
                      exact this)
                    clear hqm hne
                    by_cases hpl : p2 < s.size
                    · have HE := Lib.hid (Lib.data_getElem? s p2 hpl)
                      have d2 : decide ((s.size : Int) ≤ p2) = false := decide_eq_false (by omega)
                      have d2' : decide (s.size ≤ p2) = false := decide_eq_false (by omega)
                      have hpli : (p2 : Int) < s.size := by omega
                      by_cases h44 : s[p2].toNat = 44
                      · have hb : ((s[p2].toNat : Int) != 44) = false := by rw [h44]; rfl
                        have hb2 : ((s[p2].toNat : Int) == 44) = true := by rw [h44]; rfl
                        obtain ⟨p3, hp3⟩ : ∃ x, p2 + 1 = x := ⟨_, rfl⟩
                        have hp3i : (p2 : Int) + 1 = p3 := by omega
                        have hp3s : p3 ≤ s.size := by omega
                        have HSK3 := Lib.hid (fun W => skipP s p3 W hp3s hs1)
                        have hsl := skip_le (l := s.data.toList) (p := p3) (by rw [HZ.out]; exact hp3s)
                        have HSD3 := Lib.hid (skip_drop s.data.toList p3)
                        obtain ⟨p4, hp4⟩ : ∃ p, skipN s.data.toList p3 = p := ⟨_, rfl⟩
                        rw [hp4] at HSK3 HSD3 hsl
                        have hp4L := hsl.2
                        have HG4 : Hid (rGo (F.drop (k + 1)) (s.data.toList.drop p4) ⟨uo, ua, ub, uc, um⟩ = G) := Lib.hid (by
                          have := HG3.out
                          rw [List.head?_drop, HE.out, if_pos (by rw [u8_eq h44 (by omega)]; rfl), List.tail_drop, hp3, ← HSD3.out] at this
                          exact this)
                        clear hp3 hp4 hsl h44
                        go_wp2_with fail
                        refine (HSK3.out _).mono ?_; rintro e w' ⟨rfl, rfl⟩
                        go_wp2_with fail
                        go_roundw
                        case rel => exact ⟨k + 1, p4, _, by omega, by go_num, hp4L, rfl, HG4.out, HP5.out, HR5.out⟩
                        case measure => simp [intOf]; omega
                      · have hb2 : ((s[p2].toNat : Int) == 44) = false := by rw [beq_eq_false_iff_ne]; omega
                        have hb : ((s[p2].toNat : Int) != 44) = true := by rw [bne, hb2]; rfl
                        have HVV : Hid (ans = (Ins.zero, 2)) := Lib.hid (by
                          rw [HV.out, ← HG3.out, if_neg (by
                            rw [List.head?_drop, HE.out]
                            intro h
                            injection h with h
                            exact h44 (by rw [h]; rfl))]; rfl)
                        have o0 := blk_cell HP5.out.res 0
                        have o1 := blk_cell HP5.out.res 1
                        have o2 := blk_cell HP5.out.res 2
                        have o3 := blk_cell HP5.out.res 3
                        have o4 := blk_cell HP5.out.res 4
                        have f0 := blk_free HP5.out.res
                        clear h44
                        go_wp2_with fail
                        have hr := set5 HP5.out.res (.int .i64 0) (.int .i64 0) (.int .i64 0) (.int .i64 0) (.int .i64 0)
                        have r0 := blk_cell hr 0
                        have r1 := blk_cell hr 1
                        have r2 := blk_cell hr 2
                        have r3 := blk_cell hr 3
                        have r4 := blk_cell hr 4
                        clear hr
                        refine bodyPost_ret (v := .tuple #[.agg #[.int .i64 0, .int .i64 0, .int .i64 0, .int .i64 0, .int .i64 0], .int .i64 2]) (by simp [results, Tryd.results10, go_sem, r0, r1, r2, r3, r4]) rfl ?_
                        exact ⟨by rw [HVV.out]; rfl, ((((HP5.out.bel.setCell (Nat.le_refl _) _).setCell (Nat.le_refl _) _).setCell (Nat.le_refl _) _).setCell (Nat.le_refl _) _).setCell (Nat.le_refl _) _⟩
                    · have d2 : decide ((s.size : Int) ≤ p2) = true := decide_eq_true (by omega)
                      have d2' : decide (s.size ≤ p2) = true := decide_eq_true (by omega)
                      have HVV : Hid (ans = (Ins.zero, 2)) := Lib.hid (by
                        rw [HV.out, ← HG3.out, if_neg (by
                          rw [List.head?_drop, List.getElem?_eq_none (by rw [HZ.out]; omega)]
                          simp)]; rfl)
                      have o0 := blk_cell HP5.out.res 0
                      have o1 := blk_cell HP5.out.res 1
                      have o2 := blk_cell HP5.out.res 2
                      have o3 := blk_cell HP5.out.res 3
                      have o4 := blk_cell HP5.out.res 4
                      have f0 := blk_free HP5.out.res
                      go_wp2_with fail
                      have hr := set5 HP5.out.res (.int .i64 0) (.int .i64 0) (.int .i64 0) (.int .i64 0) (.int .i64 0)
                      have r0 := blk_cell hr 0
                      have r1 := blk_cell hr 1
                      have r2 := blk_cell hr 2
                      have r3 := blk_cell hr 3
                      have r4 := blk_cell hr 4
                      clear hr
                      refine bodyPost_ret (v := .tuple #[.agg #[.int .i64 0, .int .i64 0, .int .i64 0, .int .i64 0, .int .i64 0], .int .i64 2]) (by simp [results, Tryd.results10, go_sem, r0, r1, r2, r3, r4]) rfl ?_
                      exact ⟨by rw [HVV.out]; rfl, ((((HP5.out.bel.setCell (Nat.le_refl _) _).setCell (Nat.le_refl _) _).setCell (Nat.le_refl _) _).setCell (Nat.le_refl _) _).setCell (Nat.le_refl _) _⟩
                  · have dk : decide ((k : Int) < qm) = false := decide_eq_false (by omega)
                    have dk' : decide (k < qm) = false := decide_eq_false hkq
                    have hnil : F.drop (k + 1) = [] := List.drop_eq_nil_of_le (by rw [HQ.out]; omega)
                    have HG3 : Hid (rGo (F.drop (k + 1)) (s.data.toList.drop p2) ⟨uo, ua, ub, uc, um⟩ = G) := Lib.hid (by
                      have := HGO.out
                      rw [if_pos hnil] at this
                      rw [hnil]
                      exact this)
                    have hp2L : p2 ≤ s.data.toList.length := by rw [HZ.out]; exact hp2s
                    clear hqm hnil
                    go_wp2_with fail
                    go_roundw
                    case rel => exact ⟨k + 1, p2, _, by omega, by go_num, hp2L, rfl, HG3.out, HP5.out, HR5.out⟩
                    case measure => simp [intOf]; omega
              · obtain rfl : q = k := by omega
                have HG2 : Hid ((if s.data.toList.drop p = [] then some (⟨vo, va, vb, vc, vm⟩ : Ins) else none) = G) := Lib.hid (by
                  have := HG.out
                  rw [List.drop_eq_nil_of_le (by rw [HQ.out]; exact Nat.le_refl _)] at this
                  exact this)
                by_cases hpe : p = s.size
                · have hpe' : ((p : Int) != s.size) = false := by
                    have : ((p : Int) == s.size) = true := by rw [beq_iff_eq]; omega
                    rw [bne, this]; rfl
                  have HGV : Hid (G = some ⟨vo, va, vb, vc, vm⟩) := Lib.hid (by rw [← HG2.out, if_pos (List.drop_eq_nil_of_le (by rw [HZ.out]; omega))])
                  have HRT := Lib.hid (fun W => rRightP vo va vb vc vm W)
                  obtain ⟨yes, hyes⟩ : ∃ y, rightB ⟨vo, va, vb, vc, vm⟩ = y := ⟨_, rfl⟩
                  rw [hyes] at HRT
                  have HVV : Hid (ans = if yes then (⟨vo, va, vb, vc, vm⟩, 0) else (Ins.zero, 6)) := Lib.hid (by rw [HV.out, HGV.out]; unfold finN; simp only [hyes])
                  have c0 := blk_cell HP.out.cur 0
                  have c1 := blk_cell HP.out.cur 1
                  have c2 := blk_cell HP.out.cur 2
                  have c3 := blk_cell HP.out.cur 3
                  have c4 := blk_cell HP.out.cur 4
                  have g0 := blk_free HP.out.cur
                  clear hyes hpe
                  go_wp2_with fail
                  refine (HRT.out _).mono ?_; rintro e w6 ⟨rfl, hb⟩
                  have HP6 := Lib.hid (HP.out.keep hb)
                  clear hb c0 c1 c2 c3 c4 g0 HRT
                  have c0 := blk_cell HP6.out.cur 0
                  have c1 := blk_cell HP6.out.cur 1
                  have c2 := blk_cell HP6.out.cur 2
                  have c3 := blk_cell HP6.out.cur 3
                  have c4 := blk_cell HP6.out.cur 4
                  have g0 := blk_free HP6.out.cur
                  have o0 := blk_cell HP6.out.res 0
                  have o1 := blk_cell HP6.out.res 1
                  have o2 := blk_cell HP6.out.res 2
                  have o3 := blk_cell HP6.out.res 3
                  have o4 := blk_cell HP6.out.res 4
                  have f0 := blk_free HP6.out.res
                  cases yes
                  · go_wp2_with fail
                    have hr := set5 HP6.out.res (.int .i64 0) (.int .i64 0) (.int .i64 0) (.int .i64 0) (.int .i64 0)
                    have r0 := blk_cell hr 0
                    have r1 := blk_cell hr 1
                    have r2 := blk_cell hr 2
                    have r3 := blk_cell hr 3
                    have r4 := blk_cell hr 4
                    clear hr
                    refine bodyPost_ret (v := .tuple #[.agg #[.int .i64 0, .int .i64 0, .int .i64 0, .int .i64 0, .int .i64 0], .int .i64 6]) (by simp [results, Tryd.results10, go_sem, r0, r1, r2, r3, r4]) rfl ?_
                    exact ⟨by rw [HVV.out]; rfl, ((((HP6.out.bel.setCell (Nat.le_refl _) _).setCell (Nat.le_refl _) _).setCell (Nat.le_refl _) _).setCell (Nat.le_refl _) _).setCell (Nat.le_refl _) _⟩
                  · go_wp2_with fail
                    have hr := set5 HP6.out.res (.int .i64 vo) (.int .i64 va) (.int .i64 vb) (.int .i64 vc) (.int .i64 vm)
                    have r0 := blk_cell hr 0
                    have r1 := blk_cell hr 1
                    have r2 := blk_cell hr 2
                    have r3 := blk_cell hr 3
                    have r4 := blk_cell hr 4
                    clear hr
                    refine bodyPost_ret (v := .tuple #[.agg #[.int .i64 vo, .int .i64 va, .int .i64 vb, .int .i64 vc, .int .i64 vm], .int .i64 0]) (by simp [results, Tryd.results10, go_sem, r0, r1, r2, r3, r4]) rfl ?_
                    exact ⟨by rw [HVV.out]; rfl, ((((HP6.out.bel.setCell (Nat.le_refl _) _).setCell (Nat.le_refl _) _).setCell (Nat.le_refl _) _).setCell (Nat.le_refl _) _).setCell (Nat.le_refl _) _⟩
                · have hpe' : ((p : Int) != s.size) = true := by
                    have : ((p : Int) == s.size) = false := by rw [beq_eq_false_iff_ne]; omega
                    rw [bne, this]; rfl
                  have HVV : Hid (ans = (Ins.zero, 2)) := Lib.hid (by
                    rw [HV.out, ← HG2.out, if_neg (by
                      intro h
                      have := congrArg List.length h
                      rw [List.length_drop, HZ.out] at this
                      simp at this; omega)]
                    rfl)
                  have o0 := blk_cell HP.out.res 0
                  have o1 := blk_cell HP.out.res 1
                  have o2 := blk_cell HP.out.res 2
                  have o3 := blk_cell HP.out.res 3
                  have o4 := blk_cell HP.out.res 4
                  have f0 := blk_free HP.out.res
                  go_wp2_with fail
                  have hr := set5 HP.out.res (.int .i64 0) (.int .i64 0) (.int .i64 0) (.int .i64 0) (.int .i64 0)
                  have r0 := blk_cell hr 0
                  have r1 := blk_cell hr 1
                  have r2 := blk_cell hr 2
                  have r3 := blk_cell hr 3
                  have r4 := blk_cell hr 4
                  clear hr
                  refine bodyPost_ret (v := .tuple #[.agg #[.int .i64 0, .int .i64 0, .int .i64 0, .int .i64 0, .int .i64 0], .int .i64 2]) (by simp [results, Tryd.results10, go_sem, r0, r1, r2, r3, r4]) rfl ?_
                  exact ⟨by rw [HVV.out]; rfl, ((((HP.out.bel.setCell (Nat.le_refl _) _).setCell (Nat.le_refl _) _).setCell (Nat.le_refl _) _).setCell (Nat.le_refl _) _).setCell (Nat.le_refl _) _⟩
        · have hb3 : ((s[k].toNat : Int) == 9) = false := by rw [beq_eq_false_iff_ne]; omega
          have hb4 : ((s[k].toNat : Int) != 9) = true := by rw [bne, hb3]; rfl
          have HN : Hid (endN s.data.toList (k + 1) = E) := Lib.hid (by
            rw [← HKE.out, end_on HE.out]
            cases h : isBl s[k]
            · rfl
            · rcases (isBl_iff _).1 h with e | e
              · exact absurd (by rw [e]; rfl) h32
              · exact absurd (by rw [e]; rfl) h9)
          clear h32 h9
          go_wp2_with fail
          go_round
          case rel => exact ⟨k + 1, by omega, by omega, by go_num, HN.out⟩
          case measure => simp [intOf]; omega
    · have hE3 : E = s.size := by rw [← HKE.out, end_end (by rw [HZ.out]; omega)]; omega
      obtain rfl : E = k := by omega
      have hlt2 : ¬ (E : Int) < s.size := by omega
      clear hE3 hlt hpk hk
      go_wp2_with fail
      refine (HFN.out _).mono ?_; rintro e w1 ⟨rfl, hb⟩
      have HK1 := Lib.hid ((hb.block w.heap.size (by simp)).trans HK0.out)
      have HB1 := Lib.hid (HB0.out.trans (hb.mono (by simp)))
      have hlt1 : w.heap.size < w1.heap.size := (Array.getElem?_eq_some_iff.1 HK1.out).1
      clear hb
      by_cases hz : op = 0
      · subst hz
        have HV : Hid (ans = (Ins.zero, 2)) := Lib.hid (by rw [← HANS.out]; exact refN_zero HOP.out)
        have o0 := blk_cell HK1.out 0
        have o1 := blk_cell HK1.out 1
        have o2 := blk_cell HK1.out 2
        have o3 := blk_cell HK1.out 3
        have o4 := blk_cell HK1.out 4
        have f0 := blk_free HK1.out
        go_wp2_with fail
        have hr := set5_alloc HK1.out (.int .i64 0) (.int .i64 0) (.int .i64 0) (.int .i64 0) (.int .i64 0) (.cells #[.int .i64 0, .int .i64 0, .int .i64 0, .int .i64 0, .int .i64 0] 23)
        have r0 := blk_cell hr 0
        have r1 := blk_cell hr 1
        have r2 := blk_cell hr 2
        have r3 := blk_cell hr 3
        have r4 := blk_cell hr 4
        clear hr
        refine bodyPost_ret (v := .tuple #[.agg #[.int .i64 0, .int .i64 0, .int .i64 0, .int .i64 0, .int .i64 0], .int .i64 2]) (by simp [results, Tryd.results10, go_sem, r0, r1, r2, r3, r4]) rfl ⟨by rw [HV.out]; rfl, ?_⟩
        exact ((((((HB1.out.setCell (Nat.le_refl _) _).setCell (Nat.le_refl _) _).setCell (Nat.le_refl _) _).setCell (Nat.le_refl _) _).setCell (Nat.le_refl _) _)).alloc (by simp [World.size_setCell]; omega) _
      · have hop1 : 1 ≤ op ∧ op < 31 := by have := HOC.out; omega
        have hz' : ((op : Int) == 0) = false := by rw [beq_eq_false_iff_ne]; omega
        have HBOX : Hid (PBox w (w1.alloc (.cells #[.int .i64 op, .int .i64 0, .int .i64 0, .int .i64 0, .int .i64 0] 23)) w1.heap.size ⟨(op : Nat), 0, 0, 0, 0⟩) := Lib.hid
          ⟨by rw [Below.heap_alloc _ _ _ hlt1]; exact HK1.out, block_new w1 _, HB1.out.alloc HB1.out.size _, hlt1⟩
        have HQO := Lib.hid (fun W => operandsP op W hop1.1 (by omega))
        have HSE := Lib.hid (fun W => skipP s E W hEs hs1)
        have hsk2 := skip_le (l := s.data.toList) (p := E) (by rw [HZ.out]; exact hEs)
        have HDE := Lib.hid (skip_drop s.data.toList E)
        obtain ⟨p1, hp1⟩ : ∃ p, skipN s.data.toList E = p := ⟨_, rfl⟩
        rw [hp1] at HSE hsk2 HDE
        rw [HED.out] at HDE
        obtain ⟨G, hG⟩ : ∃ G, rGo (fields (opsN op)) (s.data.toList.drop p1) ⟨(op : Nat), 0, 0, 0, 0⟩ = G := ⟨_, rfl⟩
        have HGG := Lib.hid hG
        have HV : Hid (ans = finN G) := Lib.hid (by
          rw [← HANS.out, refN_fin HOP.out hz, ← HDE.out]
          exact congrArg finN hG)
        have hp1L := hsk2.2
        clear hp1 hsk2 hG hz
        go_wp2_with fail
        refine (HQO.out _).mono ?_; rintro e w2 ⟨vl, rfl, hrow, hb⟩
        have HP2 := Lib.hid (HBOX.out.keep hb)
        have HNI : Hid (0 < (opdL op).length → ∀ g n c, vl = .slice (some ⟨g, 0, none⟩) n c → g ≠ w1.heap.size) := Lib.hid (by
          intro h0 g n c hv e
          obtain ⟨A, cap, hv2, h1, h2, hA⟩ := id hrow
          rw [hv] at hv2
          injection hv2 with e1 e2 _
          obtain ⟨g2, hg2, _, hc⟩ := hA h0
          rw [← e1] at hg2
          injection hg2 with hg2
          injection hg2 with hg2 _ _
          have k1 := hc 0 h0
          have k2 : w2.cell? ⟨w1.heap.size, 0, none⟩ = some (.int .i64 op) := blk_cell HP2.out.cur 0
          rw [← hg2, e, k2] at k1
          have k3 : (op : Int) = ((opdL op)[0] : Nat) := by
            injection k1 with k1
            injection k1 with _ k1
          exact opd_first op hop1.2 _ (List.getElem?_eq_getElem h0) (by omega))
        obtain ⟨vA, vcap, hv, _⟩ := id hrow
        subst hv
        have hol : (opdL op).length = (fields (opsN op)).length := by unfold opdL fields; rw [List.length_map]
        have hq4 : (fields (opsN op)).length ≤ 4 := by unfold fields; exact Nat.le_trans (List.length_filter_le _ _) (by simp)
        obtain ⟨F, hF⟩ : ∃ F, fields (opsN op) = F := ⟨_, rfl⟩
        rw [hF] at hol hq4 HGG
        obtain ⟨q, hq⟩ : ∃ q, F.length = q := ⟨_, rfl⟩
        rw [hq] at hol hq4
        rw [hol] at hrow HNI ⊢
        have HOL := Lib.hid hol
        have HQ := Lib.hid hq
        have HF := Lib.hid hF
        have HR2 := Lib.hid hrow
        clear hb hrow hol hq hF HQO HBOX
        go_wp2_with fail
        refine (HSE.out _).mono ?_; rintro e w' ⟨rfl, rfl⟩
        go_wp2_with fail
        obtain ⟨ib, hib⟩ : ∃ ib, w1.heap.size = ib := ⟨_, rfl⟩
        rw [hib] at HP2 HNI ⊢
        clear hib hlt1
        go_loopw [4, 8] (fun x y wl => PsRel s.data.toList F op q G (.slice vA q vcap) w ib x y wl) (fun _ y _ => 6 - (intOf y).toNat)
        case atStart => exact ⟨0, p1, _, Nat.zero_le _, rfl, hp1L, rfl, HGG.out, HP2.out, HR2.out⟩
        case round =>
          clear HP2 HR2 HGG
          obtain ⟨k, p, v, hk, rfl, hp, rfl, hG, hP, hR⟩ := hrel
          obtain ⟨vo, va, vb, vc, vm⟩ := v
          have HG := Lib.hid hG
          have HP := Lib.hid hP
          have HR := Lib.hid hR
          have hps : p ≤ s.size := by rw [HZ.out] at hp; exact hp
          clear hG hP hR hp
          by_cases hlt : k < q
          · have hkF : k < F.length := by rw [HQ.out]; exact hlt
            have hdrop : F.drop k = F[k] :: F.drop (k + 1) := List.drop_eq_getElem_cons hkF
            obtain ⟨f, hf⟩ : ∃ f, F[k] = f := ⟨_, rfl⟩
            rw [hf] at hdrop
            obtain ⟨g, hg, hgs, c9⟩ := HR.out.at k (by rw [HOL.out]; exact hlt)
            subst hg
            have hF4 : f < 4 := by
              have hm : f ∈ fields (opsN op) := by rw [HF.out, ← hf]; exact List.getElem_mem hkF
              unfold fields at hm
              rw [List.mem_filter, List.mem_range] at hm
              exact hm.1
            have hkx : (opdL op)[k]'(by rw [HOL.out]; exact hlt) = f + 1 := by
              have e : opdL op = F.map (· + 1) := by rw [← HF.out]; rfl
              simp only [e, List.getElem_map, hf]
            rw [hkx] at c9
            obtain ⟨K, hK⟩ : ∃ K, f + 1 = K := ⟨_, rfl⟩
            rw [hK] at c9
            have hO := fun W => rOpdP s p K W hps hs1 (by omega)
            rw [show K - 1 = f by omega] at hO
            have hki : (k : Int) < q := by omega
            have HKK := Lib.hid hK
            have HDR := Lib.hid hdrop
            clear hf hkx hgs hdrop
            cases hro : rOpd f (s.data.toList.drop p) with
            | none =>
              have hans2 := opdAns_none hro
              have HO : Hid (∀ W, Calls Tryd.prog 26 #[.string s, .int .i64 p, .int .i64 K] W fun e w' => e = .returned (.tuple #[.int .i64 0, .int .i64 (-1)]) ∧ W = w') := Lib.hid (fun W => by
                have := hO W
                unfold OpdPost at this
                rw [hans2] at this
                exact this)
              have HVV : Hid (ans = (Ins.zero, 2)) := Lib.hid (by
                rw [HV.out, ← HG.out, HDR.out, rGo_none hro]; rfl)
              have o0 := blk_cell HP.out.res 0
              have o1 := blk_cell HP.out.res 1
              have o2 := blk_cell HP.out.res 2
              have o3 := blk_cell HP.out.res 3
              have o4 := blk_cell HP.out.res 4
              have f0 := blk_free HP.out.res
              clear hO hans2 hro hK
              go_wp2_with fail
              refine (HO.out _).mono ?_; rintro e w' ⟨rfl, rfl⟩
              go_wp2_with fail
              have hr := set5 HP.out.res (.int .i64 0) (.int .i64 0) (.int .i64 0) (.int .i64 0) (.int .i64 0)
              have r0 := blk_cell hr 0
              have r1 := blk_cell hr 1
              have r2 := blk_cell hr 2
              have r3 := blk_cell hr 3
              have r4 := blk_cell hr 4
              clear hr
              refine bodyPost_ret (v := .tuple #[.agg #[.int .i64 0, .int .i64 0, .int .i64 0, .int .i64 0, .int .i64 0], .int .i64 2]) (by simp [results, Tryd.results10, go_sem, r0, r1, r2, r3, r4]) rfl ?_
              exact ⟨by rw [HVV.out]; rfl, ((((HP.out.bel.setCell (Nat.le_refl _) _).setCell (Nat.le_refl _) _).setCell (Nat.le_refl _) _).setCell (Nat.le_refl _) _).setCell (Nat.le_refl _) _⟩
            | some nq =>
              obtain ⟨n, qq⟩ := nq
              have hans2 := opdAns_some hro
              obtain ⟨hqq, hqq1, _, _⟩ := opd_back hro
              rw [List.length_drop, HZ.out] at hqq
              obtain ⟨E2, hE2⟩ : ∃ e, p + qq = e := ⟨_, rfl⟩
              rw [hE2] at hans2
              have hE2s : E2 ≤ s.size := by omega
              have HO : Hid (∀ W, Calls Tryd.prog 26 #[.string s, .int .i64 p, .int .i64 K] W fun e w' => e = .returned (.tuple #[.int .i64 n, .int .i64 E2]) ∧ W = w') := Lib.hid (fun W => by
                have := hO W
                unfold OpdPost at this
                rw [hans2] at this
                exact this)
              have dneg : decide ((E2 : Int) < 0) = false := decide_eq_false (by omega)
              obtain ⟨u, hu⟩ : ∃ u, setF ⟨vo, va, vb, vc, vm⟩ f n = u := ⟨_, rfl⟩
              have hgo := HG.out
              rw [HDR.out, rGo_some hro, List.drop_drop, hE2, hu] at hgo
              have hsd := skip_drop s.data.toList E2
              have hsl := skip_le (l := s.data.toList) (p := E2) (by rw [HZ.out]; exact hE2s)
              have HSK2 := Lib.hid (fun W => skipP s E2 W hE2s hs1)
              obtain ⟨p2, hp2⟩ : ∃ p, skipN s.data.toList E2 = p := ⟨_, rfl⟩
              rw [hp2] at hsd hsl HSK2
              rw [← hsd] at hgo
              have hp2s : p2 ≤ s.size := by rw [HZ.out] at hsl; exact hsl.2
              have HGO := Lib.hid hgo
              have HSET : Hid (∀ W, Calls Tryd.prog 27 #[.agg #[.int .i64 vo, .int .i64 va, .int .i64 vb, .int .i64 vc, .int .i64 vm], .int .i64 K, .int .i64 n] W fun e w' => e = .returned (.agg #[.int .i64 u.op, .int .i64 u.a, .int .i64 u.b, .int .i64 u.c, .int .i64 u.m]) ∧ Below W.heap.size W w') := Lib.hid (fun W => by
                have := rSetP vo va vb vc vm n f W hF4
                rw [HKK.out, hu] at this
                exact this)
              have c0 := blk_cell HP.out.cur 0
              have c1 := blk_cell HP.out.cur 1
              have c2 := blk_cell HP.out.cur 2
              have c3 := blk_cell HP.out.cur 3
              have c4 := blk_cell HP.out.cur 4
              have g0 := blk_free HP.out.cur
              obtain ⟨uo, ua, ub, uc, um⟩ := u
              clear hO hans2 hro hK hE2 hu hgo hsd hsl hp2 hqq hqq1
              go_wp2_with fail
              refine (HO.out _).mono ?_; rintro e w' ⟨rfl, rfl⟩
              go_wp2_with fail
              go_still_tail 6, (by kernel_rfl)
              change wpList _ _ _ _ _ wr.drew
              go_wp2_with fail
              refine (HSET.out _).mono ?_; rintro e w4 ⟨rfl, hb⟩
              have HP4 := Lib.hid (HP.out.drew.keep hb)
              have HR4 := Lib.hid (HR.out.keep ((Below.refl _ _).drew.trans hb))
              clear hb c0 c1 c2 c3 c4 g0 c9 dneg HSET HO
              have c0 := blk_cell HP4.out.cur 0
              have c1 := blk_cell HP4.out.cur 1
              have c2 := blk_cell HP4.out.cur 2
              have c3 := blk_cell HP4.out.cur 3
              have c4 := blk_cell HP4.out.cur 4
              have g0 := blk_free HP4.out.cur
              have HP5 := Lib.hid (HP4.out.put ⟨uo, ua, ub, uc, um⟩)
              have HR5 := Lib.hid (HR4.out.put (by rw [HOL.out]; exact HNI.out) (.int .i64 uo) (.int .i64 ua) (.int .i64 ub) (.int .i64 uc) (.int .i64 um))
              go_wp2_with fail
              refine (HSK2.out _).mono ?_; rintro e w' ⟨rfl, rfl⟩
              generalize hW5 : (((((w4.setCell ⟨ib, 0, none⟩ (.int .i64 uo)).setCell ⟨ib, 1, none⟩ (.int .i64 ua)).setCell ⟨ib, 2, none⟩ (.int .i64 ub)).setCell ⟨ib, 3, none⟩ (.int .i64 uc)).setCell ⟨ib, 4, none⟩ (.int .i64 um)) = W5 at HP5 HR5 ⊢
              clear hW5 c0 c1 c2 c3 c4 g0 HP4 HR4
              obtain ⟨qm, hqm⟩ : ∃ x, q = x + 1 := ⟨q - 1, by omega⟩
              have hqi : (q : Int) - 1 = qm := by omega
              have HQM := Lib.hid hqm
              by_cases hkq : k < qm
              · have dk : decide ((k : Int) < qm) = true := decide_eq_true (by omega)
                have dk' : decide (k < qm) = true := decide_eq_true hkq
                have hne : F.drop (k + 1) ≠ [] := by
                  intro h
                  have := congrArg List.length h
                  rw [List.length_drop, HQ.out] at this
                  simp at this; omega
                have HG3 : Hid ((if (s.data.toList.drop p2).head? = some 44 then rGo (F.drop (k + 1)) (dB (s.data.toList.drop p2).tail) ⟨uo, ua, ub, uc, um⟩ else none) = G) := Lib.hid (by
                  have := HGO.out
                  rw [if_neg hne] at this
                  exact this)
                clear hqm hne
                by_cases hpl : p2 < s.size
                · have HE := Lib.hid (Lib.data_getElem? s p2 hpl)
                  have d2 : decide ((s.size : Int) ≤ p2) = false := decide_eq_false (by omega)
                  have d2' : decide (s.size ≤ p2) = false := decide_eq_false (by omega)
                  have hpli : (p2 : Int) < s.size := by omega
                  by_cases h44 : s[p2].toNat = 44
                  · have hb : ((s[p2].toNat : Int) != 44) = false := by rw [h44]; rfl
                    have hb2 : ((s[p2].toNat : Int) == 44) = true := by rw [h44]; rfl
                    obtain ⟨p3, hp3⟩ : ∃ x, p2 + 1 = x := ⟨_, rfl⟩
                    have hp3i : (p2 : Int) + 1 = p3 := by omega
                    have hp3s : p3 ≤ s.size := by omega
                    have HSK3 := Lib.hid (fun W => skipP s p3 W hp3s hs1)
                    have hsl := skip_le (l := s.data.toList) (p := p3) (by rw [HZ.out]; exact hp3s)
                    have HSD3 := Lib.hid (skip_drop s.data.toList p3)
                    obtain ⟨p4, hp4⟩ : ∃ p, skipN s.data.toList p3 = p := ⟨_, rfl⟩
                    rw [hp4] at HSK3 HSD3 hsl
                    have hp4L := hsl.2
                    have HG4 : Hid (rGo (F.drop (k + 1)) (s.data.toList.drop p4) ⟨uo, ua, ub, uc, um⟩ = G) := Lib.hid (by
                      have := HG3.out
                      rw [List.head?_drop, HE.out, if_pos (by rw [u8_eq h44 (by omega)]; rfl), List.tail_drop, hp3, ← HSD3.out] at this
                      exact this)
                    clear hp3 hp4 hsl h44
                    go_wp2_with fail
                    refine (HSK3.out _).mono ?_; rintro e w' ⟨rfl, rfl⟩
                    go_wp2_with fail
                    go_roundw
                    case rel => exact ⟨k + 1, p4, _, by omega, by go_num, hp4L, rfl, HG4.out, HP5.out, HR5.out⟩
                    case measure => simp [intOf]; omega
                  · have hb2 : ((s[p2].toNat : Int) == 44) = false := by rw [beq_eq_false_iff_ne]; omega
                    have hb : ((s[p2].toNat : Int) != 44) = true := by rw [bne, hb2]; rfl
                    have HVV : Hid (ans = (Ins.zero, 2)) := Lib.hid (by
                      rw [HV.out, ← HG3.out, if_neg (by
                        rw [List.head?_drop, HE.out]
                        intro h
                        injection h with h
                        exact h44 (by rw [h]; rfl))]; rfl)
                    have o0 := blk_cell HP5.out.res 0
                    have o1 := blk_cell HP5.out.res 1
                    have o2 := blk_cell HP5.out.res 2
                    have o3 := blk_cell HP5.out.res 3
                    have o4 := blk_cell HP5.out.res 4
                    have f0 := blk_free HP5.out.res
                    clear h44
                    go_wp2_with fail
                    have hr := set5 HP5.out.res (.int .i64 0) (.int .i64 0) (.int .i64 0) (.int .i64 0) (.int .i64 0)
                    have r0 := blk_cell hr 0
                    have r1 := blk_cell hr 1
                    have r2 := blk_cell hr 2
                    have r3 := blk_cell hr 3
                    have r4 := blk_cell hr 4
                    clear hr
                    refine bodyPost_ret (v := .tuple #[.agg #[.int .i64 0, .int .i64 0, .int .i64 0, .int .i64 0, .int .i64 0], .int .i64 2]) (by simp [results, Tryd.results10, go_sem, r0, r1, r2, r3, r4]) rfl ?_
                    exact ⟨by rw [HVV.out]; rfl, ((((HP5.out.bel.setCell (Nat.le_refl _) _).setCell (Nat.le_refl _) _).setCell (Nat.le_refl _) _).setCell (Nat.le_refl _) _).setCell (Nat.le_refl _) _⟩
                · have d2 : decide ((s.size : Int) ≤ p2) = true := decide_eq_true (by omega)
                  have d2' : decide (s.size ≤ p2) = true := decide_eq_true (by omega)
                  have HVV : Hid (ans = (Ins.zero, 2)) := Lib.hid (by
                    rw [HV.out, ← HG3.out, if_neg (by
                      rw [List.head?_drop, List.getElem?_eq_none (by rw [HZ.out]; omega)]
                      simp)]; rfl)
                  have o0 := blk_cell HP5.out.res 0
                  have o1 := blk_cell HP5.out.res 1
                  have o2 := blk_cell HP5.out.res 2
                  have o3 := blk_cell HP5.out.res 3
                  have o4 := blk_cell HP5.out.res 4
                  have f0 := blk_free HP5.out.res
                  go_wp2_with fail
                  have hr := set5 HP5.out.res (.int .i64 0) (.int .i64 0) (.int .i64 0) (.int .i64 0) (.int .i64 0)
                  have r0 := blk_cell hr 0
                  have r1 := blk_cell hr 1
                  have r2 := blk_cell hr 2
                  have r3 := blk_cell hr 3
                  have r4 := blk_cell hr 4
                  clear hr
                  refine bodyPost_ret (v := .tuple #[.agg #[.int .i64 0, .int .i64 0, .int .i64 0, .int .i64 0, .int .i64 0], .int .i64 2]) (by simp [results, Tryd.results10, go_sem, r0, r1, r2, r3, r4]) rfl ?_
                  exact ⟨by rw [HVV.out]; rfl, ((((HP5.out.bel.setCell (Nat.le_refl _) _).setCell (Nat.le_refl _) _).setCell (Nat.le_refl _) _).setCell (Nat.le_refl _) _).setCell (Nat.le_refl _) _⟩
              · have dk : decide ((k : Int) < qm) = false := decide_eq_false (by omega)
                have dk' : decide (k < qm) = false := decide_eq_false hkq
                have hnil : F.drop (k + 1) = [] := List.drop_eq_nil_of_le (by rw [HQ.out]; omega)
                have HG3 : Hid (rGo (F.drop (k + 1)) (s.data.toList.drop p2) ⟨uo, ua, ub, uc, um⟩ = G) := Lib.hid (by
                  have := HGO.out
                  rw [if_pos hnil] at this
                  rw [hnil]
                  exact this)
                have hp2L : p2 ≤ s.data.toList.length := by rw [HZ.out]; exact hp2s
                clear hqm hnil
                go_wp2_with fail
                go_roundw
                case rel => exact ⟨k + 1, p2, _, by omega, by go_num, hp2L, rfl, HG3.out, HP5.out, HR5.out⟩
                case measure => simp [intOf]; omega
          · obtain rfl : q = k := by omega
            have HG2 : Hid ((if s.data.toList.drop p = [] then some (⟨vo, va, vb, vc, vm⟩ : Ins) else none) = G) := Lib.hid (by
              have := HG.out
              rw [List.drop_eq_nil_of_le (by rw [HQ.out]; exact Nat.le_refl _)] at this
              exact this)
            by_cases hpe : p = s.size
            · have hpe' : ((p : Int) != s.size) = false := by
                have : ((p : Int) == s.size) = true := by rw [beq_iff_eq]; omega
                rw [bne, this]; rfl
              have HGV : Hid (G = some ⟨vo, va, vb, vc, vm⟩) := Lib.hid (by rw [← HG2.out, if_pos (List.drop_eq_nil_of_le (by rw [HZ.out]; omega))])
              have HRT := Lib.hid (fun W => rRightP vo va vb vc vm W)
              obtain ⟨yes, hyes⟩ : ∃ y, rightB ⟨vo, va, vb, vc, vm⟩ = y := ⟨_, rfl⟩
              rw [hyes] at HRT
              have HVV : Hid (ans = if yes then (⟨vo, va, vb, vc, vm⟩, 0) else (Ins.zero, 6)) := Lib.hid (by rw [HV.out, HGV.out]; unfold finN; simp only [hyes])
              have c0 := blk_cell HP.out.cur 0
              have c1 := blk_cell HP.out.cur 1
              have c2 := blk_cell HP.out.cur 2
              have c3 := blk_cell HP.out.cur 3
              have c4 := blk_cell HP.out.cur 4
              have g0 := blk_free HP.out.cur
              clear hyes hpe
              go_wp2_with fail
              refine (HRT.out _).mono ?_; rintro e w6 ⟨rfl, hb⟩
              have HP6 := Lib.hid (HP.out.keep hb)
              clear hb c0 c1 c2 c3 c4 g0 HRT
              have c0 := blk_cell HP6.out.cur 0
              have c1 := blk_cell HP6.out.cur 1
              have c2 := blk_cell HP6.out.cur 2
              have c3 := blk_cell HP6.out.cur 3
              have c4 := blk_cell HP6.out.cur 4
              have g0 := blk_free HP6.out.cur
              have o0 := blk_cell HP6.out.res 0
              have o1 := blk_cell HP6.out.res 1
              have o2 := blk_cell HP6.out.res 2
              have o3 := blk_cell HP6.out.res 3
              have o4 := blk_cell HP6.out.res 4
              have f0 := blk_free HP6.out.res
              cases yes
              · go_wp2_with fail
                have hr := set5 HP6.out.res (.int .i64 0) (.int .i64 0) (.int .i64 0) (.int .i64 0) (.int .i64 0)
                have r0 := blk_cell hr 0
                have r1 := blk_cell hr 1
                have r2 := blk_cell hr 2
                have r3 := blk_cell hr 3
                have r4 := blk_cell hr 4
                clear hr
                refine bodyPost_ret (v := .tuple #[.agg #[.int .i64 0, .int .i64 0, .int .i64 0, .int .i64 0, .int .i64 0], .int .i64 6]) (by simp [results, Tryd.results10, go_sem, r0, r1, r2, r3, r4]) rfl ?_
                exact ⟨by rw [HVV.out]; rfl, ((((HP6.out.bel.setCell (Nat.le_refl _) _).setCell (Nat.le_refl _) _).setCell (Nat.le_refl _) _).setCell (Nat.le_refl _) _).setCell (Nat.le_refl _) _⟩
              · go_wp2_with fail
                have hr := set5 HP6.out.res (.int .i64 vo) (.int .i64 va) (.int .i64 vb) (.int .i64 vc) (.int .i64 vm)
                have r0 := blk_cell hr 0
                have r1 := blk_cell hr 1
                have r2 := blk_cell hr 2
                have r3 := blk_cell hr 3
                have r4 := blk_cell hr 4
                clear hr
                refine bodyPost_ret (v := .tuple #[.agg #[.int .i64 vo, .int .i64 va, .int .i64 vb, .int .i64 vc, .int .i64 vm], .int .i64 0]) (by simp [results, Tryd.results10, go_sem, r0, r1, r2, r3, r4]) rfl ?_
                exact ⟨by rw [HVV.out]; rfl, ((((HP6.out.bel.setCell (Nat.le_refl _) _).setCell (Nat.le_refl _) _).setCell (Nat.le_refl _) _).setCell (Nat.le_refl _) _).setCell (Nat.le_refl _) _⟩
            · have hpe' : ((p : Int) != s.size) = true := by
                have : ((p : Int) == s.size) = false := by rw [beq_eq_false_iff_ne]; omega
                rw [bne, this]; rfl
              have HVV : Hid (ans = (Ins.zero, 2)) := Lib.hid (by
                rw [HV.out, ← HG2.out, if_neg (by
                  intro h
                  have := congrArg List.length h
                  rw [List.length_drop, HZ.out] at this
                  simp at this; omega)]
                rfl)
              have o0 := blk_cell HP.out.res 0
              have o1 := blk_cell HP.out.res 1
              have o2 := blk_cell HP.out.res 2
              have o3 := blk_cell HP.out.res 3
              have o4 := blk_cell HP.out.res 4
              have f0 := blk_free HP.out.res
              go_wp2_with fail
              have hr := set5 HP.out.res (.int .i64 0) (.int .i64 0) (.int .i64 0) (.int .i64 0) (.int .i64 0)
              have r0 := blk_cell hr 0
              have r1 := blk_cell hr 1
              have r2 := blk_cell hr 2
              have r3 := blk_cell hr 3
              have r4 := blk_cell hr 4
              clear hr
              refine bodyPost_ret (v := .tuple #[.agg #[.int .i64 0, .int .i64 0, .int .i64 0, .int .i64 0, .int .i64 0], .int .i64 2]) (by simp [results, Tryd.results10, go_sem, r0, r1, r2, r3, r4]) rfl ?_
              exact ⟨by rw [HVV.out]; rfl, ((((HP.out.bel.setCell (Nat.le_refl _) _).setCell (Nat.le_refl _) _).setCell (Nat.le_refl _) _).setCell (Nat.le_refl _) _).setCell (Nat.le_refl _) _⟩
end Go.Proofs.YtmnhnighlgpjmaaDoor

