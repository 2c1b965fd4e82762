/-
  The program's settle.
-/
import Derived.Test.YtmnhnighlgpjmaaGreatSetZ
import Derived.Test.YtmnhnighlgpjmaaGreatGath
namespace Go.Proofs.YtmnhnighlgpjmaaGreat
set_option linter.unusedVariables false
set_option linter.unusedSimpArgs false
open Go.RowKit

set_option maxRecDepth 100000 in
set_option maxHeartbeats 8000000 in
theorem settleP (bv : Value) (NB P : List (List Nat)) (H O : List Nat) (vs : List Value) (n gh gn go base B h : Nat) (w : World) (hN : Succ n NB) (hLB : ∀ v, (NB.getD v []).length ≤ 1000000) (hn : n ≤ 900) (hr : LRow w B bv (NB.map zi))
    (D : DivAt w base gh gn go n H vs P O) (hP : Succ n P) (hHn : ∀ x, x < n → H.getD x 0 < n) (hHl : H.length = n) (hOl : O.length = n) (hO9 : ∀ x, O.getD x 0 ≤ 100000000) (hB : B ≤ go) (hBw : B ≤ w.heap.size) (hh : h < n) (hPl : (P.getD h []).length ≤ 1000000)
    (hXS : ∀ x ∈ SX H NB (P.getD h []), x < n) (hcn : ∀ x, x ≠ h → (SX H NB (P.getD h [])).count x ≤ O.getD x 0) :
    Calls Tryz.prog 45 #[.agg #[.slice (some ⟨gh, 0, none⟩) n n, .slice (some ⟨gn, 0, none⟩) n n, .slice (some ⟨go, 0, none⟩) n n], bv, .int .i64 h] w (SetPost h base go n O (SX H NB (P.getD h [])) w) := by
  obtain ⟨i0, hi, hz0, hz1, hz2⟩ := info_parts infoI
  obtain ⟨AN, capN, hbv, hrd⟩ := hr.rd hN.len
  subst hbv
  have hgo := (World.ownsRow.lt D.o go rfl).2
  have hgh := (World.ownsRow.lt D.h gh rfl).2
  have hgn := D.p.lt
  have hPlen := hP.len
  have cP0 := D.p.cell h
  obtain ⟨u, hu1, hu2, hu3⟩ := D.p.at h (by rw [List.length_map, hPlen]; exact hh)
  have hu4 : (P.map zi)[h]'(by rw [List.length_map, hPlen]; exact hh) = zi (P.getD h []) := by
    rw [List.getElem_map, List.getD_eq_getElem?_getD, List.getElem?_eq_getElem (by omega)]; rfl
  rw [hu4] at hu3
  have hune : ∀ k, u.ownBlock = some k → k ≠ go := fun k hk => D.po h u k hu1 hk
  have hPn : ∀ x ∈ P.getD h [], x < n := hP.get
  obtain ⟨Q, hQ⟩ : ∃ Q, P.getD h [] = Q := ⟨_, rfl⟩
  rw [hQ] at hu3 hPn hXS hcn hPl ⊢
  obtain ⟨X, hX⟩ : ∃ X, SX H NB Q = X := ⟨_, rfl⟩
  rw [hX] at hXS hcn ⊢
  obtain ⟨UA, ucap, hus⟩ := own_slice hu3
  rw [zi_length] at hus
  subst hus
  have hw1 := below_new w (.cells #[.slice (some ⟨gh, 0, none⟩) n n, .slice (some ⟨gn, 0, none⟩) n n, .slice (some ⟨go, 0, none⟩) n n] 62)
  have hblk := Blk.new w 62 #[.slice (some ⟨gh, 0, none⟩) n n, .slice (some ⟨gn, 0, none⟩) n n, .slice (some ⟨go, 0, none⟩) n n]
  have g0 : w.grownBy (w.alloc (.cells #[.slice (some ⟨gh, 0, none⟩) n n, .slice (some ⟨gn, 0, none⟩) n n, .slice (some ⟨go, 0, none⟩) n n] 62)) (some go) := World.grownBy_alloc w _ _
  have c2n := keep_below hw1 hu2
  have D1 := D.kept hw1
  have U1 := hu3.below hw1
  have hBB : B ≤ (w.alloc (.cells #[.slice (some ⟨gh, 0, none⟩) n n, .slice (some ⟨gn, 0, none⟩) n n, .slice (some ⟨go, 0, none⟩) n n] 62)).heap.size := Nat.le_trans hBw hw1.size
  have RD1 : ∀ k, k < n → ∃ b off u A2 cap2, AN = some ⟨b, off, none⟩ ∧ b < B ∧ (w.alloc (.cells #[.slice (some ⟨gh, 0, none⟩) n n, .slice (some ⟨gn, 0, none⟩) n n, .slice (some ⟨go, 0, none⟩) n n] 62)).cell? ⟨b, off + k, none⟩ = some u ∧ u = .slice A2 (NB.getD k []).length cap2 ∧ (0 < (NB.getD k []).length → ∃ b2 off2, A2 = some ⟨b2, off2, none⟩ ∧ b2 < B ∧ ∀ j (h : j < (NB.getD k []).length), (w.alloc (.cells #[.slice (some ⟨gh, 0, none⟩) n n, .slice (some ⟨gn, 0, none⟩) n n, .slice (some ⟨go, 0, none⟩) n n] 62)).cell? ⟨b2, off2 + j, none⟩ = some (.int .i64 ((NB.getD k [])[j] : Nat))) := fun k hk => by
    obtain ⟨b, off, u, A2, cap2, h1, h2, h3, h4, h5⟩ := hrd k hk
    refine ⟨b, off, u, A2, cap2, h1, h2, keep_below hw1 h3, h4, fun h0 => ?_⟩
    obtain ⟨b2, off2, h6, h7, h8⟩ := h5 h0
    exact ⟨b2, off2, h6, h7, fun j hj => keep_below hw1 (h8 j hj)⟩
  have gsz : w.heap.size < (w.alloc (.cells #[.slice (some ⟨gh, 0, none⟩) n n, .slice (some ⟨gn, 0, none⟩) n n, .slice (some ⟨go, 0, none⟩) n n] 62)).heap.size := by simp
  obtain ⟨W, hW⟩ : ∃ W, w.alloc (.cells #[.slice (some ⟨gh, 0, none⟩) n n, .slice (some ⟨gn, 0, none⟩) n n, .slice (some ⟨go, 0, none⟩) n n] 62) = W := ⟨_, rfl⟩
  rw [hW] at hblk g0 c2n D1 U1 hBB gsz
  simp only [hW] at RD1
  obtain ⟨gb, hgb⟩ : ∃ gb, w.heap.size = gb := ⟨_, rfl⟩
  have gbo : gb ≠ go := by omega
  rw [hgb] at hblk gsz
  have b0 : W.cell? ⟨gb, 0, none⟩ = some (.slice (some ⟨gh, 0, none⟩) n n) := hblk.cell 0
  have b1 : W.cell? ⟨gb, 1, none⟩ = some (.slice (some ⟨gn, 0, none⟩) n n) := hblk.cell 1
  have b2 : W.cell? ⟨gb, 2, none⟩ = some (.slice (some ⟨go, 0, none⟩) n n) := hblk.cell 2
  have HB := Lib.hid hblk
  have HD := Lib.hid D1
  have HU := Lib.hid U1
  have HG0 := Lib.hid g0
  have HRD := Lib.hid RD1
  have HN := Lib.hid hN
  have HLN := Lib.hid hLB
  have HPN := Lib.hid hPn
  have HXS := Lib.hid hXS
  have HCN := Lib.hid hcn
  have HX := Lib.hid hX
  have HHN := Lib.hid hHn
  have HHL := Lib.hid hHl
  have HOL := Lib.hid hOl
  have HO9 := Lib.hid hO9
  have HUN := Lib.hid hune
  have hhi : (h : Int) < n := by omega
  have hh0 : (0 : Int) ≤ h := by omega
  have HGB := Lib.hid hgb
  have HWW := Lib.hid hW
  clear hrd hr D hu1 hu2 hu3 hu4 hune hPn hQ hX hXS hcn hw1 hblk g0 D1 U1 RD1 hN hLB hHn hHl hOl hO9 cP0 hPlen hP
  go_enter Tryz.func45, Tryz.ntmps45
  rw [HGB.out] at *
  go_wp2_with fail
  go_loopw [7, 19] (fun fv i wl => SRel h base go n H NB Q O W fv i wl) (fun _ i _ => Q.length - (intOf i).toNat)
  case atStart => exact ⟨0, rfl, by omega, OwnI.nil _ _, HD.out.o, ⟨rfl, rfl, rfl, Nat.le_refl _, fun _ _ _ => rfl⟩⟩
  case round =>
    obtain ⟨k, rfl, hk, hf, ho, hg⟩ := hrel
    obtain ⟨FA, fcap, hfv⟩ := own_slice hf
    rw [zi_length] at hfv
    have hgob : go < W.heap.size := by omega
    by_cases hlt : k < Q.length
    · have hUw := HU.out.kept hg (by
        cases e : (Value.slice UA Q.length ucap).ownBlock with
        | none => exact .inl rfl
        | some j => exact .inr (fun e2 => by injection e2 with e2; exact HUN.out j e e2))
      obtain ⟨gu, rfl, cu⟩ := own_rd hUw k (by rw [zi_length]; exact hlt)
      obtain ⟨x, hxk⟩ : ∃ x, Q[k]? = some x := ⟨_, List.getElem?_eq_getElem hlt⟩
      have hx1 : (zi Q)[k]'(by rw [zi_length]; exact hlt) = (x : Int) := by
        have h1 := (List.getElem?_eq_some_iff.1 hxk).2
        simp [zi, h1]
      rw [hx1] at cu
      have hxn := HPN.out x (List.mem_of_getElem? hxk)
      obtain ⟨b, off, uv, A2, cap2, rfl, hbn, hun, rfl, hin⟩ := HRD.out x hxn
      have hBel : Below B W wr := (Below.refl B W).grown hg hBB (fun j hj => by injection hj with hj; omega)
      have cn := (hBel.cell (p := ⟨b, off + x, none⟩) hbn).trans hun
      obtain ⟨m, hm⟩ : ∃ m, (NB.getD x []).length = m := ⟨_, rfl⟩
      have HIN := Lib.hid hin
      have hmb := HLN.out x
      rw [hm] at cn hmb
      have HM2 := Lib.hid hm
      have HXK := Lib.hid hxk
      have HF1 := Lib.hid hf
      have HO1 := Lib.hid ho
      have HGR := Lib.hid hg
      have hx0 : (0 : Int) ≤ x := by omega
      have hxi : (x : Int) < n := by omega
      obtain ⟨Y, hY⟩ : ∃ Y, SX H NB (Q.take k) = Y := ⟨_, rfl⟩
      rw [hY] at HF1 HO1
      have HY := Lib.hid hY
      obtain ⟨l, hl⟩ : ∃ l, NB.getD x [] = l := ⟨_, rfl⟩
      rw [hl] at HIN HM2
      have HL := Lib.hid hl
      clear hx1 hxk hin hun hm hf ho hg hBel hUw hfv hY hl
      obtain ⟨wo, rfl⟩ : ∃ wo : World, wo = wr := ⟨_, rfl⟩
      go_wp2_with fail
      go_loopw [7, 28] (fun fv i wl => SRel1 h base go n m H Y l O W fv i wl) (fun _ i _ => m - (intOf i).toNat)
      case atStart => exact ⟨0, rfl, by omega, by simpa using HF1.out, by simpa using HO1.out, HGR.out⟩
      case round =>
        obtain ⟨j, rfl, hj, hf, ho, hg⟩ := hrel
        obtain ⟨FA2, fcap2, hfv⟩ := own_slice hf
        rw [zi_length] at hfv
        by_cases hlt2 : j < m
        · have hBel : Below B W wr := (Below.refl B W).grown hg hBB (fun j hj => by injection hj with hj; omega)
          have hjl : j < l.length := by rw [HM2.out]; exact hlt2
          obtain ⟨b2, off2, rfl, hb2, hcs⟩ := HIN.out (by omega)
          have c2 := (hBel.cell (p := ⟨b2, off2 + j, none⟩) hb2).trans (hcs j hjl)
          have hvn : l[j] < n := by have := HN.out.get (v := x) (l[j]) (by rw [HL.out]; exact List.getElem_mem hjl); exact this
          have hstep := sx_step H Y l j hjl
          have hpre := sx_pre H NB Q k x (j + 1) HXK.out
          rw [HX.out, HL.out, HY.out, hstep] at hpre
          have hblk := HB.out.grown hg (fun e => by injection e with e; exact gbo e)
          have e0 : wr.cell? ⟨gb, 0, none⟩ = some (.slice (some ⟨gh, 0, none⟩) n n) := hblk.cell 0
          have e2 : wr.cell? ⟨gb, 2, none⟩ = some (.slice (some ⟨go, 0, none⟩) n n) := hblk.cell 2
          obtain ⟨v, hv⟩ : ∃ v, l[j] = v := ⟨_, rfl⟩
          rw [hv] at c2 hvn hstep hpre
          have hHw := HD.out.h.kept hg (.inr (fun e => by injection e with e; exact HD.out.ho e))
          have cH := hHw.cell v (by rw [zi_length, HHL.out]; exact hvn)
          have hzn := HHN.out v hvn
          have hz1 : (zi H)[v]'(by rw [zi_length, HHL.out]; exact hvn) = ((H.getD v 0 : Nat) : Int) := by simp [zi, List.getD_eq_getElem?_getD, HHL.out, hvn]
          rw [hz1] at cH
          obtain ⟨z, hz⟩ : ∃ z, H.getD v 0 = z := ⟨_, rfl⟩
          rw [hz] at cH hzn hstep hpre
          obtain ⟨Z, hZ⟩ : ∃ Z, Y ++ (l.take j).map (fun v => H.getD v 0) = Z := ⟨_, rfl⟩
          rw [hZ] at hf ho hstep hpre hfv
          have hv0 : (0 : Int) ≤ v := by omega
          have hvi : (v : Int) < n := by omega
          have hz0' : (0 : Int) ≤ z := by omega
          have hzi : (z : Int) < n := by omega
          by_cases hzh : z = h
          · have hzb : ((z : Int) == (h : Int)) = true := by simp [hzh]
            have HF2 : Hid (OwnI wr W.heap.size u7 (zi (foldS h O (Y ++ (l.take (j + 1)).map (fun v => H.getD v 0))).2)) := Lib.hid (by rw [hstep, hzh, foldS_skip]; exact hf)
            have HO2 : Hid (OwnI wr base (.slice (some ⟨go, 0, none⟩) n n) (zi (foldS h O (Y ++ (l.take (j + 1)).map (fun v => H.getD v 0))).1)) := Lib.hid (by rw [hstep, hzh, foldS_skip]; exact ho)
            have HG2 := Lib.hid hg
            clear hBel hcs hjl hstep hpre hblk hv hHw hz1 hz hZ hf ho hg hfv
            go_wp2_with fail
            go_roundw
            case rel => exact ⟨j + 1, by go_num, by omega, HF2.out, HO2.out, HG2.out⟩
            case measure => simp [intOf]; omega
          · have hzb : ((z : Int) == (h : Int)) = false := by simp; omega
            have hpos := pre_pos hpre HCN.out hzh
            have hget := foldS_get h O Z z
            rw [if_neg hzh] at hget
            have hO9 := HO9.out z
            have hfl := free_len (List.IsPrefix.trans ⟨[z], rfl⟩ hpre) HCN.out HXS.out
            have hpush := foldS_push (O := O) (Y := Z) hzh
            have hdec := foldS_dec (O := O) (Y := Z) hzh
            have hll := foldS_len h O Z
            rw [HOL.out] at hll
            obtain ⟨⟨O2, F⟩, hOF⟩ : ∃ p, foldS h O Z = p := ⟨_, rfl⟩
            rw [hOF] at hf ho hpos hget hfl hpush hdec hll hfv
            simp only at hf ho hpos hget hfl hpush hdec hll hfv
            subst hfv
            obtain ⟨q, hq⟩ : ∃ q, O2.getD z 0 = q + 1 := ⟨O2.getD z 0 - 1, by omega⟩
            have hqb : q ≤ 100000000 := by omega
            have cO := ho.cell z (by rw [zi_length, hll]; exact hzn)
            have hq1 : (zi O2)[z]'(by rw [zi_length, hll]; exact hzn) = (q : Int) + 1 := by
              have : (zi O2)[z]'(by rw [zi_length, hll]; exact hzn) = ((O2.getD z 0 : Nat) : Int) := by simp [zi, List.getD_eq_getElem?_getD, hll, hzn]
              rw [this, hq]; omega
            rw [hq1] at cO
            have ho1 := ho.store z (by rw [zi_length, hll]; exact hzn) (q : Int)
            rw [← zi_set] at ho1
            have fz : wr.frozen? ⟨go, z, none⟩ = false := by
              have h1 := ho
              unfold OwnI at h1
              rw [zi_length, hll] at h1
              exact own_free h1 z
            have hgs := grown_set wr go z (.int .i64 (q : Int))
            have hgg := hg.trans hgs
            have hf1 := hf.kept hgs (by
              right; intro e
              have := (World.ownsRow.lt hf go e).1
              omega)
            have hblk2 := hblk.grown hgs (fun e => by injection e with e; exact gbo e)
            have cO2 := ho1.cell z (by rw [zi_length, List.length_set, hll]; exact hzn)
            have hq2 : (zi (O2.set z q))[z]'(by rw [zi_length, List.length_set, hll]; exact hzn) = (q : Int) := by simp [zi]
            rw [hq2] at cO2
            have t0 : (wr.setCell ⟨go, z, none⟩ (.int .i64 (q : Int))).cell? ⟨gb, 2, none⟩ = some (.slice (some ⟨go, 0, none⟩) n n) := hblk2.cell 2
            have w1 : IntKind.i64.wrap ((q : Int) + 1 - 1) = q := by rw [IntWalk.i64_in _ (by omega)]; omega
            have w2 : (q : Int) + 1 - 1 = q := by omega
            have w3 : IntKind.i64.wrap (q : Int) = q := IntWalk.i64_in _ (by omega)
            have hgsz := hg.size
            by_cases hq0 : q = 0
            · have hqb2 : ((q : Int) == 0) = true := by simp [hq0]
              have hpz := hpush (by rw [hq, hq0])
              have hs0 : (wr.setCell ⟨go, z, none⟩ (.int .i64 (q : Int))).heap.size = wr.heap.size := by simp [World.setCell]
              have HAP : Hid (∀ (v' : Value) (w2 : World), w2.ownsRow W.heap.size 3 1 v' (F.length + 1) (iv (zi F) ++ [.int .i64 (z : Int)]) → ((wr.setCell ⟨go, z, none⟩ (.int .i64 (q : Int))).alloc (.cells #[.int .i64 (z : Int)] 3)).grownBy w2 (Value.slice FA2 F.length fcap2).ownBlock → OwnI w2 W.heap.size v' (zi (foldS h O (Y ++ (l.take (j + 1)).map (fun v => H.getD v 0))).2) ∧ OwnI w2 base (.slice (some ⟨go, 0, none⟩) n n) (zi (foldS h O (Y ++ (l.take (j + 1)).map (fun v => H.getD v 0))).1) ∧ W.grownBy w2 (some go)) := fun v' w2 h1 h2 => by
                have x1 := hf1.below (below_new _ (.cells #[.int .i64 (z : Int)] 3))
                have x2 := ho1.below (below_new _ (.cells #[.int .i64 (z : Int)] 3))
                have x3 := hgg.trans (World.grownBy_alloc _ (.cells #[.int .i64 (z : Int)] 3) _)
                rw [hstep, hpz]
                refine ⟨?_, ?_, grown_row x3 x1 (Nat.le_refl _) h2⟩
                · unfold OwnI
                  simp only
                  rw [zi_append, List.length_append, zi_length, iv_append]; exact h1
                · simp only
                  have x4 : OwnI w2 base (.slice (some ⟨go, 0, none⟩) n n) (zi (O2.set z q)) := x2.kept h2 (.inr fun e => by
                    have := (World.ownsRow.lt x1 go e.symm).1
                    omega)
                  rw [show O2.set z q = O2.set z 0 by rw [hq0]] at x4
                  exact x4
              have HOW : Hid ((wr.setCell ⟨go, z, none⟩ (.int .i64 (q : Int))).ownsRow W.heap.size 3 1 (.slice FA2 F.length fcap2) F.length (iv (zi F))) := by have := hf1; unfold OwnI at this; rw [zi_length] at this; exact this
              obtain ⟨W2, hW2⟩ : ∃ W2, wr.setCell ⟨go, z, none⟩ (.int .i64 (q : Int)) = W2 := ⟨_, rfl⟩
              rw [hW2] at HAP HOW cO2 t0 hs0
              have HL1 : Hid (F.length + 1 ≤ maxLen) := Lib.hid (by unfold maxLen; omega)
              have HL2 : Hid ((F.length + 1) * 8 ≤ 140737488355328) := Lib.hid (by omega)
              have HL3 : Hid (W.heap.size ≤ (W2.alloc (.cells #[.int .i64 (z : Int)] 3)).heap.size) := Lib.hid (by simp; omega)
              clear hBel hcs hjl hstep hpre hblk hv hHw hz1 hz hZ hf ho hg hpos hget hO9 hfl hpush hdec hll hOF hq hq1 ho1 hgs hgg hf1 hblk2 hq2 hq0 hpz hs0 hgsz
              go_wp2_with (at_builtin; refine wpList_append_own _ rfl _ _ 33 rfl W.heap.size 3 i0 (.int .i64 0) 1 8 Tryz.underlying33 hi hz0 hz1 hz2 rfl (by decide) _ _ _ rfl (World.ownsRow.alloc HOW.out _) ⟨W2.heap.size, 0, none⟩ 1 1 [.int .i64 (z : Int)] rfl rfl (cell_one_new _ _ _) (by simp [Value.oneCell']) HL1.out HL2.out HL3.out ?_; intro v' w4 hown' hgrow _; obtain ⟨hq1, hq2, hq3⟩ := HAP.out v' w4 hown' hgrow; replace hq1 := Lib.hid hq1; replace hq2 := Lib.hid hq2; replace hq3 := Lib.hid hq3; clear hown' hgrow)
              go_roundw
              case rel => exact ⟨j + 1, by go_num, by omega, hq1.out, hq2.out, hq3.out⟩
              case measure => simp [intOf]; omega
            · have hqb2 : ((q : Int) == 0) = false := by simp; omega
              have hdz := hdec (by omega) (by omega)
              rw [hq, Nat.add_sub_cancel] at hdz
              have HF2 : Hid (OwnI (wr.setCell ⟨go, z, none⟩ (.int .i64 (q : Int))) W.heap.size (.slice FA2 F.length fcap2) (zi (foldS h O (Y ++ (l.take (j + 1)).map (fun v => H.getD v 0))).2)) := Lib.hid (by rw [hstep, hdz]; exact hf1)
              have HO2 : Hid (OwnI (wr.setCell ⟨go, z, none⟩ (.int .i64 (q : Int))) base (.slice (some ⟨go, 0, none⟩) n n) (zi (foldS h O (Y ++ (l.take (j + 1)).map (fun v => H.getD v 0))).1)) := Lib.hid (by rw [hstep, hdz]; exact ho1)
              have HG2 := Lib.hid hgg
              obtain ⟨W2, hW2⟩ : ∃ W2, wr.setCell ⟨go, z, none⟩ (.int .i64 (q : Int)) = W2 := ⟨_, rfl⟩
              rw [hW2] at HF2 HO2 HG2 cO2 t0
              clear hBel hcs hjl hstep hpre hblk hv hHw hz1 hz hZ hf ho hg hpos hget hO9 hfl hpush hdec hll hOF hq hq1 ho1 hgs hgg hf1 hblk2 hq2 hq0 hdz hgsz
              go_wp2_with fail
              go_roundw
              case rel => exact ⟨j + 1, by go_num, by omega, HF2.out, HO2.out, HG2.out⟩
              case measure => simp [intOf]; omega
        · have hjm : j = m := by omega
          have hlm := HM2.out
          have hnx := sx_next H NB Q k x HXK.out
          rw [HL.out, HY.out] at hnx
          have hkl := (List.getElem?_eq_some_iff.1 HXK.out).1
          rw [hjm, List.take_of_length_le (by omega), ← hnx] at hf ho
          have HF3 := Lib.hid hf
          have HO3 := Lib.hid ho
          have HG3 := Lib.hid hg
          have hge : ¬ ((j : Int) < m) := by omega
          clear hjm hf ho hg hlm hnx hfv
          go_wp2_with fail
          go_roundw
          case rel => exact ⟨k + 1, by go_num, by omega, HF3.out, HO3.out, HG3.out⟩
          case measure => simp [intOf]; omega
    · have hkl : k = Q.length := by omega
      rw [hkl, List.take_length, HX.out] at hf ho
      have HF : Hid (SetPost h base go n O X w (.returned u7) wr) := Lib.hid ⟨_, rfl, hf.base (by have := HGB.out; omega), ho, HG0.out.trans hg⟩
      have hge : ¬ ((k : Int) < Q.length) := by omega
      clear hkl hf ho hg hfv
      go_wp2_with fail
      go_ret
      exact HF.out
end Go.Proofs.YtmnhnighlgpjmaaGreat
