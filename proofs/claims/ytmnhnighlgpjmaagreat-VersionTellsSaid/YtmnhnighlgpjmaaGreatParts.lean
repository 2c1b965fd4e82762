/-
  The program's Parts.
-/
import Derived.Test.YtmnhnighlgpjmaaGreatPartA
import Derived.Test.YtmnhnighlgpjmaaGreatDiv
import Derived.Test.YtmnhnighlgpjmaaGreatWayP
namespace Go.Proofs.YtmnhnighlgpjmaaGreat
set_option linter.unusedVariables false
set_option linter.unusedSimpArgs false
open Go.RowKit

theorem parts_bad (n : Int) (v : Value) (l : List Sp) (w : World) (hri : rightB n l = false) (hr : SRow w w.heap.size v l) :
    Calls Tryz.prog 29 #[.int .i64 n, v] w (NilPost w) := by
  have HC := rightP n v l w hr
  rw [hri] at HC
  have HC2 := Lib.hid HC
  clear HC hr hri
  go_enter Tryz.func29, Tryz.ntmps29
  go_wp2_with fail
  refine HC2.out.mono ?_; rintro e w1 ⟨rfl, hb⟩
  have HB := Lib.hid hb
  clear hb
  go_wp2_with fail
  go_ret
  exact ⟨rfl, HB.out⟩
set_option maxRecDepth 100000 in
set_option maxHeartbeats 8000000 in
theorem parts_ok (n : Nat) (v : Value) (l : List Sp) (w : World) (hri : rightB n l = true) (hn : n ≤ 900) (hl : l.length ≤ 1000) (hr : SRow w w.heap.size v l) :
    Calls Tryz.prog 29 #[.int .i64 n, v] w (PartsPost (toA l) n w) := by
  obtain ⟨i0, hi, hz0, hz1, hz2⟩ := info_parts infoL
  have hA := right_toA hri
  have hlen : (toA l).length ≤ 1000 := by simp [toA]; omega
  have HC := rightP n v l w hr
  rw [hri] at HC
  have HC2 := Lib.hid HC
  have HR := Lib.hid hr
  have HRI : Hid (rightB (n : Int) l = true) := hri
  have HS1 := succ_nextOf hA
  have HS2 := succ_backOf HS1
  have hL1 : ∀ v, ((nextOf n (toA l)).getD v []).length ≤ 1000 := fun v => Nat.le_trans (nextOf_len n (toA l) v) hlen
  have hpl : (pairs (nextOf n (toA l))).length ≤ 1000 := by rw [(pairs_perm hA).length_eq]; exact hlen
  have hL2 : ∀ v, ((backOf (nextOf n (toA l))).getD v []).length ≤ 1000 := fun v => by
    rw [backOf_eq]; unfold backA
    exact Nat.le_trans (addA_len _ _ _) (by rw [List.length_map]; exact hpl)
  have hL3 : ∀ m ∈ nextOf n (toA l), m.length ≤ 1000 := fun m hm => by
    obtain ⟨i, hi, rfl⟩ := List.getElem_of_mem hm
    have := hL1 i
    rw [List.getD_eq_getElem?_getD, List.getElem?_eq_getElem hi] at this
    exact this
  have hM1 : ∀ v, v < n → ∀ x, x ∈ (nextOf n (toA l)).getD v [] ↔ (v, x) ∈ toA l := fun v hv x => by
    rw [nextOf_get, (srt_perm _).mem_iff, addA_mem n _ v x hv]
  have hM2 : ∀ v, v < n → ∀ x, x ∈ (backOf (nextOf n (toA l))).getD v [] ↔ (x, v) ∈ toA l := fun v hv x => by
    rw [mem_backOf (by rw [nextOf_length]; exact hv)]
    by_cases hx : x < n
    · exact hM1 x hx v
    · refine ⟨fun h => ?_, fun h => absurd (hA _ h).1 hx⟩
      rw [List.getD_eq_getElem?_getD, List.getElem?_eq_none (by rw [nextOf_length]; omega)] at h
      simp at h
  have HA := Lib.hid hA
  have HL1 := Lib.hid hL1
  have HL2 := Lib.hid hL2
  have HL3 := Lib.hid hL3
  have HM1 := Lib.hid hM1
  have HM2 := Lib.hid hM2
  have HSS1 := Lib.hid HS1
  have HSS2 := Lib.hid HS2
  have HPL := Lib.hid hpl
  clear HC hri hr hA HS1 HS2 hL1 hL2 hL3 hM1 hM2 hpl hlen
  go_enter Tryz.func29, Tryz.ntmps29
  go_wp2_with fail
  refine HC2.out.mono ?_; rintro e w1 ⟨rfl, hb⟩
  have HSU := Lib.hid (succP v l n w1 HRI.out (by omega) hl (HR.out.keep hb))
  have HB1 := Lib.hid hb
  clear hb HC2
  go_wp2_with fail
  refine HSU.out.mono ?_; rintro e w2 ⟨g, vs, rfl, hne, hb2⟩
  have HB2 := Lib.hid (HB1.out.trans (hb2.mono HB1.out.size))
  have hrow := nest_lrow HSS1.out hne (by omega) (fun v => Nat.le_trans (HL1.out v) (by omega))
  have HTU := Lib.hid (turnedP _ (nextOf n (toA l)) n w2 HSS1.out (by omega) HL3.out hrow)
  have HROW := Lib.hid hrow
  clear hrow hb2 HSU hne
  go_wp2_with fail
  refine HTU.out.mono ?_; rintro e w3 ⟨gk, vk, rfl, hnb, hb3⟩
  have HB3 := Lib.hid (HB2.out.trans (hb3.mono HB2.out.size))
  have hrow2 := nest_lrow HSS2.out hnb (by omega) (fun v => Nat.le_trans (HL2.out v) (by omega))
  have HROW2 := Lib.hid hrow2
  have HDI := Lib.hid (divideP _ _ _ _ (toA l) n w3 HA.out HSS1.out HSS2.out HM1.out HM2.out (fun v => Nat.le_trans (HL1.out v) (by omega)) (fun v => Nat.le_trans (HL2.out v) (by omega)) hn (HROW.out.keep hb3) hrow2)
  clear hrow2 hnb hb3 HTU HB2 HROW
  go_wp2_with fail
  refine HDI.out.mono ?_; rintro e w4 ⟨gh, gn, go, vd, rfl, hd4, hb4⟩
  have HD4 := Lib.hid hd4
  have HB4 := Lib.hid hb4
  clear hd4 hb4 HDI
  have HM0 := Lib.hid (PMem.start HD4.out HB4.out)
  have HGE := Lib.hid (by have := (World.ownsRow.lt HD4.out.o go rfl).1; exact this : w3.heap.size ≤ go)
  have HB5 : Hid (Below w.heap.size w w3) := HB3
  have HWS : Hid (w.heap.size ≤ w4.heap.size + 1) := Lib.hid (by have := HB3.out.size; have := HB4.out.size; omega)
  clear HD4 HB4 HB3 HL1 HL3 HM1 HM2 HSS1 HRI HR
  go_wp2_with fail
  generalize ((w4.alloc (.cells #[.slice (some ⟨gh, 0, none⟩) n n, .slice (some ⟨gn, 0, none⟩) n n, .slice (some ⟨go, 0, none⟩) n n] 62)).alloc (.cells #[] 3)).alloc (.cells #[.slice (some ⟨w4.heap.size + 1, 0, none⟩) 0 0] 65) = W5 at *
  generalize hbase : w4.heap.size + 1 = base at *
  clear hbase
  generalize w4.heap.size = db at *
  go_loopw [31] (fun i wl => P1Rel w3.heap.size base gh gn go (base + 1) db n (toA l) vd w3 i wl) (fun i _ => n - (intOf i).toNat)
  case atStart => exact ⟨0, [], _, rfl, by omega, by simp, HM0.out⟩
  case round =>
    obtain ⟨k, h, sl, rfl, hk, hp, M⟩ := hrel
    have hhl : h.length ≤ k := by
      have h1 := hp.length_eq
      have h2 := List.length_filter_le (firstB (toA l) n) (List.range k)
      rw [List.length_range] at h2
      omega
    by_cases hlt : k < n
    · have e1 : wr.cell? ⟨db, 1, none⟩ = some (.slice (some ⟨gn, 0, none⟩) n n) := M.bk.cell 1
      have e2 : wr.cell? ⟨db, 2, none⟩ = some (.slice (some ⟨go, 0, none⟩) n n) := M.bk.cell 2
      have hPl : (nodesA (toA l) n).length = n := addA_length _ _
      obtain ⟨u, hu1, cu, hu3⟩ := M.d.p.at k (by rw [List.length_map, hPl]; exact hlt)
      have hu4 : ((nodesA (toA l) n).map zi)[k]'(by rw [List.length_map, hPl]; exact hlt) = zi ((nodesA (toA l) n).getD k []) := by
        rw [List.getElem_map, List.getD_eq_getElem?_getD, List.getElem?_eq_getElem (by omega)]; rfl
      rw [hu4] at hu3
      obtain ⟨UA, ucap, rfl⟩ := own_slice hu3
      rw [zi_length] at cu
      have hOl : (openA (toA l) n).length = n := openL_length _ _ _
      have cO := M.d.o.cell k (by rw [zi_length, hOl]; exact hlt)
      have hz1 : (zi (openA (toA l) n))[k]'(by rw [zi_length, hOl]; exact hlt) = (((openA (toA l) n).getD k 0 : Nat) : Int) := by simp [zi, List.getD_eq_getElem?_getD, hOl, hlt]
      rw [hz1] at cO
      have hfs := first_step (toA l) n k
      have hfd : firstB (toA l) n k = (decide (0 < ((nodesA (toA l) n).getD k []).length) && decide ((openA (toA l) n).getD k 0 = 0)) := rfl
      obtain ⟨p, hpp⟩ : ∃ p, ((nodesA (toA l) n).getD k []).length = p := ⟨_, rfl⟩
      obtain ⟨z, hzz⟩ : ∃ z, (openA (toA l) n).getD k 0 = z := ⟨_, rfl⟩
      rw [hpp] at cu hfd
      rw [hzz] at cO hfd
      have hk0 : (0 : Int) ≤ k := by omega
      have hki : (k : Int) < n := by omega
      by_cases hp0 : 0 < p
      · by_cases hz0' : z = 0
        · have hzb : ((z : Int) == 0) = true := by simp [hz0']
          have hpi : (0 : Int) < p := by omega
          have HPM : Hid ((h ++ [k]).Perm ((List.range (k + 1)).filter (firstB (toA l) n))) := Lib.hid (by
            rw [hfs, if_pos (by rw [hfd]; simp [hp0, hz0'])]
            exact hp.append_right _)
          have HPU := Lib.hid (heapPushP M.hp M.ok k M.hb0 (by omega))
          have HM := Lib.hid M
          clear M hp hu1 hu3 hu4 hz1 hfs hfd hpp hzz hOl hPl hz0'
          go_wp2_with fail
          refine HPU.out.mono ?_; rintro e w6 ⟨rfl, sl2, h2, H2, ok2, pm2, K2⟩
          have HM2 := Lib.hid (HM.out.heap K2 H2 ok2)
          have HPM2 := Lib.hid (pm2.trans HPM.out)
          clear H2 ok2 pm2 K2 HM HPM HPU e1 e2 cu cO
          go_wp2_with fail
          go_roundw
          case rel => exact ⟨k + 1, h2, sl2, by go_num, by omega, HPM2.out, HM2.out⟩
          case measure => simp [intOf]; omega
        · have hzb : ((z : Int) == 0) = false := by simp; omega
          have hpi : (0 : Int) < p := by omega
          have HPM2 : Hid (h.Perm ((List.range (k + 1)).filter (firstB (toA l) n))) := Lib.hid (by
            rw [hfs, if_neg (by rw [hfd]; simp [hz0']), List.append_nil]
            exact hp)
          have HM2 := Lib.hid M
          clear M hp hu1 hu3 hu4 hz1 hfs hfd hpp hzz hOl hPl hz0'
          go_wp2_with fail
          go_roundw
          case rel => exact ⟨k + 1, h, sl, by go_num, by omega, HPM2.out, HM2.out⟩
          case measure => simp [intOf]; omega
      · have hp1 : p = 0 := by omega
        have hpi : decide ((0 : Int) < p) = false := by simp; omega
        have hpn : decide (0 < p) = false := by simp; omega
        have HPM2 : Hid (h.Perm ((List.range (k + 1)).filter (firstB (toA l) n))) := Lib.hid (by
          rw [hfs, if_neg (by rw [hfd]; simp [hp1]), List.append_nil]
          exact hp)
        have HM2 := Lib.hid M
        clear M hp hu1 hu3 hu4 hz1 hfs hfd hpp hzz hOl hPl hp1
        go_wp2_with fail
        go_roundw
        case rel => exact ⟨k + 1, h, sl, by go_num, by omega, HPM2.out, HM2.out⟩
        case measure => simp [intOf]; omega
    · obtain rfl : n = k := by omega
      have HMK := Lib.hid M
      have HRD := Lib.hid (Rdy.start HA.out hp)
      clear M hp HM0 hlt
      obtain ⟨wo, rfl⟩ : ∃ wo : World, wo = wr := ⟨_, rfl⟩
      have hP0 := HMK.out
      have HSE : Hid (∀ (w6 : World) (D O h h5 : List Nat) (sl5 : Value) (m : Nat), Rdy (toA l) n D h O → Next (toA l) n D m → O.length = n → (∀ x, O.getD x 0 ≤ 100000000) → PMem go w3.heap.size base gh gn go (base + 1) db n (hdL (toA l) n) vd (nodesA (toA l) n) w3 O h5 sl5 w6 →
          Calls Tryz.prog 45 #[.agg #[.slice (some ⟨gh, 0, none⟩) n n, .slice (some ⟨gn, 0, none⟩) n n, .slice (some ⟨go, 0, none⟩) n n], .slice (some ⟨gk, 0, none⟩) n n, .int .i64 m] w6 (SetPost m w3.heap.size go n O (SX (hdL (toA l) n) (backA (toA l) n) (partOf (toA l) n m)) w6)) := Lib.hid (fun w6 D O h h5 sl5 m R N ol o9 M6 => by
        have hNB : Succ n (backA (toA l) n) := by rw [← backOf_eq]; exact HSS2.out
        have hLB : ∀ v, ((backA (toA l) n).getD v []).length ≤ 1000000 := fun v => by rw [← backOf_eq]; exact Nat.le_trans (HL2.out v) (by omega)
        have hr : LRow w6 w3.heap.size (.slice (some ⟨gk, 0, none⟩) n n) ((backA (toA l) n).map zi) := by rw [← backOf_eq]; exact HROW2.out.below M6.bel
        have hget : (nodesA (toA l) n).getD m [] = partOf (toA l) n m := nodesA_get N.1 N.2.1
        have hout : ∀ x ∈ SX (hdL (toA l) n) (backA (toA l) n) (partOf (toA l) n m), x < n := fun x hx => (sx_out HA.out R.lis N.1 N.2.2.1 hx).1
        have := settleP (.slice (some ⟨gk, 0, none⟩) n n) (backA (toA l) n) (nodesA (toA l) n) (hdL (toA l) n) O vd n gh gn go w3.heap.size w3.heap.size m w6 hNB hLB hn hr M6.d succ_nodesA
          (fun x hx => by rw [show (hdL (toA l) n).getD x 0 = hd (toA l) n x from getD_hd _ n x hx]; exact (hd_mem hx).1) (by simp [hdL]) ol o9 HGE.out (Nat.le_trans M6.b0b M6.hb0) N.1
          (by rw [hget]; exact Nat.le_trans (List.length_filter_le _ _) (by rw [List.length_range]; omega)) (by rw [hget]; exact hout) (by rw [hget]; exact R.cnt HA.out N)
        rw [hget] at this
        exact this)
      have HFL : Hid (∀ (D h O : List Nat) (m : Nat), Rdy (toA l) n D h O → Next (toA l) n D m → (foldS m O (SX (hdL (toA l) n) (backA (toA l) n) (partOf (toA l) n m))).2.length ≤ n) := Lib.hid (fun D h O m R N =>
        free_len (List.prefix_refl _) (R.cnt HA.out N) (fun x hx => (sx_out HA.out R.lis N.1 N.2.2.1 hx).1))
      go_wp2_with fail
      go_loopw [10] (fun pv wl => PRel w3.heap.size base gh gn go (base + 1) db n (toA l) vd w3 pv wl) (fun pv _ => n + 1 - slLen pv)
      case atStart => exact ⟨[], [], openA (toA l) n, _, _, ⟨HMK.out, World.ownsRow_nil _ _ _ _, HRD.out, ToCome.start _ _, by simp, openL_length _ _ _, fun x => Nat.le_trans (openL_le _ _ _ x) (by have := HPL.out; omega)⟩⟩
      case round =>
        obtain ⟨D, ms, O, h, sl, S⟩ := hrel
        have M := S.m
        have hm1 := m_len M.hp.bx
        obtain ⟨SA, scap, hsl⟩ := own_slice M.hp.own
        rw [zi_length] at hsl
        subst hsl
        have hhn := S.r.len
        have hms := S.t.len
        rw [List.length_map] at hms
        obtain ⟨PA, pcap, rfl⟩ := prow_slice S.p
        by_cases h0 : 0 < h.length
        · have hli : (0 : Int) < h.length := by omega
          have HPO := Lib.hid (heapPopP M.hp M.ok h0 M.hb0 (by omega))
          have HS := Lib.hid S
          clear S M
          go_wp2_with fail
          refine (lenP _ _ _ _).mono ?_; rintro e wL ⟨rfl, rfl⟩
          go_wp2_with fail
          refine HPO.out.mono ?_; rintro e w5 ⟨m, rfl, hmin, sl5, h5, H5, ok5, pm5, K5⟩
          have N := (HS.out.r.iff m).1 (pm5.mem_iff.1 (by simp))
          have hmn := N.1
          have M5 := HS.out.m.heap K5 H5 ok5
          have P5 := HS.out.p.heap K5
          have R5 := HS.out.r.next HA.out pm5
          have T5 := HS.out.t.next HS.out.r HA.out pm5 hmin
          have hFl := HFL.out D h O m HS.out.r N
          have ol5 : (foldS m O (SX (hdL (toA l) n) (backA (toA l) n) (partOf (toA l) n m))).1.length = n := by rw [foldS_len]; exact HS.out.ol
          have o95 : ∀ x, (foldS m O (SX (hdL (toA l) n) (backA (toA l) n) (partOf (toA l) n m))).1.getD x 0 ≤ 100000000 := fun x => by
            rw [foldS_get]
            have := HS.out.o9 x
            split <;> omega
          have HSE5 : Hid (∀ (w6 : World), PMem go w3.heap.size base gh gn go (base + 1) db n (hdL (toA l) n) vd (nodesA (toA l) n) w3 O h5 sl5 w6 →
              Calls Tryz.prog 45 #[.agg #[.slice (some ⟨gh, 0, none⟩) n n, .slice (some ⟨gn, 0, none⟩) n n, .slice (some ⟨go, 0, none⟩) n n], .slice (some ⟨gk, 0, none⟩) n n, .int .i64 m] w6 (SetPost m w3.heap.size go n O (SX (hdL (toA l) n) (backA (toA l) n) (partOf (toA l) n m)) w6)) := Lib.hid (fun w6 M6 => HSE.out w6 D O h h5 sl5 m HS.out.r N HS.out.ol HS.out.o9 M6)
          obtain ⟨X, hX⟩ : ∃ X, SX (hdL (toA l) n) (backA (toA l) n) (partOf (toA l) n m) = X := ⟨_, rfl⟩
          rw [hX] at R5 hFl ol5 o95 HSE5
          obtain ⟨⟨O5, F⟩, hOF⟩ : ∃ p, foldS m O X = p := ⟨_, rfl⟩
          simp only [hOF] at R5 hFl ol5 o95
          have HOF := Lib.hid hOF
          have hms5 : ∀ x ∈ ms ++ [m], x < n ∧ hd (toA l) n x = x := fun x hx => by
            rcases List.mem_append.1 hx with h | h
            · exact HS.out.ms x h
            · rw [List.mem_singleton.1 h]; exact ⟨N.1, N.2.1⟩
          have h5l : h5.length ≤ n := by have := pm5.length_eq; simp at this; omega
          have hms6 : ms.length + 1 ≤ n := by
            have := T5.len
            simp at this; omega
          have e1 : w5.cell? ⟨db, 1, none⟩ = some (.slice (some ⟨gn, 0, none⟩) n n) := M5.bk.cell 1
          have hPl : (nodesA (toA l) n).length = n := addA_length _ _
          obtain ⟨u, hu1, cu, hu3⟩ := M5.d.p.at m (by rw [List.length_map, hPl]; exact hmn)
          obtain ⟨UA, ucap, hus⟩ := own_slice hu3
          obtain ⟨ul, hul⟩ : ∃ k, (((nodesA (toA l) n).map zi)[m]'(by rw [List.length_map, hPl]; exact hmn)).length = k := ⟨_, rfl⟩
          rw [hul] at hus
          subst hus
          have hvd : vd.getD m (.slice none 0 0) = .slice UA ul ucap := by rw [List.getD_eq_getElem?_getD, hu1]; rfl
          have HOW : Hid (w5.ownsRow base 33 1 (.slice PA ms.length pcap) ms.length (ms.map fun m => vd.getD m (.slice none 0 0))) := Lib.hid P5
          have HAP : Hid (∀ (v' : Value) (w2 : World), w2.ownsRow base 33 1 v' (ms.length + 1) ((ms.map fun m => vd.getD m (.slice none 0 0)) ++ [.slice UA ul ucap]) → (w5.alloc (.cells #[.slice UA ul ucap] 33)).grownBy w2 (Value.slice PA ms.length pcap).ownBlock →
              PMem go w3.heap.size base gh gn go (base + 1) db n (hdL (toA l) n) vd (nodesA (toA l) n) w3 O h5 sl5 w2 ∧ PRow w2 base vd v' (ms ++ [m])) := Lib.hid (fun v' w2 h1 h2 => by
            have M6 := M5.grow (World.grownBy_alloc w5 (.cells #[.slice UA ul ucap] 33) none) (fun k hk => by cases hk)
            have hfar := P5.far M5.hp
            refine ⟨M6.grow h2 hfar, ?_⟩
            unfold PRow
            rw [List.map_append, List.length_append]
            simp only [List.map_cons, List.map_nil, List.length_cons, List.length_nil, hvd]
            exact h1)
          have HL1 : Hid (ms.length + 1 ≤ maxLen) := Lib.hid (by unfold maxLen; omega)
          have HL2' : Hid ((ms.length + 1) * 24 ≤ 140737488355328) := Lib.hid (by omega)
          have HL3 : Hid (base ≤ (w5.alloc (.cells #[.slice UA ul ucap] 33)).heap.size) := Lib.hid (by have := M5.hb0; simp; omega)
          have hta := fun w => assert_int (m : Int) w
          have HR5 := Lib.hid R5
          have HT5 := Lib.hid T5
          have HOL5 := Lib.hid ol5
          have HO95 := Lib.hid o95
          have HMS5 := Lib.hid hms5
          have HB0 := Lib.hid M5.lt.2.2.1
          have hm0 : (0 : Int) ≤ m := by omega
          have hmi : (m : Int) < n := by omega
          clear hm1 HPO HS hmin H5 ok5 pm5 K5 N M5 P5 R5 T5 ol5 o95 hX hOF hms5 hPl hu1 hu3 hul hvd
          go_wp2_with (at_builtin; refine wpList_append_own _ rfl _ _ 45 rfl base 33 i0 (.slice none 0 0) 1 24 Tryz.underlying45 hi hz0 hz1 hz2 rfl (by decide) _ _ _ rfl (World.ownsRow.alloc HOW.out _) ⟨w5.heap.size, 0, none⟩ 1 1 [.slice UA ul ucap] rfl rfl (cell_one_new _ _ _) (by simp [Value.oneCell']) HL1.out HL2'.out HL3.out ?_; intro v' w6 hown' hgrow _; obtain ⟨hq1, hq2⟩ := HAP.out v' w6 hown' hgrow; have f0 : w6.cell? ⟨db, 0, none⟩ = some (.slice (some ⟨gh, 0, none⟩) n n) := hq1.bk.cell 0; have f1 : w6.cell? ⟨db, 1, none⟩ = some (.slice (some ⟨gn, 0, none⟩) n n) := hq1.bk.cell 1; have f2 : w6.cell? ⟨db, 2, none⟩ = some (.slice (some ⟨go, 0, none⟩) n n) := hq1.bk.cell 2; replace hq1 := Lib.hid hq1; replace hq2 := Lib.hid hq2; clear hown' hgrow)
          refine (HSE5.out _ hq1.out).mono ?_; rintro e w7 ⟨u, rfl, hf7, ho7, hg7⟩
          rw [HOF.out] at hf7 ho7
          simp only at hf7 ho7
          have M7 := hq1.out.settle hg7 ho7
          have P7 := hq2.out.settle hg7 HB0.out
          obtain ⟨f, huf, Mf⟩ := M7.split hq1.out hf7
          have hfB := hf7.base hq1.out.hb0
          obtain ⟨FA, fcap, hfs⟩ := own_slice hf7
          rw [zi_length] at hfs
          subst hfs
          have HMf := Lib.hid Mf
          have HP7 := Lib.hid P7
          have HFB := Lib.hid hfB
          have HUF := Lib.hid huf
          clear hf7 ho7 hg7 M7 P7 huf Mf hfB hq1 hq2 HSE5 HAP HOW HL1 HL2' HL3 f0 f1 f2
          obtain ⟨wo2, hwo2⟩ : ∃ wo2 : World, wo2 = wr := ⟨_, rfl⟩
          subst hwo2
          go_wp2_with fail
          go_loopw [73] (fun i wl => P3Rel f w3.heap.size base gh gn go (base + 1) db n (toA l) vd w3 O5 (ms ++ [m]) F h5 (.slice FA F.length fcap) v' i wl) (fun i _ => F.length - (intOf i).toNat)
          case atStart => exact ⟨0, h5, sl5, rfl, by omega, by simp, HMf.out, HP7.out, HFB.out⟩
          case round =>
            obtain ⟨j, h3, sl3, rfl, hj, hp3, M3, P3, U3⟩ := hrel
            have hl3 : h3.length ≤ n + n := by
              have h1 := hp3.length_eq
              rw [List.length_append, List.length_take] at h1
              omega
            by_cases hjl : j < F.length
            · obtain ⟨gu, rfl, cx⟩ := own_rd U3 j (by rw [zi_length]; exact hjl)
              obtain ⟨x, hxj⟩ : ∃ x, F[j] = x := ⟨_, rfl⟩
              have hx1 : (zi F)[j]'(by rw [zi_length]; exact hjl) = (x : Int) := by simp [zi, hxj]
              rw [hx1] at cx
              have hTk : F.take (j + 1) = F.take j ++ [F[j]] := List.take_succ_eq_append_getElem hjl
              rw [hxj] at hTk
              have HPU := Lib.hid (heapPushP M3.hp M3.ok x M3.hb0 (by omega))
              have HM3 := Lib.hid M3
              have HP3 := Lib.hid P3
              have HU3 := Lib.hid U3
              have HPM : Hid ((h3 ++ [x]).Perm (h5 ++ F.take (j + 1))) := Lib.hid (by rw [hTk, ← List.append_assoc]; exact hp3.append_right _)
              clear M3 P3 U3 hp3 hx1 hxj hTk
              go_wp2_with fail
              refine HPU.out.mono ?_; rintro e w8 ⟨rfl, sl8, h8, H8, ok8, pm8, K8⟩
              have HM8 := Lib.hid (HM3.out.heap K8 H8 ok8)
              have HP8 := Lib.hid (HP3.out.heap K8)
              have HU8 : Hid (OwnI w8 base (.slice (some ⟨gu, 0, none⟩) F.length fcap) (zi F)) := Lib.hid (row_eq HU3.out (fun k hk => by
                have := HUF.out k hk
                subst this
                exact (K8.fr HM3.out.hp.nf.1).2))
              have HPM8 := Lib.hid (pm8.trans HPM.out)
              clear H8 ok8 pm8 K8 HM3 HP3 HU3 HPM HPU cx
              go_wp2_with fail
              go_roundw
              case rel => exact ⟨j + 1, h8, sl8, by go_num, by omega, HPM8.out, HM8.out, HP8.out, HU8.out⟩
              case measure => simp [intOf]; omega
            · have hjn : j = F.length := by omega
              subst hjn
              rw [List.take_length] at hp3
              obtain ⟨PA2, pcap2, rfl⟩ := prow_slice P3
              have HN : Hid (PState w3.heap.size base gh gn go (base + 1) db n (toA l) vd w3 (D ++ partOf (toA l) n m) (ms ++ [m]) O5 h3 sl3 (.slice PA2 (ms ++ [m]).length pcap2) wr) := Lib.hid
                ⟨M3.focus (M3.hp.go HB0.out M3.hb0), P3, HR5.out.perm hp3, by rw [List.map_append]; exact HT5.out, HMS5.out, HOL5.out, HO95.out⟩
              clear M3 P3 U3 hp3
              go_wp2_with fail
              go_roundw
              case rel => exact ⟨_, _, _, _, _, HN.out⟩
              case measure => simp [slLen]; omega
        · have hlz : h.length = 0 := Nat.eq_zero_of_not_pos h0
          have hnil : h = [] := List.eq_nil_of_length_eq_zero hlz
          have hd0 : decide (0 < h.length) = false := by simpa using h0
          have hdi : decide ((0 : Int) < h.length) = false := by simp; omega
          have HF : Hid (PartsPost (toA l) n w (.returned (.slice PA ms.length pcap)) wr) := Lib.hid (PartsPost.mk _ rfl (S.done HA.out hnil hn (by have h1 := HB5.out.size; have h2 := S.m.b0b; omega)) (HB5.out.trans (S.m.bel.mono HB5.out.size)))
          clear S M hnil hlz
          go_wp2_with fail
          refine (lenP _ _ _ _).mono ?_; rintro e wL ⟨rfl, rfl⟩
          go_wp2_with fail
          go_ret
          exact HF.out
end Go.Proofs.YtmnhnighlgpjmaaGreat
