/-
  The reference's ways.
-/
import Derived.Test.YtcljgpgdbjpemaaTbl
import Derived.Test.YtcljgpgdbjpemaaRefZ
import Derived.Lib.SliceRun
import Derived.Lib.SlFresh
namespace Go.Proofs.Ytcljgpgdbjpemaa
set_option linter.unusedVariables false
set_option linter.unusedSimpArgs false
open Go.RowKit

def WysPost (A : Arcs) (R : List Nat) (N : Nat) (w : World) (e : Ending) (w' : World) : Prop := ∃ u out, e = .returned u ∧ LRow w' w'.heap.size u (out.map zi) ∧ OutOk A R N N out ∧ Below w.heap.size w w'
theorem WysPost.mk {A : Arcs} {R : List Nat} {N : Nat} {w w' : World} {e : Ending} (u : Value) (out : List (List Nat)) (h1 : e = .returned u) (h2 : LRow w' w'.heap.size u (out.map zi)) (h3 : OutOk A R N N out) (h4 : Below w.heap.size w w') : WysPost A R N w e w' := ⟨u, out, h1, h2, h3, h4⟩
def Y1Rel (N g : Nat) (R : List Nat) (w : World) (i : Value) (wl : World) : Prop := ∃ (k : Nat) (vs : List Value) (L : List (List Nat)), i = .int .i64 k ∧ k ≤ R.length ∧ Beg N (R.take k) L ∧ Tbl wl g N vs L ∧ Below w.heap.size w wl
def Y2Rel (A : Arcs) (N g : Nat) (R : List Nat) (w : World) (i : Value) (wl : World) : Prop := ∃ (r : Nat) (vs : List Value) (L : List (List Nat)), i = .int .i64 r ∧ r ≤ N ∧ OutOk A R N r L ∧ Tbl wl g N vs L ∧ Below w.heap.size w wl
def Y3Rel (A : Arcs) (N g g2 m : Nat) (vs : List Value) (L : List (List Nat)) (w : World) (i : Value) (wl : World) : Prop := ∃ (k : Nat) (ws : List Value) (M : List (List Nat)), i = .int .i64 k ∧ k ≤ m ∧ Nx A N k L M ∧ Tbl wl g N vs L ∧ Tbl wl g2 N ws M ∧ Below w.heap.size w wl
def Y4Rel (N g g2 : Nat) (ws : List Value) (L M : List (List Nat)) (w : World) (i : Value) (wl : World) : Prop := ∃ (j : Nat) (vs : List Value) (L' : List (List Nat)), i = .int .i64 j ∧ j ≤ N ∧ Mix N j L M L' ∧ Tbl wl g N vs L' ∧ Tbl wl g2 N ws M ∧ Below w.heap.size w wl
theorem irow_form {w : World} {B : Nat} {v : Value} {l : List Nat} (h : IRow w B v (zi l)) (h0 : 0 < l.length) : ∃ b off c, v = .slice (some ⟨b, off, none⟩) l.length c ∧ b < B ∧ ∀ j (hj : j < l.length), w.cell? ⟨b, off + j, none⟩ = some (.int .i64 (l[j] : Nat)) := by
  obtain ⟨hl, A, c, hv, _, _, _, hA⟩ := h
  rw [zi_length] at hv
  obtain ⟨b, off, rfl, hB, hc⟩ := hA (by rw [zi_length]; exact h0)
  refine ⟨b, off, c, hv, hB, fun j hj => ?_⟩
  rw [hc j (by rw [zi_length]; exact hj)]
  simp [zi]
theorem Tbl.drewN {w : World} {g N : Nat} {vs : List Value} {L : List (List Nat)} (q : Nat) (T : Tbl w g N vs L) : Tbl (w.drewN q) g N vs L := ⟨T.vl, T.ll, T.blk, fun i hi => by
  obtain ⟨v, h1, h2, h3⟩ := T.row i hi
  exact ⟨v, h1, h2.drewN q, h3⟩⟩
theorem quiet_sum {P : Program} {f : FuncId} {args : Array Value} {w : World} {a n : Nat} {b : Bool} (h : Calls P f args (w.drewN (a + n)) (QPost b (w.drewN (a + n)))) : Calls P f args (w.drewN (a + n)) fun e w'' => e = .returned (.bool b) ∧ ∃ m, w'' = w.drewN (a + m) :=
  h.mono fun _ _ ⟨he, m, hm⟩ => ⟨he, n + m, by rw [hm, World.drewN_drewN, Nat.add_assoc]⟩
theorem iv_one (l : List Int) : ∀ u ∈ iv l, u.oneCell' = true := fun u hu => by
  unfold iv at hu
  obtain ⟨z, _, rfl⟩ := List.mem_map.1 hu
  rfl
/-- x = append(append([]int{}, l...), x). -/
theorem run_cp (W : World) (v : Value) (l : List Nat) (x : Nat) (hv : IRow W W.heap.size v (zi l)) (hl : l.length ≤ 900) (hn : l ≠ []) :
    ∃ v1 w1 v2 w2, (Builtin.append_ #[23, 23] 23 #[.slice (some ⟨W.heap.size, 0, none⟩) 0 0, v]).run Try.prog (W.alloc (.cells #[] 3)) = .ok v1 w1 ∧
      (Builtin.append_ #[23, 23] 23 #[v1, .slice (some ⟨w1.heap.size, 0, none⟩) 1 1]).run Try.prog (w1.alloc (.cells #[.int .i64 x] 3)) = .ok v2 w2 ∧
      IRow w2 w2.heap.size v2 (zi (l ++ [x])) ∧ Below W.heap.size W w2 ∧ ∃ b off c : Nat, v2 = .slice (some ⟨b, off, none⟩) (l.length + 1) c := by
  obtain ⟨i0, hi, hz0, hz1, hz2⟩ := info_parts infoI
  have hp := List.length_pos_iff.2 hn
  obtain ⟨b, off, c, rfl, hb, hc⟩ := irow_form hv hp
  have hbel := below_new W (.cells #[] 3)
  have hown : (W.alloc (.cells #[] 3)).ownsRow W.heap.size 3 1 (.slice (some ⟨W.heap.size, 0, none⟩) 0 0) 0 [] := ⟨rfl, .inr ⟨W.heap.size, 0, #[], rfl, Nat.le_refl _, heap_alloc_new W _, Nat.le_refl _, by decide, rfl, rfl⟩⟩
  obtain ⟨v1, w1, hr1, ho1, hg1, _, hb1⟩ := run_append_own_at (P := Try.prog) (W.alloc (.cells #[] 3)) W.heap.size 23 23 3 i0 (.int .i64 0) 1 8 Try.underlying23 hi hz0 hz1 hz2 rfl (by decide) _ 0 [] hown ⟨b, off, none⟩ l.length c (iv (zi l)) (by simp [iv_length, zi_length]) (fun j u hu => by
    rw [iv_get, zi_get] at hu
    by_cases hj : j < l.length
    · rw [List.getElem?_eq_getElem hj] at hu
      simp at hu
      subst hu
      rw [Go.WideShapes.add_plain]
      exact (hbel.cell (p := ⟨b, off + j, none⟩) hb).trans (hc j hj)
    · rw [List.getElem?_eq_none (by omega)] at hu
      simp at hu) (iv_one _) (by unfold maxLen; omega) (by omega) (by simp)
  have hB1 : Below W.heap.size W w1 := hbel.trans (Below.of_grown (g := W.heap.size) hg1 (by simp) (Nat.le_refl _))
  have hB2 := hB1.alloc hB1.size (.cells #[.int .i64 x] 3)
  obtain ⟨v2, w2, hr2, ho2, hg2, _, hb2⟩ := run_append_own_at (P := Try.prog) (w1.alloc (.cells #[.int .i64 x] 3)) W.heap.size 23 23 3 i0 (.int .i64 0) 1 8 Try.underlying23 hi hz0 hz1 hz2 rfl (by decide) _ _ _ (World.ownsRow.alloc ho1 _) ⟨w1.heap.size, 0, none⟩ 1 1 [.int .i64 x] rfl (fun j u hu => by
    cases j with
    | zero =>
      simp at hu
      subst hu
      exact (Blk.new w1 _ _).cell 0
    | succ j => simp at hu) (fun u hu => by rw [List.mem_singleton.1 hu]; rfl) (by unfold maxLen; omega) (by omega) hB2.size
  have hB3 : Below W.heap.size W w2 := by
    rcases hb1 with e | e
    · rw [e] at hg2
      exact hB2.trans (Below.of_grown (g := W.heap.size) hg2 hB2.size (Nat.le_refl _))
    · rw [e] at hg2
      exact hB2.trans (Below.of_grown (g := (W.alloc (.cells #[] 3)).heap.size) hg2 hB2.size (by simp))
  have hO : OwnI w2 W.heap.size v2 (zi (l ++ [x])) := by
    unfold OwnI
    rw [zi_append, iv_append, List.length_append, zi_length]
    have e : (0 + l.length + 1) = l.length + (zi [x]).length := by simp [zi]
    rw [← e]
    exact ho2
  obtain ⟨g, cap, hv2⟩ := own_succ ho2
  exact ⟨v1, w1, v2, w2, hr1, hr2, hO.irow (by rw [zi_length, List.length_append, List.length_singleton]; omega), hB3, g, 0, cap, by rw [hv2, Nat.zero_add]⟩
theorem toA_take2 {l : List Sp} {k x y : Nat} (hk : k < l.length) (hx : (gt l k).p = x) (hy : (gt l k).n = y) : (toA l).take (k + 1) = (toA l).take k ++ [(x, y)] := by
  rw [toA_take l k hk, hx, hy]; rfl
theorem toA_length (l : List Sp) : (toA l).length = l.length := by unfold toA; rw [List.length_map]
theorem Cand.of_take {A : Arcs} {k w : Nat} {L : List (List Nat)} {c : List Nat} (h : Cand (A.take k) L w c) : Cand A L w c := by
  obtain ⟨v, h1, h2, h3⟩ := h
  exact ⟨v, List.mem_of_mem_take h1, h2, h3⟩
theorem irow_len {w : World} {B b off n c : Nat} {l : List Nat} (h : IRow w B (.slice (some ⟨b, off, none⟩) n c) (zi l)) : n = l.length := by
  obtain ⟨_, A, cap, hv, _⟩ := h
  injection hv with _ h2 _
  rw [h2, zi_length]
set_option maxRecDepth 100000 in
set_option maxHeartbeats 8000000 in
theorem refWays (N : Nat) (v bv : Value) (l : List Sp) (R : List Nat) (w : World) (hri : rightB N l = true) (hRN : ∀ r ∈ R, r < N) (hN : N ≤ 900) (hl : l.length ≤ 1000) (hr : SRow w w.heap.size v l) (hb : LRow w w.heap.size bv ((R.map fun r => [r]).map zi)) :
    Calls Try.prog 42 #[.int .i64 N, v, bv] w (WysPost (toA l) R N w) := by
  obtain ⟨Z, hZ, hmk⟩ := mkL_all N hN
  obtain ⟨iI, hiI, hzI0, hzI1, hzI2⟩ := info_parts infoI
  have HA := Lib.hid (right_toA hri)
  have HRI : Hid (rightB (N : Int) l = true) := hri
  have HRN := Lib.hid hRN
  obtain ⟨⟨hRl, _⟩, BA, bcap, hbv, hbr⟩ := hb
  rw [List.length_map, List.length_map] at hbv hRl
  subst hbv
  have HBR : Hid (∀ k (h : k < R.length), ∃ (b off : Nat) (u : Value), BA = some ⟨b, off, none⟩ ∧ b < w.heap.size ∧ w.cell? ⟨b, off + k, none⟩ = some u ∧ IRow w w.heap.size u (zi [R[k]])) := Lib.hid (fun k h => by
    obtain ⟨b, off, h1, h2, h3⟩ := hbr (by rw [List.length_map, List.length_map]; omega)
    obtain ⟨u, h4, h5⟩ := h3 k (by rw [List.length_map, List.length_map]; exact h)
    rw [List.getElem_map, List.getElem_map] at h5
    exact ⟨b, off, u, h1, h2, h4, h5⟩)
  obtain ⟨_, _, SA, scap, hsv, hrd⟩ := hr
  subst hsv
  have HSR := Lib.hid hrd
  have HZ := Lib.hid hZ
  have HT0 : Hid (Tbl (w.alloc (.cells Z 23)) w.heap.size N (List.replicate N (.slice none 0 0)) (List.replicate N [])) := Lib.hid (Tbl.start _ N w.heap.size (by rw [hZ]; exact heap_alloc_new w _))
  have HB0 := Lib.hid (below_new w (.cells Z 23))
  have hN0 : (0 : Int) ≤ N := by omega
  clear hri hRN hbr hrd hZ
  have heq := fun (A : Option Addr) (n c n1 c1 : Nat) (w : World) => Lib.run_eql_slice_nil (P := Try.prog) w 23 3 A n c n1 c1 Try.underlying23
  go_enter Try.func42, Try.ntmps42
  go_wp2_with fail
  go_loopw [8] (fun i wl => Y1Rel N w.heap.size R w i wl) (fun i _ => R.length - (intOf i).toNat)
  case atStart => exact ⟨0, _, _, rfl, by omega, Beg.start N, HT0.out, HB0.out⟩
  case round =>
    obtain ⟨k, vs, L, rfl, hk, hbeg, T, hB⟩ := hrel
    by_cases hlt : k < R.length
    · obtain ⟨b, off, u, rfl, hb1, c1, hu⟩ := HBR.out k hlt
      have hrN := HRN.out R[k] (List.getElem_mem hlt)
      have hTk : R.take (k + 1) = R.take k ++ [R[k]] := List.take_succ_eq_append_getElem hlt
      obtain ⟨r, hr⟩ : ∃ r, R[k] = r := ⟨_, rfl⟩
      rw [hr] at hu hrN hTk
      have d1 := (hB.cell (p := ⟨b, off + k, none⟩) hb1).trans c1
      have hur := (hu.below hB).mono hB.size
      obtain ⟨b2, off2, c2, rfl, hb2, hc2⟩ := irow_form hu (by simp)
      have d2 := (hB.cell (p := ⟨b2, off2 + 0, none⟩) hb2).trans (hc2 0 (by simp))
      rw [Nat.add_zero] at d2
      simp only [List.length_singleton, List.getElem_cons_zero] at d1 d2 hur
      obtain ⟨v0, h1, h2, h3⟩ := T.row r hrN
      have d3 : wr.cell? ⟨w.heap.size, r, none⟩ = some v0 := by rw [T.cell]; exact h1
      have hfz := T.free r
      have hri : (r : Int) < N := by omega
      have hki : (k : Int) < R.length := by omega
      rcases h3 with ⟨h3, rfl⟩ | ⟨h3, b3, off3, n3, c3, rfl⟩
      · have HN : Hid (Beg N (R.take (k + 1)) (L.set r [r])) := Lib.hid (by rw [hTk]; exact hbeg.new hrN)
        have HTT : Hid (∀ q, Tbl ((wr.drewN q).setCell ⟨w.heap.size, r, none⟩ (.slice (some ⟨b2, off2, none⟩) 1 c2)) w.heap.size N (vs.set r (.slice (some ⟨b2, off2, none⟩) 1 c2)) (L.set r [r])) := Lib.hid (fun q => (Tbl.drewN q T).put hrN hur (by simp))
        have HBB : Hid (∀ q, Below w.heap.size w ((wr.drewN q).setCell ⟨w.heap.size, r, none⟩ (.slice (some ⟨b2, off2, none⟩) 1 c2))) := Lib.hid (fun q => (below_drewN2 hB q).setCell (p := ⟨w.heap.size, r, none⟩) (Nat.le_refl _) (.slice (some ⟨b2, off2, none⟩) 1 c2))
        clear hbeg T hB hTk hr c1 hu hc2 h1 h2 h3 hur
        go_wp2_with fail
        go_quiet (fail)
        go_wp2_with fail
        go_quiet (fail)
        go_wp2_with fail
        go_roundw
        case rel => exact ⟨k + 1, _, _, by go_num, by omega, HN.out, HTT.out _, HBB.out _⟩
        case measure => simp [intOf]; omega
      · have hrR : r ∈ R.take k := Classical.byContradiction fun h => h3 (hbeg.no r hrN h)
        have hLr := hbeg.yes r hrN hrR
        rw [hLr] at h2
        have HN : Hid (Beg N (R.take (k + 1)) L) := Lib.hid (by rw [hTk]; exact hbeg.old hrR)
        have HTT : Hid (∀ q, Tbl (wr.drewN q) w.heap.size N vs L) := Lib.hid (fun q => Tbl.drewN q T)
        have HBB : Hid (∀ q, Below w.heap.size w (wr.drewN q)) := Lib.hid (fun q => below_drewN2 hB q)
        have HLE : Hid (∀ q, Calls Try.prog 39 #[.slice (some ⟨b2, off2, none⟩) 1 c2, .slice (some ⟨b3, off3, none⟩) n3 c3] (wr.drewN q) (QPost false (wr.drewN q))) := Lib.hid (fun q => by
          have := lessRef (zi [r]) (zi [r]) (.slice (some ⟨b2, off2, none⟩) 1 c2) (.slice (some ⟨b3, off3, none⟩) n3 c3) (wr.drewN q) wr.heap.size (hur.drewN q) (h2.drewN q)
          rw [lessB_zi, lex_irr] at this
          exact this)
        clear hbeg T hB hTk hr c1 hu hc2 h1 h2 h3 hur hrR hLr
        go_wp2_with fail
        go_quiet (fail)
        go_wp2_with fail
        go_quiet ((go_at_call 39; exact quiet_sum (HLE.out _)))
        go_wp2_with fail
        go_roundw
        case rel => exact ⟨k + 1, _, _, by go_num, by omega, HN.out, HTT.out _, HBB.out _⟩
        case measure => simp [intOf]; omega
    · rw [List.take_of_length_le (by omega)] at hbeg
      have HOK := Lib.hid (OutOk.start (A := toA l) hbeg)
      have HT1 := Lib.hid T
      have HB1 := Lib.hid hB
      clear hbeg T hB hk
      go_wp2_with fail
      go_loopw [10] (fun i wl => Y2Rel (toA l) N w.heap.size R w i wl) (fun i _ => N - (intOf i).toNat)
      case atStart => exact ⟨0, vs, L, rfl, by omega, HOK.out, HT1.out, HB1.out⟩
      case round =>
        obtain ⟨r, vs2, L2, rfl, hrr, hok, T, hB⟩ := hrel
        by_cases hrN : r < N
        · obtain ⟨wo, rfl⟩ : ∃ wo : World, wo = wr := ⟨_, rfl⟩
          have hlL := hok.len
          have HLN : Hid (∀ x, x < N → L2.getD x [] ≠ [] → (L2.getD x []).length ≤ 900) := Lib.hid (fun x hx h => by have := (hok.yes x hx h).2; omega)
          have HOK2 := Lib.hid hok
          have HLL := Lib.hid hlL
          have HG : Hid (wo.heap.size ≠ w.heap.size) := Lib.hid (Nat.ne_of_gt T.lt)
          have HGB : Hid (w.heap.size ≤ wo.heap.size) := Lib.hid hB.size
          have HT2 : Hid (Tbl (wo.alloc (.cells Z 23)) w.heap.size N vs2 L2) := Lib.hid (T.below (below_new wo _))
          have HT3 : Hid (Tbl (wo.alloc (.cells Z 23)) wo.heap.size N (List.replicate N (.slice none 0 0)) (List.replicate N [])) := Lib.hid (Tbl.start _ N wo.heap.size (by rw [HZ.out]; exact heap_alloc_new wo _))
          have HB2 : Hid (Below w.heap.size w (wo.alloc (.cells Z 23))) := Lib.hid (hB.alloc hB.size _)
          have hri2 : (r : Int) < N := by omega
          clear hok T hB hlL hrr
          go_wp2_with fail
          go_loopw [12] (fun i wl => Y3Rel (toA l) N w.heap.size wo.heap.size l.length vs2 L2 w i wl) (fun i _ => l.length - (intOf i).toNat)
          case atStart => exact ⟨0, _, _, rfl, by omega, Nx.start _ _ _, HT2.out, HT3.out, HB2.out⟩
          case round =>
            clear HT2 HT3 HB2
            obtain ⟨k, ws, M, rfl, hk, hnx, T, T2, hB⟩ := hrel
            by_cases hlt : k < l.length
            · obtain ⟨b, off, rfl, hb1, hc⟩ := HSR.out (by omega)
              have c1 := (hB.cell (p := ⟨b, off + k * 2, none⟩) hb1).trans (hc k hlt).1
              have c2 := (hB.cell (p := ⟨b, off + k * 2 + 1, none⟩) hb1).trans (hc k hlt).2
              obtain ⟨p1, p2, p3, p4⟩ := right_arc HRI.out k hlt
              obtain ⟨x, hx⟩ : ∃ x : Nat, (gt l k).p = x := ⟨(gt l k).p.toNat, by omega⟩
              obtain ⟨y, hy⟩ : ∃ y : Nat, (gt l k).n = y := ⟨(gt l k).n.toNat, by omega⟩
              have htk := toA_take2 hlt hx hy
              have hmem := mem_toA_get HRI.out hlt hx hy
              rw [hx] at c1 p1 p2
              rw [hy] at c2 p3 p4
              have hxN : x < N := by omega
              have hyN : y < N := by omega
              obtain ⟨vx, hvx1, hvx2, hvx3⟩ := T.row x hxN
              obtain ⟨vy, hvy1, hvy2, hvy3⟩ := T.row y hyN
              have cx : wr.cell? ⟨w.heap.size, x, none⟩ = some vx := by rw [T.cell]; exact hvx1
              have cy : wr.cell? ⟨w.heap.size, y, none⟩ = some vy := by rw [T.cell]; exact hvy1
              rcases hvx3 with ⟨hx0, rfl⟩ | ⟨hx0, bx, ox, nx, cpx, rfl⟩
              · have HN := Lib.hid (hnx.skip htk (.inl hx0))
                have HT := Lib.hid T
                have HT2 := Lib.hid T2
                have HB2 := Lib.hid hB
                clear hc hx hy htk hmem hvx1 hvx2 hvy1 hvy2 hvy3 hx0 hnx T T2 hB
                go_wp2_with fail
                go_roundw
                case rel => exact ⟨k + 1, ws, M, by go_num, by omega, HN.out, HT.out, HT2.out, HB2.out⟩
                case measure => simp [intOf]; omega
              · rcases hvy3 with ⟨hy0, rfl⟩ | ⟨hy0, by', oy, ny, cpy, rfl⟩
                · have hbnd := HLN.out x hxN hx0
                  have cx2 : (wr.alloc (.cells #[] 3)).cell? ⟨w.heap.size, x, none⟩ = some (.slice (some ⟨bx, ox, none⟩) nx cpx) := keep_below (below_new wr _) cx
                  obtain ⟨v1, w1, v2, w2, hr1, hr2, hI, hb, b2, o2, cp2, rfl⟩ := run_cp wr _ (L2.getD x []) y hvx2 hbnd hx0
                  have hcn : Cand (toA l) L2 y (L2.getD x [] ++ [y]) := ⟨x, hmem, hx0, rfl⟩
                  have hcl := (HOK2.out.cand HA.out hyN hy0 hcn).2
                  rw [List.length_append, List.length_singleton] at hcl
                  rw [hcl] at hr2
                  rw [hcl] at hI
                  have Tw := T.below hb
                  have T2w := T2.below hb
                  have hBw := hB.trans (hb.mono hB.size)
                  obtain ⟨vn, hvn1, hvn2, hvn3⟩ := T2w.row y hyN
                  have cn : w2.cell? ⟨wo.heap.size, y, none⟩ = some vn := by rw [T2w.cell]; exact hvn1
                  have hfz := T2w.free y
                  have hgg := HG.out
                  have HR1 := Lib.hid hr1
                  have HR2 := Lib.hid hr2
                  rcases hvn3 with ⟨hn0, rfl⟩ | ⟨hn0, bn, on, nn, cpn, rfl⟩
                  · have HN := Lib.hid (hnx.new htk hyN hx0 hy0 (.inl hn0))
                    have HTT2 : Hid (Tbl (w2.setCell ⟨wo.heap.size, y, none⟩ (.slice (some ⟨b2, o2, none⟩) (r + 2) cp2)) wo.heap.size N (ws.set y (.slice (some ⟨b2, o2, none⟩) (r + 2) cp2)) (M.set y (L2.getD x [] ++ [y]))) := Lib.hid (T2w.put hyN hI (by simp))
                    have HTT : Hid (Tbl (w2.setCell ⟨wo.heap.size, y, none⟩ (.slice (some ⟨b2, o2, none⟩) (r + 2) cp2)) w.heap.size N vs2 L2) := Lib.hid (Tbl.other T2w Tw hgg _)
                    have HBB : Hid (Below w.heap.size w (w2.setCell ⟨wo.heap.size, y, none⟩ (.slice (some ⟨b2, o2, none⟩) (r + 2) cp2))) := Lib.hid (hBw.setCell (p := ⟨wo.heap.size, y, none⟩) HGB.out _)
                    clear hc hx hy htk hmem hvx1 hvx2 hvy1 hvy2 hx0 hy0 hnx T T2 hB hbnd hr1 hr2 hI hb hcn hcl Tw T2w hBw hvn1 hvn2 hn0 hgg
                    go_wp2_with (at_builtin; first | (refine Lib.wpList_append_run_sl _ rfl _ _ 23 rfl _ _ rfl rfl HR1.out ?_) | (refine Lib.wpList_append_run_sl _ rfl _ _ 23 rfl _ _ rfl rfl HR2.out ?_))
                    go_roundw
                    case rel => exact ⟨k + 1, _, _, by go_num, by omega, HN.out, HTT.out, HTT2.out, HBB.out⟩
                    case measure => simp [intOf]; omega
                  · have hnn := irow_len hvn2
                    have hcm : Cand (toA l) L2 y (M.getD y []) := by
                      rcases hnx.on y hyN hy0 with ⟨h, _⟩ | ⟨h, _⟩
                      · exact absurd h hn0
                      · exact h.of_take
                    have hml := (HOK2.out.cand HA.out hyN hy0 hcm).2
                    rw [hml] at hnn
                    subst hnn
                    have hle := lessRef _ _ _ _ w2 w2.heap.size hI hvn2
                    rw [lessB_zi] at hle
                    obtain ⟨bl, hbl⟩ : ∃ bl, lexLt (L2.getD x [] ++ [y]) (M.getD y []) = bl := ⟨_, rfl⟩
                    rw [hbl] at hle
                    have HLE := Lib.hid hle
                    have hlen : (L2.getD x [] ++ [y]).length = (M.getD y []).length := by rw [List.length_append, List.length_singleton]; omega
                    cases bl with
                    | true =>
                      have HN := Lib.hid (hnx.new htk hyN hx0 hy0 (.inr (.inr ⟨hlen, hbl⟩)))
                      have HTT2 : Hid (∀ q, Tbl ((w2.drewN q).setCell ⟨wo.heap.size, y, none⟩ (.slice (some ⟨b2, o2, none⟩) (r + 2) cp2)) wo.heap.size N (ws.set y (.slice (some ⟨b2, o2, none⟩) (r + 2) cp2)) (M.set y (L2.getD x [] ++ [y]))) := Lib.hid (fun q => (T2w.drewN q).put hyN (hI.drewN q) (by simp))
                      have HTT : Hid (∀ q, Tbl ((w2.drewN q).setCell ⟨wo.heap.size, y, none⟩ (.slice (some ⟨b2, o2, none⟩) (r + 2) cp2)) w.heap.size N vs2 L2) := Lib.hid (fun q => Tbl.other (T2w.drewN q) (Tw.drewN q) hgg _)
                      have HBB : Hid (∀ q, Below w.heap.size w ((w2.drewN q).setCell ⟨wo.heap.size, y, none⟩ (.slice (some ⟨b2, o2, none⟩) (r + 2) cp2))) := Lib.hid (fun q => (below_drewN2 hBw q).setCell (p := ⟨wo.heap.size, y, none⟩) HGB.out _)
                      clear hc hx hy htk hmem hvx1 hvx2 hvy1 hvy2 hx0 hy0 hnx T T2 hB hbnd hr1 hr2 hI hb hcn hcl Tw T2w hBw hvn1 hvn2 hn0 hgg hcm hml hle hbl hlen
                      go_wp2_with first | (at_builtin; first | (refine Lib.wpList_append_run_sl _ rfl _ _ 23 rfl _ _ rfl rfl HR1.out ?_) | (refine Lib.wpList_append_run_sl _ rfl _ _ 23 rfl _ _ rfl rfl HR2.out ?_)) | (go_at_call 39; refine HLE.out.mono ?_; rintro e w' ⟨rfl, q, rfl⟩)
                      go_roundw
                      case rel => exact ⟨k + 1, _, _, by go_num, by omega, HN.out, HTT.out _, HTT2.out _, HBB.out _⟩
                      case measure => simp [intOf]; omega
                    | false =>
                      have HN := Lib.hid (hnx.keep htk hn0 (fun h => by
                        rcases h with h | ⟨_, h⟩
                        · omega
                        · rw [hbl] at h; cases h))
                      have HTT2 : Hid (∀ q, Tbl (w2.drewN q) wo.heap.size N ws M) := Lib.hid (fun q => T2w.drewN q)
                      have HTT : Hid (∀ q, Tbl (w2.drewN q) w.heap.size N vs2 L2) := Lib.hid (fun q => Tw.drewN q)
                      have HBB : Hid (∀ q, Below w.heap.size w (w2.drewN q)) := Lib.hid (fun q => below_drewN2 hBw q)
                      clear hc hx hy htk hmem hvx1 hvx2 hvy1 hvy2 hx0 hy0 hnx T T2 hB hbnd hr1 hr2 hI hb hcn hcl Tw T2w hBw hvn1 hvn2 hn0 hgg hcm hml hle hbl hlen
                      go_wp2_with first | (at_builtin; first | (refine Lib.wpList_append_run_sl _ rfl _ _ 23 rfl _ _ rfl rfl HR1.out ?_) | (refine Lib.wpList_append_run_sl _ rfl _ _ 23 rfl _ _ rfl rfl HR2.out ?_)) | (go_at_call 39; refine HLE.out.mono ?_; rintro e w' ⟨rfl, q, rfl⟩)
                      go_roundw
                      case rel => exact ⟨k + 1, _, _, by go_num, by omega, HN.out, HTT.out _, HTT2.out _, HBB.out _⟩
                      case measure => simp [intOf]; omega
                · have HN := Lib.hid (hnx.skip htk (.inr hy0))
                  have HT := Lib.hid T
                  have HT2 := Lib.hid T2
                  have HB2 := Lib.hid hB
                  clear hc hx hy htk hmem hvx1 hvx2 hvy1 hvy2 hx0 hy0 hnx T T2 hB
                  go_wp2_with fail
                  go_roundw
                  case rel => exact ⟨k + 1, ws, M, by go_num, by omega, HN.out, HT.out, HT2.out, HB2.out⟩
                  case measure => simp [intOf]; omega
            · have hkl : k = (toA l).length := by rw [toA_length]; omega
              have HNX := Lib.hid hnx
              have HT := Lib.hid T
              have HT2 := Lib.hid T2
              have HB2 := Lib.hid hB
              have hki : ¬ (k : Int) < l.length := by omega
              clear hnx T T2 hB hk
              go_wp2_with fail
              go_loopw [16] (fun i wl => Y4Rel N w.heap.size wo.heap.size ws L2 M w i wl) (fun i _ => N - (intOf i).toNat)
              case atStart => exact ⟨0, _, _, rfl, by omega, Mix.start HLL.out, HT.out, HT2.out, HB2.out⟩
              case round =>
                clear HT HT2 HB2
                obtain ⟨j, vs3, L3, rfl, hj, hmx, T, T2, hB⟩ := hrel
                by_cases hjN : j < N
                · obtain ⟨vj, h1, h2, h3⟩ := T2.row j hjN
                  have cj : wr.cell? ⟨wo.heap.size, j, none⟩ = some vj := by rw [T2.cell]; exact h1
                  have hfz := T.free j
                  obtain ⟨vo, ho1, _, _⟩ := T.row j hjN
                  have co : wr.cell? ⟨w.heap.size, j, none⟩ = some vo := by rw [T.cell]; exact ho1
                  have hji : (j : Int) < N := by omega
                  clear ho1
                  rcases h3 with ⟨h3, rfl⟩ | ⟨h3, b3, o3, n3, cp3, rfl⟩
                  · have HN := Lib.hid (hmx.skip h3)
                    have HT := Lib.hid T
                    have HT2 := Lib.hid T2
                    have HB2 := Lib.hid hB
                    clear hmx T T2 hB h1 h2 h3 hkl hfz
                    go_wp2_with fail
                    go_roundw
                    case rel => exact ⟨j + 1, _, _, by go_num, by omega, HN.out, HT.out, HT2.out, HB2.out⟩
                    case measure => simp [intOf]; omega
                  · have HN := Lib.hid (hmx.put hjN h3)
                    have HTT := Lib.hid (T.put hjN h2 h3)
                    have HTT2 : Hid (Tbl (wr.setCell ⟨w.heap.size, j, none⟩ (.slice (some ⟨b3, o3, none⟩) n3 cp3)) wo.heap.size N ws M) := Lib.hid (Tbl.other T T2 (fun e => HG.out e.symm) _)
                    have HBB : Hid (Below w.heap.size w (wr.setCell ⟨w.heap.size, j, none⟩ (.slice (some ⟨b3, o3, none⟩) n3 cp3))) := Lib.hid (hB.setCell (p := ⟨w.heap.size, j, none⟩) (Nat.le_refl _) _)
                    clear hmx T T2 hB h1 h2 h3 hkl
                    go_wp2_with fail
                    go_roundw
                    case rel => exact ⟨j + 1, _, _, by go_num, by omega, HN.out, HTT.out, HTT2.out, HBB.out⟩
                    case measure => simp [intOf]; omega
                · obtain rfl : N = j := by omega
                  have HOR := Lib.hid (HOK2.out.round HA.out (hkl ▸ HNX.out) hmx)
                  have HT := Lib.hid T
                  have HB2 := Lib.hid hB
                  clear hmx T T2 hB hkl
                  go_wp2_with fail
                  go_roundw
                  case rel => exact ⟨r + 1, _, _, by go_num, by omega, HOR.out, HT.out, HB2.out⟩
                  case measure => simp [intOf]; omega
        · have HF : Hid (WysPost (toA l) R N w (.returned (.slice (some ⟨w.heap.size, 0, none⟩) N N)) wr) := Lib.hid (WysPost.mk _ L2 rfl (T.lrow (by omega)) (by have : r = N := by omega
                                                                                                                                                                  exact this ▸ hok) hB)
          clear hok T hB hrr
          go_wp2_with fail
          go_ret
          exact HF.out
end Go.Proofs.Ytcljgpgdbjpemaa
