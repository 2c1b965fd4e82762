/-
  The program's successors: its first loop.
-/
import Derived.Test.YtmnhnighlgpjmaaGreatLib
import Derived.StillTailTactics
namespace Go.Proofs.YtmnhnighlgpjmaaGreat
set_option linter.unusedVariables false
set_option linter.unusedSimpArgs false
open Go.RowKit

def toA (l : List Sp) : List (Nat × Nat) := l.map fun s => (s.p.toNat, s.n.toNat)
theorem toA_take (l : List Sp) (k : Nat) (h : k < l.length) : (toA l).take (k + 1) = (toA l).take k ++ [((gt l k).p.toNat, (gt l k).n.toNat)] := by
  unfold toA
  rw [List.take_succ_eq_append_getElem (by simpa using h), List.getElem_map, gt_get l k h]
theorem right_arc {n : Nat} {l : List Sp} (h : rightB n l = true) (k : Nat) (hk : k < l.length) : 0 ≤ (gt l k).p ∧ (gt l k).p < n ∧ 0 ≤ (gt l k).n ∧ (gt l k).n < n := by
  unfold rightB at h
  simp only [Bool.and_eq_true, Bool.not_eq_true', List.any_eq_false] at h
  have h2 := h.2 (gt l k) (by rw [gt_get l k hk]; exact List.getElem_mem hk)
  unfold badB at h2
  simp only [Bool.or_eq_true, Bool.not_eq_true', not_or, Bool.not_eq_false] at h2
  have a := nodeB_iff.1 h2.1
  have b := nodeB_iff.1 h2.2
  omega
theorem right_toA {n : Nat} {l : List Sp} (h : rightB n l = true) : ∀ a ∈ toA l, a.1 < n ∧ a.2 < n := by
  intro a ha
  unfold toA at ha
  obtain ⟨s, hs, rfl⟩ := List.mem_map.1 ha
  obtain ⟨i, hi, rfl⟩ := List.getElem_of_mem hs
  have := right_arc h i hi
  rw [gt_get l i hi] at this
  simp only
  omega
def srtTo (T : List (List Nat)) (k : Nat) : List (List Nat) := (T.take k).map srt ++ T.drop k
theorem srtTo_zero (T : List (List Nat)) : srtTo T 0 = T := by simp [srtTo]
theorem srtTo_all (T : List (List Nat)) : srtTo T T.length = T.map srt := by simp [srtTo]
theorem srtTo_length (T : List (List Nat)) (k : Nat) (h : k ≤ T.length) : (srtTo T k).length = T.length := by simp [srtTo]; omega
theorem srtTo_get (T : List (List Nat)) (k : Nat) (h : k < T.length) : (srtTo T k)[k]? = some (T.getD k []) := by
  unfold srtTo
  rw [List.getElem?_append_right (by simp; omega), List.getElem?_drop, List.length_map, List.length_take, List.getD_eq_getElem?_getD, show k + (k - min k T.length) = k by omega, List.getElem?_eq_getElem h]; rfl
theorem srtTo_step (T : List (List Nat)) (k : Nat) (h : k < T.length) : srtTo T (k + 1) = (srtTo T k).set k (srt (T.getD k [])) := by
  unfold srtTo
  rw [List.set_append_right _ _ (by simp; omega), List.length_map, List.length_take, show k - min k T.length = 0 by omega, List.drop_eq_getElem_cons h, List.set_cons_zero, List.take_succ_eq_append_getElem h, List.map_append, List.append_assoc, List.getD_eq_getElem?_getD, List.getElem?_eq_getElem h]; rfl
def SortRel (T : List (List Nat)) (n g : Nat) (w0 : World) (i : Value) (wl : World) : Prop := ∃ (k : Nat) (vs : List Value), i = .int .i64 k ∧ k ≤ n ∧ Nest wl w0.heap.size g vs ((srtTo T k).map zi) ∧ Below w0.heap.size w0 wl
def SuccRel (l : List Sp) (n g : Nat) (w0 : World) (i : Value) (wl : World) : Prop := ∃ (k : Nat) (vs : List Value), i = .int .i64 k ∧ k ≤ l.length ∧ Nest wl w0.heap.size g vs ((addA n ((toA l).take k)).map zi) ∧ Below w0.heap.size w0 wl
theorem own_not_blk {w : World} {base : Nat} {e t : TypeId} {v : Value} {n b : Nat} {xs : List Value} {cs : Array Value} (h : w.ownsRow base e 1 v n xs) (hb : Blk w b t cs) (hne : t ≠ e) : some b ≠ v.ownBlock := by
  intro hv
  rcases h.2 with ⟨rfl, _⟩ | ⟨g, cap, cur, rfl, _, hg, _⟩
  · simp [Value.ownBlock] at hv
  · simp [Value.ownBlock] at hv
    subst hv
    unfold Blk at hb
    rw [hb] at hg
    injection hg with hg
    injection hg with _ h2
    exact hne h2
theorem Nest.drew {w : World} {base g : Nat} {vs : List Value} {L : List (List Int)} (h : Nest w base g vs L) : Nest w.drew base g vs L := ⟨h.len, h.hb, h.blk, h.row, h.apart⟩

set_option maxRecDepth 100000 in
set_option maxHeartbeats 4000000 in
theorem succP (v : Value) (l : List Sp) (n : Nat) (w : World) (hri : rightB n l = true) (hn : n ≤ 1000) (hl : l.length ≤ 1000) (hr : SRow w w.heap.size v l) :
    Calls Tryz.prog 40 #[.int .i64 n, v] w (NestPost n (nextOf n (toA l)) w) := by
  obtain ⟨i0, hi, hz0, hz1, hz2⟩ := info_parts infoI
  obtain ⟨_, _, A, cap, rfl, hA⟩ := hr
  obtain ⟨w1, hmk, hnest, hb1⟩ := run_mkL w n (by omega)
  rw [rep_zi] at hnest
  have HA := Lib.hid hA
  have HRI := Lib.hid hri
  have HNE := Lib.hid hnest
  have HB1 := Lib.hid hb1
  clear hri hnest hb1 hA
  have hn0 : (0 : Int) ≤ n := by omega
  go_enter Tryz.func40, Tryz.ntmps40
  go_wp2_with fail
  clear hmk
  go_loopw [14] (fun i wl => SuccRel l n w.heap.size w i wl) (fun i _ => l.length - (intOf i).toNat)
  case atStart => exact ⟨0, _, rfl, by omega, HNE.out, HB1.out⟩
  case round =>
    obtain ⟨k, vs, rfl, hk, hne, hB⟩ := hrel
    by_cases hlt : k < l.length
    · obtain ⟨b, off, rfl, hb, hc⟩ := HA.out (by omega)
      have c1 := (hB.cell (p := ⟨b, off + k * 2, none⟩) hb).trans (hc k hlt).1
      have c2 := (hB.cell (p := ⟨b, off + k * 2 + 1, none⟩) hb).trans (hc k hlt).2
      obtain ⟨p1, p2, p3, p4⟩ := right_arc HRI.out k hlt
      have HTK := Lib.hid (toA_take l k hlt)
      obtain ⟨x, hx⟩ : ∃ x : Nat, (gt l k).p = x := ⟨(gt l k).p.toNat, by omega⟩
      obtain ⟨y, hy⟩ : ∃ y : Nat, (gt l k).n = y := ⟨(gt l k).n.toNat, by omega⟩
      rw [hx] at c1 p1 p2 HTK
      rw [hy] at c2 p3 p4 HTK
      simp only [Int.toNat_natCast] at HTK
      have hxn : x < n := by omega
      have hbs := hB.size
      have hb2 := hB.trans ((below_new wr (.cells #[.int .i64 x, .int .i64 y] 53)).mono hbs)
      have hne2 := hne.below (below_new wr (.cells #[.int .i64 x, .int .i64 y] 53))
      have q0 : (wr.alloc (.cells #[.int .i64 x, .int .i64 y] 53)).cell? ⟨wr.heap.size, 0, none⟩ = some (.int .i64 x) := (Blk.new wr 53 _).cell 0
      have q1 : (wr.alloc (.cells #[.int .i64 x, .int .i64 y] 53)).cell? ⟨wr.heap.size, 1, none⟩ = some (.int .i64 y) := (Blk.new wr 53 _).cell 1
      have hsz : wr.heap.size < (wr.alloc (.cells #[.int .i64 x, .int .i64 y] 53)).heap.size := by simp
      clear hx hy p1 p3 hne hB hc
      have HQ0 := Lib.hid q0
      have HQ1 := Lib.hid q1
      have HB2 := Lib.hid hb2
      have HNE2 := Lib.hid hne2
      have HBK := Lib.hid (Blk.new wr 53 #[.int .i64 x, .int .i64 y])
      clear q0 q1 hb2 hne2
      go_wp2_with fail
      have q0 := HQ0.out
      have q1 := HQ1.out
      obtain ⟨W, hW⟩ : ∃ W, wr.alloc (.cells #[.int .i64 x, .int .i64 y] 53) = W := ⟨_, rfl⟩
      rw [hW] at HB2 HNE2 q0 q1 hsz HBK ⊢
      clear HQ0 HQ1 hW c1 c2
      obtain ⟨bx, hbx⟩ : ∃ bx, wr.heap.size = bx := ⟨_, rfl⟩
      rw [hbx] at q0 q1 hsz HBK ⊢
      clear hbx hbs
      have hne := HNE2.out
      have hB := HB2.out
      have hlen : (addA n ((toA l).take k)).length = n := addA_length _ _
      obtain ⟨u, hu1, hu2, hu3⟩ := hne.at x (by rw [List.length_map, hlen]; exact hxn)
      have hown : W.ownsRow w.heap.size 3 1 u ((addA n ((toA l).take k)).getD x []).length (iv (zi ((addA n ((toA l).take k)).getD x []))) := by
        have e : ((addA n ((toA l).take k)).map zi)[x]'(by rw [List.length_map, hlen]; exact hxn) = zi ((addA n ((toA l).take k)).getD x []) := by
          rw [List.getElem_map, List.getD_eq_getElem?_getD, List.getElem?_eq_getElem (by rw [hlen]; exact hxn)]; rfl
        rw [e] at hu3
        unfold OwnI at hu3
        rw [zi_length] at hu3
        exact hu3
      have hle : ((addA n ((toA l).take k)).getD x []).length ≤ 2000000 := by
        have h1 := addA_len n ((toA l).take k) x
        have h2 : ((toA l).take k).length ≤ k := List.length_take_le _ _
        omega
      have hbs := hB.size
      have HAD := Lib.hid (fun (v' : Value) (w2 : World) h1 h2 h3 => hne.added (w0 := w) (x, y) hxn hu1 (.cells #[.int .i64 (y : Int)] 3) (v' := v') (w2 := w2) h1 h2 h3 hB hB.size)
      have HOW := Lib.hid hown
      have HL1 : Hid (((addA n ((toA l).take k)).getD x []).length + 1 ≤ maxLen) := Lib.hid (by unfold maxLen; omega)
      have HL2 : Hid ((((addA n ((toA l).take k)).getD x []).length + 1) * 8 ≤ 140737488355328) := Lib.hid (by omega)
      have HL3 : Hid (w.heap.size ≤ (W.alloc (.cells #[.int .i64 (y : Int)] 3)).drew.heap.size) := Lib.hid (by simp; omega)
      have hbne := own_not_blk hown HBK.out (by decide)
      have HKP : Hid (∀ w3 : World, (W.alloc (.cells #[.int .i64 (y : Int)] 3)).drew.grownBy w3 u.ownBlock → w3.cell? ⟨bx, 0, none⟩ = some (.int .i64 x) ∧ w3.cell? ⟨bx, 1, none⟩ = some (.int .i64 y)) := fun w3 hg =>
        ⟨hg.cell (keep_below (below_new W _) q0) hbne, hg.cell (keep_below (below_new W _) q1) hbne⟩
      have hu2a : (W.alloc (.cells #[.int .i64 (y : Int)] 3)).drew.cell? ⟨w.heap.size, x, none⟩ = some u := keep_below (below_new W _) hu2
      have hu2b : W.drew.cell? ⟨w.heap.size, x, none⟩ = some u := hu2
      clear hbne HBK
      clear hlen hown hne hB hu1 hu3 hle hbs HNE2 HB2
      have z0 : W.drew.cell? ⟨bx, 0, none⟩ = some (.int .i64 x) := q0
      have z1 : W.drew.cell? ⟨bx, 1, none⟩ = some (.int .i64 y) := q1
      have z2 : (W.alloc (.cells #[.int .i64 (y : Int)] 3)).drew.cell? ⟨bx, 0, none⟩ = some (.int .i64 x) := keep_below (below_new W _) q0
      have z3 : (W.alloc (.cells #[.int .i64 (y : Int)] 3)).drew.cell? ⟨bx, 1, none⟩ = some (.int .i64 y) := keep_below (below_new W _) q1
      go_region_law ((refine step_append_lies _ (by rfl) _ _ _ (by rfl) w.heap.size 3 i0 (.int .i64 0) 1 8 Tryz.underlying33 hi hz0 hz1 hz2 rfl (by omega) _ _ _ (by rfl) ((HOW.out.alloc _).drew) ⟨W.heap.size, 0, none⟩ 1 1 [.int .i64 (y : Int)] (by rfl) (by rfl) (World.news_of_block (cs := #[.int .i64 (y : Int)]) (t := 3) (fr := (0, 0)) (heap_alloc_new W _)) (by simp [Value.oneCell']) (by omega) HL1.out HL2.out HL3.out (W.heap.size + 1) (by simp) ?_; intro gg cap3 w3 hown3 hgrow3 hat3 hlt3; have k0 := HKP.out w3 hgrow3; obtain ⟨hc3, hf3, hn3, hb3⟩ := HAD.out _ w3 hown3 ⟨hgrow3.os, hgrow3.tape, hgrow3.output, hgrow3.size, hgrow3.block⟩ (hat3.elim (fun h => .inl h.symm) (fun h => .inr (by rw [h]; simp [Value.ownBlock]))); replace hn3 := Lib.hid hn3; replace hb3 := Lib.hid hb3; clear hown3 hgrow3 hat3 hlt3))
      all_goals
        clear HKP q0 q1 hu2 hu2a hu2b z0 z1 z2 z3
        go_wp2_with fail
        go_roundw
        case rel => exact ⟨k + 1, _, by go_num, by omega, by rw [HTK.out]; exact hn3.out, hb3.out⟩
        case measure => simp [intOf]; omega
    · have hkl : k = l.length := by omega
      have HNE2 : Hid (Nest wr w.heap.size w.heap.size vs ((srtTo (addA n (toA l)) 0).map zi)) := by
        rw [hkl, List.take_of_length_le (by simp [toA])] at hne
        rw [srtTo_zero]; exact hne
      have HB2 := Lib.hid hB
      have hge : ¬ ((k : Int) < l.length) := by omega
      clear hkl hne hB
      obtain ⟨wo, rfl⟩ : ∃ wo : World, wo = wr := ⟨_, rfl⟩
      go_wp2_with fail
      go_loopw [34] (fun i wl => SortRel (addA n (toA l)) n w.heap.size w i wl) (fun i _ => n - (intOf i).toNat)
      case atStart => exact ⟨0, vs, rfl, by omega, HNE2.out, HB2.out⟩
      case round =>
        obtain ⟨j, vs2, rfl, hj, hne, hB⟩ := hrel
        have hT : (addA n (toA l)).length = n := addA_length _ _
        have hS : (srtTo (addA n (toA l)) j).length = n := by rw [srtTo_length _ _ (by omega)]; exact hT
        by_cases hlt2 : j < n
        · obtain ⟨u, hu1, hu2, hu3⟩ := hne.at j (by rw [List.length_map, hS]; exact hlt2)
          have e0 := srtTo_get (addA n (toA l)) j (by omega)
          have e1 : ((srtTo (addA n (toA l)) j).map zi)[j]? = some (zi ((addA n (toA l)).getD j [])) := by rw [List.getElem?_map, e0]; rfl
          have ho := hne.row j u _ hu1 e1
          have hle : (zi ((addA n (toA l)).getD j [])).length ≤ 1000000 := by
            rw [zi_length]
            have h1 := addA_len n (toA l) j
            have h2 : (toA l).length = l.length := by simp [toA]
            omega
          have HC := Lib.hid (sortP ho hle)
          have HT := Lib.hid (fun (w2 : World) (h1 : OwnI w2 w.heap.size u (zi (srt ((addA n (toA l)).getD j [])))) (h2 : wr.grownBy w2 u.ownBlock) =>
            (⟨by
              have h3 := hne.turn hu1 e1 h2 h1
              rw [srtTo_step _ _ (by omega), List.map_set]
              exact h3, (hB.grown h2 hB.size (fun k hk => (World.ownsRow.lt ho k hk).1))⟩ : Nest w2 w.heap.size w.heap.size vs2 ((srtTo (addA n (toA l)) (j + 1)).map zi) ∧ Below w.heap.size w w2))
          rw [zi_srt] at HC
          clear hne hB hu1 hu3 e0 e1 ho hle hT hS
          go_wp2_with fail
          refine HC.out.mono ?_; rintro e w2 ⟨rfl, h1, h2⟩
          obtain ⟨h3, h4⟩ := HT.out w2 h1 h2
          have HN3 := Lib.hid h3
          have HB3 := Lib.hid h4
          clear h1 h2 h3 h4 HT HC
          go_wp2_with fail
          go_roundw
          case rel => exact ⟨j + 1, vs2, by go_num, by omega, HN3.out, HB3.out⟩
          case measure => simp [intOf]; omega
        · have hjn : j = n := by omega
          have HF : Hid (Nest wr w.heap.size w.heap.size vs2 ((nextOf n (toA l)).map zi)) := by
            have e := srtTo_all (addA n (toA l))
            rw [hT] at e
            rw [hjn, e] at hne
            exact hne
          have HB3 := Lib.hid hB
          have hge2 : ¬ ((j : Int) < n) := by omega
          clear hjn hne hB hT hS
          go_wp2_with fail
          go_ret
          exact NestPost.mk _ vs2 rfl HF.out HB3.out
end Go.Proofs.YtmnhnighlgpjmaaGreat
