/-
  The reference of layer 8: Line: the walk.
-/
import Derived.Test.YtmnhnighlgpjmaaGreatVR3
namespace Go.Proofs.YtmnhnighlgpjmaaGreat
set_option linter.unusedVariables false
set_option linter.unusedSimpArgs false
open Go.RowKit

def L1R (X : List Str) (w : World) (o i : Value) (wl : World) : Prop := ∃ (k : Nat) (O : List Str), i = .int .i64 k ∧ 1 ≤ k ∧ k ≤ X.length ∧ LnOk X O k ∧ OwnS wl w.heap.size o O ∧ Below w.heap.size w wl
def L2R (O : List Str) (s : Str) (w : World) (i : Value) (wl : World) : Prop := ∃ k : Nat, i = .int .i64 k ∧ k ≤ O.length ∧ (∀ j (h : j < O.length), j < k → O[j] < s) ∧ Below w.heap.size w wl
/-- What the round's end wants to know. -/
structure LTail (X : List Str) (w1 W : World) (i k : Nat) (s : Str) (A : Option Addr) (n c : Nat) (O : List Str) : Prop where
  ok : LnOk X (O.take k ++ [s] ++ O.drop k) (i + 1)
  own : OwnS W w1.heap.size (.slice A n c) O
  bel : Below w1.heap.size w1 W
set_option maxRecDepth 100000 in
set_option maxHeartbeats 0 in
theorem rLineP (u : Value) (l : VL) (v : Str) (w : World) (hl : Fw l) (hv : v.length ≤ 100) (hr : VRow w w.heap.size u l) :
    Calls Tryz.prog 12 #[u, .string (bs v)] w (LinePost l v w) := by
  have HA := Lib.hid (allP u l v w hl hv hr)
  clear hr hl hv
  go_enter Tryz.func12, Tryz.ntmps12
  go_wp2_with fail
  refine HA.out.mono ?_; rintro e w1 ⟨x, X, rfl, hok, hX, hXs, hrow, hb⟩
  have HOK := Lib.hid hok
  have HB1 := Lib.hid hb
  have HX1 := Lib.hid hrow
  obtain ⟨xA, xcap, hx, _⟩ := id hrow
  subst hx
  have hX1 : 1 ≤ X.length := by obtain ⟨t, ht⟩ := hok.hd; rw [ht]; simp
  obtain ⟨xb, xoff, hxa, hxb, hxc⟩ := (show 0 < X.length → ∃ b off, xA = some ⟨b, off, none⟩ ∧ b < w1.heap.size ∧ ∀ i (h : i < X.length), w1.cell? ⟨b, off + i, none⟩ = some (.string (bs X[i])) by
    obtain ⟨A2, cap2, he, _, _, _, h4⟩ := id hrow
    injection he with e1 _ _
    subst e1
    exact h4) (by omega)
  subst hxa
  have HXC : Hid (∀ wl, Below w1.heap.size w1 wl → ∀ i (h : i < X.length), wl.cell? ⟨xb, xoff + i, none⟩ = some (.string (bs X[i]))) := Lib.hid (fun wl h i hi => (h.cell (p := ⟨xb, xoff + i, none⟩) hxb).trans (hxc i hi))
  have HL0 := Lib.hid (LnOk.start X)
  clear hok hrow hb hXs hxc HA
  go_wp2_with fail
  go_loopw [6, 7] (fun o i wl => L1R X w1 o i wl) (fun _ i _ => X.length - (intOf i).toNat)
  case atStart => exact ⟨1, [], rfl, Nat.le_refl _, hX1, HL0.out, OwnS.nil _ _, Below.refl _ _⟩
  case round =>
    clear HL0
    obtain ⟨i, O, rfl, hi1, hi, hln, ho, hB⟩ := hrel
    have hol := hln.len hi
    have hO : O.length ≤ 200 := by omega
    have HOL := Lib.hid hol
    clear hol
    obtain ⟨oA, ocap, hov, _, hocm, _⟩ := id ho.srow
    subst hov
    have HLN := Lib.hid hln
    have HO := Lib.hid ho
    have HB := Lib.hid hB
    clear hln ho hB
    by_cases hlt : i < X.length
    · have hii : (i : Int) < X.length := by omega
      have HXI := Lib.hid (fun wl h => HXC.out wl h i hlt)
      have HNX := Lib.hid (fun k (hk : k ≤ O.length) h1 h2 => HLN.out.next hlt hi1 (k := k) hk h1 h2)
      obtain ⟨s, hs⟩ : ∃ s, X[i] = s := ⟨_, rfl⟩
      rw [hs] at HXI HNX
      clear hs
      obtain ⟨wo, hwo⟩ : ∃ wo : World, wo = wr := ⟨_, rfl⟩
      subst hwo
      go_wp2_with fail
      go_loopw [8] (fun i wl => L2R O s wo i wl) (fun i _ => O.length - (intOf i).toNat)
      case atStart => exact ⟨0, rfl, by omega, fun j _ h => by omega, Below.refl _ _⟩
      case round =>
        obtain ⟨k, rfl, hk, hall, hB⟩ := hrel
        have HALL := Lib.hid hall
        have HB2 := Lib.hid hB
        have cx := HXI.out wr (HB.out.trans (hB.mono HB.out.size))
        have ho2 := HO.out.below hB
        clear hall hB
        by_cases hkl : k < O.length
        · obtain ⟨ob, ooff, hoa, co⟩ := ho2.at k hkl
          subst hoa
          have hki : (k : Int) < O.length := by omega
          have HHT : Hid (¬ O[k] < s → LnOk X (O.take k ++ [s] ++ O.drop k) (i + 1)) := Lib.hid (fun h => HNX.out k hk HALL.out (fun _ => h))
          have HST : Hid (O[k] < s → ∀ j (h : j < O.length), j < k + 1 → O[j] < s) := Lib.hid (fun h j hj hjk => by
            by_cases e : j = k
            · subst e; exact h
            · exact HALL.out j hj (by omega))
          obtain ⟨y, hy⟩ : ∃ y, O[k] = y := ⟨_, rfl⟩
          rw [hy] at co HHT HST
          clear ho2 hy
          have HBQ : Hid (∀ q, Below wo.heap.size wo (wr.drewN q)) := Lib.hid (fun q => HB2.out.trans (below_drewV _ _ _))
          by_cases hys : y < s
          · have hbl := str_lt hys
            have HN := Lib.hid (HST.out hys)
            clear hys
            go_wp2_with fail
            go_quiet (fail)
            go_wp2_with fail
            go_roundw
            case rel => exact ⟨k + 1, by go_num, by omega, HN.out, HBQ.out _⟩
            case measure => simp [intOf]; omega
          · have hbl := str_nlt hys
            have HT : Hid (∀ q, LTail X w1 (wr.drewN q) i k s (some ⟨ob, ooff, none⟩) O.length ocap O) := Lib.hid (fun q => ⟨HHT.out hys, HO.out.below (HBQ.out q), HB.out.trans ((HBQ.out q).mono HB.out.size)⟩)
            clear hys
            go_wp2_with fail
            go_quiet (fail)
            go_wp2_with fail
            have HTQ := Lib.hid (HT.out nq)
            clear cx HT HHT HBQ
            generalize wr.drewN nq = W at HTQ ⊢
            have cx := HXI.out W HTQ.out.bel
            have hxW : xb < W.heap.size := Nat.lt_of_lt_of_le hxb HTQ.out.bel.size
            have hrow := HTQ.out.own.srow
            have HSA : Hid (SrcS W (.slice (some ⟨ob, ooff, none⟩) k ocap) (O.take k)) := Lib.hid (.of (hrow.take hk))
            have HSD : Hid (SrcS W (.slice (some ⟨ob, ooff + k, none⟩) (O.length - k) (ocap - k)) (O.drop k)) := Lib.hid (SrcS.drop hrow hk _ (fun _ => rfl))
            have F1 : Hid (OwnS (W.alloc (.cells #[] 9)).drew W.heap.size (.slice (some ⟨W.heap.size, 0, none⟩) 0 0) []) := Lib.hid (ownS_empty W W.heap.size (Nat.le_refl _)).drewS
            have F2 : Hid (OwnS ((W.alloc (.cells #[] 9)).alloc (.cells #[.string (bs s)] 9)).drew W.heap.size (.slice (some ⟨W.heap.size, 0, none⟩) 0 0) []) := Lib.hid ((ownS_empty W W.heap.size (Nat.le_refl _)).allocS _).drewS
            have F3 : Hid (OwnS ((W.alloc (.cells #[.string (bs s)] 9)).alloc (.cells #[] 9)).drew W.heap.size (.slice (some ⟨W.heap.size + 1, 0, none⟩) 0 0) []) := Lib.hid (by
              have := (ownS_empty (W.alloc (.cells #[.string (bs s)] 9)) W.heap.size (by simp)).drewS
              simpa using this)
            have B1 := Lib.hid (below_new W (.cells #[] 9)).drew
            have B2 := Lib.hid (below_twoS W (.cells #[] 9) (.cells #[.string (bs s)] 9))
            have B3 := Lib.hid (below_twoS W (.cells #[.string (bs s)] 9) (.cells #[] 9))
            have R1 := Lib.hid (HSA.out.below B1.out)
            have R2 := Lib.hid (HSA.out.below B2.out)
            have R3 := Lib.hid (HSA.out.below B3.out)
            have HL1 : Hid (([] : List Str).length + (O.take k).length ≤ 1000) := Lib.hid (by simp <;> omega)
            have HL2 : Hid (([] ++ O.take k).length + [s].length ≤ 1000) := Lib.hid (by simp <;> omega)
            have HL3 : Hid (([] ++ O.take k ++ [s]).length + (O.drop k).length ≤ 1000) := Lib.hid (by simp <;> omega)
            have hkc : (k : Int) ≤ (O.length : Int) := by omega
            have hk0 : (0 : Int) ≤ (k : Int) := by omega
            have hkc2 : (k : Int) ≤ (ocap : Int) := by omega
            clear hrow
            have hck : ¬ ocap = k := by omega
            have hck2 : ¬ k = ocap := by omega
            generalize hQQ : Exit.inBlock 1 _ = QQ
            suffices key : ∀ (y13 y14 y15 y16 y17 y18 y19 y20 y21 y22 y23 y24 y25 y26 y27 y28 y29 y30 y31 y32 y33 y34 y35 y36 y37 y38 y39 y40 y41 y42 y43 y44 y45 y46 y47 y48 y49 v6 : Value) (W4 : World), Hid (OwnS W4 W.heap.size v6 ([] ++ O.take k ++ [s] ++ O.drop k)) → Hid (Below W.heap.size W W4) →
                QQ .normal { tmps := #[u, .string (bs v), undef, undef, .slice none 0 0, .slice (some ⟨xb, xoff, none⟩) X.length xcap, v6, .int .i64 (i : Nat), .int .i64 (k : Nat), u, .string (bs v), .slice (some ⟨xb, xoff, none⟩) X.length xcap, .int .i64 (i : Nat), y13, y14, y15, y16, y17, y18, y19, y20, y21, y22, y23, y24, y25, y26, y27, y28, y29, y30, y31, y32, y33, y34, y35, y36, y37, y38, y39, y40, y41, y42, y43, y44, y45, y46, y47, y48, y49, undef, undef, undef, undef], defers := [] } W4 by
              clear hQQ
              go_region_held3 (fun w' => w'.cell? ⟨xb, xoff + i, none⟩ = some (.string (bs s)))
                (first | exact cx | exact keep_belowR (below_new _ _) (by assumption) | exact keep_belowR (below_new _ _).drew (by assumption) | exact (hk4.out.cell (p := ⟨xb, xoff + i, none⟩) hxW).trans (by assumption) | exact (hk3.out.cell (p := ⟨xb, xoff + i, none⟩) hxW).trans (by assumption) | exact (hk2.out.cell (p := ⟨xb, xoff + i, none⟩) hxW).trans (by assumption) | fail)
                (first
                  | (refine step_appR (by rfl) (.tmp 35) (.tmp 38) (by rfl) W.heap.size (.slice (some ⟨W.heap.size, 0, none⟩) 0 0) (.slice (some ⟨ob, ooff, none⟩) k ocap) [] (O.take k) (by kernel_rfl) (by kernel_rfl) (by first | exact F1 | exact F2) (by first | exact R1.out | exact R2.out) HL1.out (by simp; try omega) ?_; intro v2 w2 hb2 hg2 hk2; have hacc := (by first | exact B1.out.trans hk2.out | exact B2.out.trans hk2.out : Below W.heap.size W w2))
                  | (refine step_appR (by rfl) (.tmp 35) (.tmp 38) (by rfl) W.heap.size (.slice (some ⟨W.heap.size + 1, 0, none⟩) 0 0) (.slice (some ⟨ob, ooff, none⟩) k ocap) [] (O.take k) (by kernel_rfl) (by kernel_rfl) F3 R3.out HL1.out (by simp; try omega) ?_; intro v2 w2 hb2 hg2 hk2; have hacc := (B3.out.trans hk2.out : Below W.heap.size W w2))
                  | (refine step_appR (by rfl) (.tmp 39) (.tmp 44) (by rfl) W.heap.size v2 (.slice (some ⟨w2.heap.size, 0, none⟩) 1 1) ([] ++ O.take k) [s] (by kernel_rfl) (by kernel_rfl) (Lib.hid (hb2.out.allocS _)) srcS_new HL2.out (by have := hacc.size; simp; omega) ?_; intro v3 w3 hb3 hg3 hk3; replace hacc := (hacc.trans ((below_new w2 (.cells #[.string (bs s)] 9)).mono hacc.size)).trans hk3.out)
                  | (refine step_appR (by rfl) (.tmp 39) (.tmp 44) (by rfl) W.heap.size v2 (.slice (some ⟨W.heap.size + 1, 0, none⟩) 1 1) ([] ++ O.take k) [s] (by kernel_rfl) (by kernel_rfl) hb2 (srcS_snd hg2.out) HL2.out hacc.size ?_; intro v3 w3 hb3 hg3 hk3; replace hacc := hacc.trans hk3.out)
                  | (refine step_appR (by rfl) (.tmp 39) (.tmp 44) (by rfl) W.heap.size v2 (.slice (some ⟨W.heap.size, 0, none⟩) 1 1) ([] ++ O.take k) [s] (by kernel_rfl) (by kernel_rfl) hb2 (srcS_fst hg2.out) HL2.out hacc.size ?_; intro v3 w3 hb3 hg3 hk3; replace hacc := hacc.trans hk3.out)
                  | (refine step_appR (by rfl) (.tmp 45) (.tmp 48) (by rfl) W.heap.size v3 (.slice (some ⟨ob, ooff + k, none⟩) (O.length - k) (ocap - k)) ([] ++ O.take k ++ [s]) (O.drop k) (by kernel_rfl) (by kernel_rfl) hb3 (HSD.out.below hacc) HL3.out hacc.size ?_; intro v4 w4 hb4 hg4 hk4; replace hacc := hacc.trans hk4.out))
              all_goals exact key _ _ _ _ _ _ _ _ _ _ _ _ _ _ _ _ _ _ _ _ _ _ _ _ _ _ _ _ _ _ _ _ _ _ _ _ _ _ _ hb4 (Lib.hid hacc)
            intro y13 y14 y15 y16 y17 y18 y19 y20 y21 y22 y23 y24 y25 y26 y27 y28 y29 y30 y31 y32 y33 y34 y35 y36 y37 y38 y39 y40 y41 y42 y43 y44 y45 y46 y47 y48 y49 v6 W4 HO4 HB4
            subst hQQ
            clear F1 F2 F3 B1 B2 B3 R1 R2 R3 HL1 HL2 HL3 HSA HSD cx
            have HN : Hid (LnOk X (O.take k ++ [s] ++ O.drop k) (i + 1)) := Lib.hid HTQ.out.ok
            have HON : Hid (OwnS W4 w1.heap.size v6 (O.take k ++ [s] ++ O.drop k)) := Lib.hid (HO4.out.base_le' HTQ.out.bel.size)
            have HBN := Lib.hid (HTQ.out.bel.trans (HB4.out.mono HTQ.out.bel.size))
            clear HO4 HB4 HTQ
            go_wp2_with fail
            go_roundw
            case rel => exact ⟨i + 1, _, by go_num, by omega, by omega, HN.out, HON.out, HBN.out⟩
            case measure => simp [intOf]; omega
        · have HHT : Hid (LnOk X (O.take k ++ [s] ++ O.drop k) (i + 1)) := Lib.hid (HNX.out k hk HALL.out (fun h => absurd h hkl))
          rcases HO.out.form with ⟨h1, h2⟩ | ⟨ob, c2, cur, h1, _⟩
          · injection h1 with e1 e2 e3
            subst e1; subst e3; subst h2
            obtain rfl : k = 0 := by simpa using hk
            have HBQ : Hid (∀ q, Below wo.heap.size wo (wr.drewN q)) := Lib.hid (fun q => HB2.out.trans (below_drewV _ _ _))
            have HT : Hid (∀ q, LTail X w1 (wr.drewN q) i 0 s (none) ([] : List Str).length 0 ([] : List Str)) := Lib.hid (fun q => ⟨HHT.out, HO.out.below (HBQ.out q), HB.out.trans ((HBQ.out q).mono HB.out.size)⟩)
            clear ho2
            go_wp2_with fail
            go_quiet (fail)
            go_wp2_with fail
            have HTQ := Lib.hid (HT.out nq)
            clear cx HT HHT HBQ
            generalize wr.drewN nq = W at HTQ ⊢
            have cx := HXI.out W HTQ.out.bel
            have hxW : xb < W.heap.size := Nat.lt_of_lt_of_le hxb HTQ.out.bel.size
            have hrow := HTQ.out.own.srow
            have HSA : Hid (SrcS W (.slice none 0 0) (([] : List Str).take 0)) := Lib.hid ⟨none, 0, rfl, fun _ => rfl, fun ad h => by cases h⟩
            have HSD : Hid (SrcS W (.slice none 0 0) (([] : List Str).drop 0)) := Lib.hid ⟨none, 0, rfl, fun _ => rfl, fun ad h => by cases h⟩
            have F1 : Hid (OwnS (W.alloc (.cells #[] 9)).drew W.heap.size (.slice (some ⟨W.heap.size, 0, none⟩) 0 0) []) := Lib.hid (ownS_empty W W.heap.size (Nat.le_refl _)).drewS
            have F2 : Hid (OwnS ((W.alloc (.cells #[] 9)).alloc (.cells #[.string (bs s)] 9)).drew W.heap.size (.slice (some ⟨W.heap.size, 0, none⟩) 0 0) []) := Lib.hid ((ownS_empty W W.heap.size (Nat.le_refl _)).allocS _).drewS
            have F3 : Hid (OwnS ((W.alloc (.cells #[.string (bs s)] 9)).alloc (.cells #[] 9)).drew W.heap.size (.slice (some ⟨W.heap.size + 1, 0, none⟩) 0 0) []) := Lib.hid (by
              have := (ownS_empty (W.alloc (.cells #[.string (bs s)] 9)) W.heap.size (by simp)).drewS
              simpa using this)
            have B1 := Lib.hid (below_new W (.cells #[] 9)).drew
            have B2 := Lib.hid (below_twoS W (.cells #[] 9) (.cells #[.string (bs s)] 9))
            have B3 := Lib.hid (below_twoS W (.cells #[.string (bs s)] 9) (.cells #[] 9))
            have R1 := Lib.hid (HSA.out.below B1.out)
            have R2 := Lib.hid (HSA.out.below B2.out)
            have R3 := Lib.hid (HSA.out.below B3.out)
            have HL1 : Hid (([] : List Str).length + (([] : List Str).take 0).length ≤ 1000) := Lib.hid (by simp <;> omega)
            have HL2 : Hid (([] ++ ([] : List Str).take 0).length + [s].length ≤ 1000) := Lib.hid (by simp <;> omega)
            have HL3 : Hid (([] ++ ([] : List Str).take 0 ++ [s]).length + (([] : List Str).drop 0).length ≤ 1000) := Lib.hid (by simp <;> omega)
            have hkc : (0 : Int) ≤ (([] : List Str).length : Int) := by omega
            have hk0 : (0 : Int) ≤ (0 : Int) := by omega
            have hkc2 : (0 : Int) ≤ (0 : Int) := by omega
            clear hrow
            generalize hQQ : Exit.inBlock 1 _ = QQ
            suffices key : ∀ (y13 y14 y15 y16 y17 y18 y19 y20 y21 y22 y23 y24 y25 y26 y27 y28 y29 y30 y31 y32 y33 y34 y35 y36 y37 y38 y39 y40 y41 y42 y43 y44 y45 y46 y47 y48 y49 v6 : Value) (W4 : World), Hid (OwnS W4 W.heap.size v6 ([] ++ ([] : List Str).take 0 ++ [s] ++ ([] : List Str).drop 0)) → Hid (Below W.heap.size W W4) →
                QQ .normal { tmps := #[u, .string (bs v), undef, undef, .slice none 0 0, .slice (some ⟨xb, xoff, none⟩) X.length xcap, v6, .int .i64 (i : Nat), .int .i64 (0 : Nat), u, .string (bs v), .slice (some ⟨xb, xoff, none⟩) X.length xcap, .int .i64 (i : Nat), y13, y14, y15, y16, y17, y18, y19, y20, y21, y22, y23, y24, y25, y26, y27, y28, y29, y30, y31, y32, y33, y34, y35, y36, y37, y38, y39, y40, y41, y42, y43, y44, y45, y46, y47, y48, y49, undef, undef, undef, undef], defers := [] } W4 by
              clear hQQ
              go_region_held3 (fun w' => w'.cell? ⟨xb, xoff + i, none⟩ = some (.string (bs s)))
                (first | exact cx | exact keep_belowR (below_new _ _) (by assumption) | exact keep_belowR (below_new _ _).drew (by assumption) | exact (hk4.out.cell (p := ⟨xb, xoff + i, none⟩) hxW).trans (by assumption) | exact (hk3.out.cell (p := ⟨xb, xoff + i, none⟩) hxW).trans (by assumption) | exact (hk2.out.cell (p := ⟨xb, xoff + i, none⟩) hxW).trans (by assumption) | fail)
                (first
                  | (refine step_appR (by rfl) (.tmp 35) (.tmp 38) (by rfl) W.heap.size (.slice (some ⟨W.heap.size, 0, none⟩) 0 0) (.slice none 0 0) [] (([] : List Str).take 0) (by kernel_rfl) (by kernel_rfl) (by first | exact F1 | exact F2) (by first | exact R1.out | exact R2.out) HL1.out (by simp; try omega) ?_; intro v2 w2 hb2 hg2 hk2; have hacc := (by first | exact B1.out.trans hk2.out | exact B2.out.trans hk2.out : Below W.heap.size W w2))
                  | (refine step_appR (by rfl) (.tmp 35) (.tmp 38) (by rfl) W.heap.size (.slice (some ⟨W.heap.size + 1, 0, none⟩) 0 0) (.slice none 0 0) [] (([] : List Str).take 0) (by kernel_rfl) (by kernel_rfl) F3 R3.out HL1.out (by simp; try omega) ?_; intro v2 w2 hb2 hg2 hk2; have hacc := (B3.out.trans hk2.out : Below W.heap.size W w2))
                  | (refine step_appR (by rfl) (.tmp 39) (.tmp 44) (by rfl) W.heap.size v2 (.slice (some ⟨w2.heap.size, 0, none⟩) 1 1) ([] ++ ([] : List Str).take 0) [s] (by kernel_rfl) (by kernel_rfl) (Lib.hid (hb2.out.allocS _)) srcS_new HL2.out (by have := hacc.size; simp; omega) ?_; intro v3 w3 hb3 hg3 hk3; replace hacc := (hacc.trans ((below_new w2 (.cells #[.string (bs s)] 9)).mono hacc.size)).trans hk3.out)
                  | (refine step_appR (by rfl) (.tmp 39) (.tmp 44) (by rfl) W.heap.size v2 (.slice (some ⟨W.heap.size + 1, 0, none⟩) 1 1) ([] ++ ([] : List Str).take 0) [s] (by kernel_rfl) (by kernel_rfl) hb2 (srcS_snd hg2.out) HL2.out hacc.size ?_; intro v3 w3 hb3 hg3 hk3; replace hacc := hacc.trans hk3.out)
                  | (refine step_appR (by rfl) (.tmp 39) (.tmp 44) (by rfl) W.heap.size v2 (.slice (some ⟨W.heap.size, 0, none⟩) 1 1) ([] ++ ([] : List Str).take 0) [s] (by kernel_rfl) (by kernel_rfl) hb2 (srcS_fst hg2.out) HL2.out hacc.size ?_; intro v3 w3 hb3 hg3 hk3; replace hacc := hacc.trans hk3.out)
                  | (refine step_appR (by rfl) (.tmp 45) (.tmp 48) (by rfl) W.heap.size v3 (.slice none 0 0) ([] ++ ([] : List Str).take 0 ++ [s]) (([] : List Str).drop 0) (by kernel_rfl) (by kernel_rfl) hb3 (HSD.out.below hacc) HL3.out hacc.size ?_; intro v4 w4 hb4 hg4 hk4; replace hacc := hacc.trans hk4.out))
              all_goals exact key _ _ _ _ _ _ _ _ _ _ _ _ _ _ _ _ _ _ _ _ _ _ _ _ _ _ _ _ _ _ _ _ _ _ _ _ _ _ _ hb4 (Lib.hid hacc)
            intro y13 y14 y15 y16 y17 y18 y19 y20 y21 y22 y23 y24 y25 y26 y27 y28 y29 y30 y31 y32 y33 y34 y35 y36 y37 y38 y39 y40 y41 y42 y43 y44 y45 y46 y47 y48 y49 v6 W4 HO4 HB4
            subst hQQ
            clear F1 F2 F3 B1 B2 B3 R1 R2 R3 HL1 HL2 HL3 HSA HSD cx
            have HN : Hid (LnOk X (([] : List Str).take 0 ++ [s] ++ ([] : List Str).drop 0) (i + 1)) := Lib.hid HTQ.out.ok
            have HON : Hid (OwnS W4 w1.heap.size v6 (([] : List Str).take 0 ++ [s] ++ ([] : List Str).drop 0)) := Lib.hid (HO4.out.base_le' HTQ.out.bel.size)
            have HBN := Lib.hid (HTQ.out.bel.trans (HB4.out.mono HTQ.out.bel.size))
            clear HO4 HB4 HTQ
            go_wp2_with fail
            go_roundw
            case rel => exact ⟨i + 1, _, by go_num, by omega, by omega, HN.out, HON.out, HBN.out⟩
            case measure => simp [intOf]; omega
          · injection h1 with e1 e2 e3
            subst e1; subst e3
            by_cases hce : k = ocap
            · subst hce
              have HBQ : Hid (∀ q, Below wo.heap.size wo (wr.drewN q)) := Lib.hid (fun q => HB2.out.trans (below_drewV _ _ _))
              have HT : Hid (∀ q, LTail X w1 (wr.drewN q) i k s (some ⟨ob, 0, none⟩) O.length k O) := Lib.hid (fun q => ⟨HHT.out, HO.out.below (HBQ.out q), HB.out.trans ((HBQ.out q).mono HB.out.size)⟩)
              clear ho2
              go_wp2_with fail
              go_quiet (fail)
              go_wp2_with fail
              have HTQ := Lib.hid (HT.out nq)
              clear cx HT HHT HBQ
              generalize wr.drewN nq = W at HTQ ⊢
              have cx := HXI.out W HTQ.out.bel
              have hxW : xb < W.heap.size := Nat.lt_of_lt_of_le hxb HTQ.out.bel.size
              have hrow := HTQ.out.own.srow
              have HSA : Hid (SrcS W (.slice (some ⟨ob, 0, none⟩) k k) (O.take k)) := Lib.hid (.of (hrow.take hk))
              have HSD : Hid (SrcS W (.slice (some ⟨ob, 0, none⟩) 0 0) (O.drop k)) := Lib.hid (by have h := SrcS.drop hrow hk 0 (fun h => absurd h hkl); rwa [Nat.sub_self, Nat.sub_eq_zero_of_le (Nat.not_lt.1 hkl)] at h)
              have F1 : Hid (OwnS (W.alloc (.cells #[] 9)).drew W.heap.size (.slice (some ⟨W.heap.size, 0, none⟩) 0 0) []) := Lib.hid (ownS_empty W W.heap.size (Nat.le_refl _)).drewS
              have F2 : Hid (OwnS ((W.alloc (.cells #[] 9)).alloc (.cells #[.string (bs s)] 9)).drew W.heap.size (.slice (some ⟨W.heap.size, 0, none⟩) 0 0) []) := Lib.hid ((ownS_empty W W.heap.size (Nat.le_refl _)).allocS _).drewS
              have F3 : Hid (OwnS ((W.alloc (.cells #[.string (bs s)] 9)).alloc (.cells #[] 9)).drew W.heap.size (.slice (some ⟨W.heap.size + 1, 0, none⟩) 0 0) []) := Lib.hid (by
                have := (ownS_empty (W.alloc (.cells #[.string (bs s)] 9)) W.heap.size (by simp)).drewS
                simpa using this)
              have B1 := Lib.hid (below_new W (.cells #[] 9)).drew
              have B2 := Lib.hid (below_twoS W (.cells #[] 9) (.cells #[.string (bs s)] 9))
              have B3 := Lib.hid (below_twoS W (.cells #[.string (bs s)] 9) (.cells #[] 9))
              have R1 := Lib.hid (HSA.out.below B1.out)
              have R2 := Lib.hid (HSA.out.below B2.out)
              have R3 := Lib.hid (HSA.out.below B3.out)
              have HL1 : Hid (([] : List Str).length + (O.take k).length ≤ 1000) := Lib.hid (by simp <;> omega)
              have HL2 : Hid (([] ++ O.take k).length + [s].length ≤ 1000) := Lib.hid (by simp <;> omega)
              have HL3 : Hid (([] ++ O.take k ++ [s]).length + (O.drop k).length ≤ 1000) := Lib.hid (by simp <;> omega)
              have hkc : (k : Int) ≤ (O.length : Int) := by omega
              have hk0 : (0 : Int) ≤ (k : Int) := by omega
              have hkc2 : (k : Int) ≤ (k : Int) := by omega
              clear hrow
              generalize hQQ : Exit.inBlock 1 _ = QQ
              suffices key : ∀ (y13 y14 y15 y16 y17 y18 y19 y20 y21 y22 y23 y24 y25 y26 y27 y28 y29 y30 y31 y32 y33 y34 y35 y36 y37 y38 y39 y40 y41 y42 y43 y44 y45 y46 y47 y48 y49 v6 : Value) (W4 : World), Hid (OwnS W4 W.heap.size v6 ([] ++ O.take k ++ [s] ++ O.drop k)) → Hid (Below W.heap.size W W4) →
                  QQ .normal { tmps := #[u, .string (bs v), undef, undef, .slice none 0 0, .slice (some ⟨xb, xoff, none⟩) X.length xcap, v6, .int .i64 (i : Nat), .int .i64 (k : Nat), u, .string (bs v), .slice (some ⟨xb, xoff, none⟩) X.length xcap, .int .i64 (i : Nat), y13, y14, y15, y16, y17, y18, y19, y20, y21, y22, y23, y24, y25, y26, y27, y28, y29, y30, y31, y32, y33, y34, y35, y36, y37, y38, y39, y40, y41, y42, y43, y44, y45, y46, y47, y48, y49, undef, undef, undef, undef], defers := [] } W4 by
                clear hQQ
                go_region_held3 (fun w' => w'.cell? ⟨xb, xoff + i, none⟩ = some (.string (bs s)))
                  (first | exact cx | exact keep_belowR (below_new _ _) (by assumption) | exact keep_belowR (below_new _ _).drew (by assumption) | exact (hk4.out.cell (p := ⟨xb, xoff + i, none⟩) hxW).trans (by assumption) | exact (hk3.out.cell (p := ⟨xb, xoff + i, none⟩) hxW).trans (by assumption) | exact (hk2.out.cell (p := ⟨xb, xoff + i, none⟩) hxW).trans (by assumption) | fail)
                  (first
                    | (refine step_appR (by rfl) (.tmp 35) (.tmp 38) (by rfl) W.heap.size (.slice (some ⟨W.heap.size, 0, none⟩) 0 0) (.slice (some ⟨ob, 0, none⟩) k k) [] (O.take k) (by kernel_rfl) (by kernel_rfl) (by first | exact F1 | exact F2) (by first | exact R1.out | exact R2.out) HL1.out (by simp; try omega) ?_; intro v2 w2 hb2 hg2 hk2; have hacc := (by first | exact B1.out.trans hk2.out | exact B2.out.trans hk2.out : Below W.heap.size W w2))
                    | (refine step_appR (by rfl) (.tmp 35) (.tmp 38) (by rfl) W.heap.size (.slice (some ⟨W.heap.size + 1, 0, none⟩) 0 0) (.slice (some ⟨ob, 0, none⟩) k k) [] (O.take k) (by kernel_rfl) (by kernel_rfl) F3 R3.out HL1.out (by simp; try omega) ?_; intro v2 w2 hb2 hg2 hk2; have hacc := (B3.out.trans hk2.out : Below W.heap.size W w2))
                    | (refine step_appR (by rfl) (.tmp 39) (.tmp 44) (by rfl) W.heap.size v2 (.slice (some ⟨w2.heap.size, 0, none⟩) 1 1) ([] ++ O.take k) [s] (by kernel_rfl) (by kernel_rfl) (Lib.hid (hb2.out.allocS _)) srcS_new HL2.out (by have := hacc.size; simp; omega) ?_; intro v3 w3 hb3 hg3 hk3; replace hacc := (hacc.trans ((below_new w2 (.cells #[.string (bs s)] 9)).mono hacc.size)).trans hk3.out)
                    | (refine step_appR (by rfl) (.tmp 39) (.tmp 44) (by rfl) W.heap.size v2 (.slice (some ⟨W.heap.size + 1, 0, none⟩) 1 1) ([] ++ O.take k) [s] (by kernel_rfl) (by kernel_rfl) hb2 (srcS_snd hg2.out) HL2.out hacc.size ?_; intro v3 w3 hb3 hg3 hk3; replace hacc := hacc.trans hk3.out)
                    | (refine step_appR (by rfl) (.tmp 39) (.tmp 44) (by rfl) W.heap.size v2 (.slice (some ⟨W.heap.size, 0, none⟩) 1 1) ([] ++ O.take k) [s] (by kernel_rfl) (by kernel_rfl) hb2 (srcS_fst hg2.out) HL2.out hacc.size ?_; intro v3 w3 hb3 hg3 hk3; replace hacc := hacc.trans hk3.out)
                    | (refine step_appR (by rfl) (.tmp 45) (.tmp 48) (by rfl) W.heap.size v3 (.slice (some ⟨ob, 0, none⟩) 0 0) ([] ++ O.take k ++ [s]) (O.drop k) (by kernel_rfl) (by kernel_rfl) hb3 (HSD.out.below hacc) HL3.out hacc.size ?_; intro v4 w4 hb4 hg4 hk4; replace hacc := hacc.trans hk4.out))
                all_goals exact key _ _ _ _ _ _ _ _ _ _ _ _ _ _ _ _ _ _ _ _ _ _ _ _ _ _ _ _ _ _ _ _ _ _ _ _ _ _ _ hb4 (Lib.hid hacc)
              intro y13 y14 y15 y16 y17 y18 y19 y20 y21 y22 y23 y24 y25 y26 y27 y28 y29 y30 y31 y32 y33 y34 y35 y36 y37 y38 y39 y40 y41 y42 y43 y44 y45 y46 y47 y48 y49 v6 W4 HO4 HB4
              subst hQQ
              clear F1 F2 F3 B1 B2 B3 R1 R2 R3 HL1 HL2 HL3 HSA HSD cx
              have HN : Hid (LnOk X (O.take k ++ [s] ++ O.drop k) (i + 1)) := Lib.hid HTQ.out.ok
              have HON : Hid (OwnS W4 w1.heap.size v6 (O.take k ++ [s] ++ O.drop k)) := Lib.hid (HO4.out.base_le' HTQ.out.bel.size)
              have HBN := Lib.hid (HTQ.out.bel.trans (HB4.out.mono HTQ.out.bel.size))
              clear HO4 HB4 HTQ
              go_wp2_with fail
              go_roundw
              case rel => exact ⟨i + 1, _, by go_num, by omega, by omega, HN.out, HON.out, HBN.out⟩
              case measure => simp [intOf]; omega
            · skip
              have HBQ : Hid (∀ q, Below wo.heap.size wo (wr.drewN q)) := Lib.hid (fun q => HB2.out.trans (below_drewV _ _ _))
              have HT : Hid (∀ q, LTail X w1 (wr.drewN q) i k s (some ⟨ob, 0, none⟩) O.length ocap O) := Lib.hid (fun q => ⟨HHT.out, HO.out.below (HBQ.out q), HB.out.trans ((HBQ.out q).mono HB.out.size)⟩)
              clear ho2
              go_wp2_with fail
              go_quiet (fail)
              go_wp2_with fail
              have HTQ := Lib.hid (HT.out nq)
              clear cx HT HHT HBQ
              generalize wr.drewN nq = W at HTQ ⊢
              have cx := HXI.out W HTQ.out.bel
              have hxW : xb < W.heap.size := Nat.lt_of_lt_of_le hxb HTQ.out.bel.size
              have hrow := HTQ.out.own.srow
              have HSA : Hid (SrcS W (.slice (some ⟨ob, 0, none⟩) k ocap) (O.take k)) := Lib.hid (.of (hrow.take hk))
              have HSD : Hid (SrcS W (.slice (some ⟨ob, k, none⟩) (O.length - k) (ocap - k)) (O.drop k)) := Lib.hid (SrcS.drop hrow hk _ (fun h => absurd h hkl))
              have F1 : Hid (OwnS (W.alloc (.cells #[] 9)).drew W.heap.size (.slice (some ⟨W.heap.size, 0, none⟩) 0 0) []) := Lib.hid (ownS_empty W W.heap.size (Nat.le_refl _)).drewS
              have F2 : Hid (OwnS ((W.alloc (.cells #[] 9)).alloc (.cells #[.string (bs s)] 9)).drew W.heap.size (.slice (some ⟨W.heap.size, 0, none⟩) 0 0) []) := Lib.hid ((ownS_empty W W.heap.size (Nat.le_refl _)).allocS _).drewS
              have F3 : Hid (OwnS ((W.alloc (.cells #[.string (bs s)] 9)).alloc (.cells #[] 9)).drew W.heap.size (.slice (some ⟨W.heap.size + 1, 0, none⟩) 0 0) []) := Lib.hid (by
                have := (ownS_empty (W.alloc (.cells #[.string (bs s)] 9)) W.heap.size (by simp)).drewS
                simpa using this)
              have B1 := Lib.hid (below_new W (.cells #[] 9)).drew
              have B2 := Lib.hid (below_twoS W (.cells #[] 9) (.cells #[.string (bs s)] 9))
              have B3 := Lib.hid (below_twoS W (.cells #[.string (bs s)] 9) (.cells #[] 9))
              have R1 := Lib.hid (HSA.out.below B1.out)
              have R2 := Lib.hid (HSA.out.below B2.out)
              have R3 := Lib.hid (HSA.out.below B3.out)
              have HL1 : Hid (([] : List Str).length + (O.take k).length ≤ 1000) := Lib.hid (by simp <;> omega)
              have HL2 : Hid (([] ++ O.take k).length + [s].length ≤ 1000) := Lib.hid (by simp <;> omega)
              have HL3 : Hid (([] ++ O.take k ++ [s]).length + (O.drop k).length ≤ 1000) := Lib.hid (by simp <;> omega)
              have hkc : (k : Int) ≤ (O.length : Int) := by omega
              have hk0 : (0 : Int) ≤ (k : Int) := by omega
              have hkc2 : (k : Int) ≤ (ocap : Int) := by omega
              clear hrow
              have hck : ¬ ocap = k := fun h => hce h.symm
              generalize hQQ : Exit.inBlock 1 _ = QQ
              suffices key : ∀ (y13 y14 y15 y16 y17 y18 y19 y20 y21 y22 y23 y24 y25 y26 y27 y28 y29 y30 y31 y32 y33 y34 y35 y36 y37 y38 y39 y40 y41 y42 y43 y44 y45 y46 y47 y48 y49 v6 : Value) (W4 : World), Hid (OwnS W4 W.heap.size v6 ([] ++ O.take k ++ [s] ++ O.drop k)) → Hid (Below W.heap.size W W4) →
                  QQ .normal { tmps := #[u, .string (bs v), undef, undef, .slice none 0 0, .slice (some ⟨xb, xoff, none⟩) X.length xcap, v6, .int .i64 (i : Nat), .int .i64 (k : Nat), u, .string (bs v), .slice (some ⟨xb, xoff, none⟩) X.length xcap, .int .i64 (i : Nat), y13, y14, y15, y16, y17, y18, y19, y20, y21, y22, y23, y24, y25, y26, y27, y28, y29, y30, y31, y32, y33, y34, y35, y36, y37, y38, y39, y40, y41, y42, y43, y44, y45, y46, y47, y48, y49, undef, undef, undef, undef], defers := [] } W4 by
                clear hQQ
                go_region_held3 (fun w' => w'.cell? ⟨xb, xoff + i, none⟩ = some (.string (bs s)))
                  (first | exact cx | exact keep_belowR (below_new _ _) (by assumption) | exact keep_belowR (below_new _ _).drew (by assumption) | exact (hk4.out.cell (p := ⟨xb, xoff + i, none⟩) hxW).trans (by assumption) | exact (hk3.out.cell (p := ⟨xb, xoff + i, none⟩) hxW).trans (by assumption) | exact (hk2.out.cell (p := ⟨xb, xoff + i, none⟩) hxW).trans (by assumption) | fail)
                  (first
                    | (refine step_appR (by rfl) (.tmp 35) (.tmp 38) (by rfl) W.heap.size (.slice (some ⟨W.heap.size, 0, none⟩) 0 0) (.slice (some ⟨ob, 0, none⟩) k ocap) [] (O.take k) (by kernel_rfl) (by kernel_rfl) (by first | exact F1 | exact F2) (by first | exact R1.out | exact R2.out) HL1.out (by simp; try omega) ?_; intro v2 w2 hb2 hg2 hk2; have hacc := (by first | exact B1.out.trans hk2.out | exact B2.out.trans hk2.out : Below W.heap.size W w2))
                    | (refine step_appR (by rfl) (.tmp 35) (.tmp 38) (by rfl) W.heap.size (.slice (some ⟨W.heap.size + 1, 0, none⟩) 0 0) (.slice (some ⟨ob, 0, none⟩) k ocap) [] (O.take k) (by kernel_rfl) (by kernel_rfl) F3 R3.out HL1.out (by simp; try omega) ?_; intro v2 w2 hb2 hg2 hk2; have hacc := (B3.out.trans hk2.out : Below W.heap.size W w2))
                    | (refine step_appR (by rfl) (.tmp 39) (.tmp 44) (by rfl) W.heap.size v2 (.slice (some ⟨w2.heap.size, 0, none⟩) 1 1) ([] ++ O.take k) [s] (by kernel_rfl) (by kernel_rfl) (Lib.hid (hb2.out.allocS _)) srcS_new HL2.out (by have := hacc.size; simp; omega) ?_; intro v3 w3 hb3 hg3 hk3; replace hacc := (hacc.trans ((below_new w2 (.cells #[.string (bs s)] 9)).mono hacc.size)).trans hk3.out)
                    | (refine step_appR (by rfl) (.tmp 39) (.tmp 44) (by rfl) W.heap.size v2 (.slice (some ⟨W.heap.size + 1, 0, none⟩) 1 1) ([] ++ O.take k) [s] (by kernel_rfl) (by kernel_rfl) hb2 (srcS_snd hg2.out) HL2.out hacc.size ?_; intro v3 w3 hb3 hg3 hk3; replace hacc := hacc.trans hk3.out)
                    | (refine step_appR (by rfl) (.tmp 39) (.tmp 44) (by rfl) W.heap.size v2 (.slice (some ⟨W.heap.size, 0, none⟩) 1 1) ([] ++ O.take k) [s] (by kernel_rfl) (by kernel_rfl) hb2 (srcS_fst hg2.out) HL2.out hacc.size ?_; intro v3 w3 hb3 hg3 hk3; replace hacc := hacc.trans hk3.out)
                    | (refine step_appR (by rfl) (.tmp 45) (.tmp 48) (by rfl) W.heap.size v3 (.slice (some ⟨ob, k, none⟩) (O.length - k) (ocap - k)) ([] ++ O.take k ++ [s]) (O.drop k) (by kernel_rfl) (by kernel_rfl) hb3 (HSD.out.below hacc) HL3.out hacc.size ?_; intro v4 w4 hb4 hg4 hk4; replace hacc := hacc.trans hk4.out))
                all_goals exact key _ _ _ _ _ _ _ _ _ _ _ _ _ _ _ _ _ _ _ _ _ _ _ _ _ _ _ _ _ _ _ _ _ _ _ _ _ _ _ hb4 (Lib.hid hacc)
              intro y13 y14 y15 y16 y17 y18 y19 y20 y21 y22 y23 y24 y25 y26 y27 y28 y29 y30 y31 y32 y33 y34 y35 y36 y37 y38 y39 y40 y41 y42 y43 y44 y45 y46 y47 y48 y49 v6 W4 HO4 HB4
              subst hQQ
              clear F1 F2 F3 B1 B2 B3 R1 R2 R3 HL1 HL2 HL3 HSA HSD cx
              have HN : Hid (LnOk X (O.take k ++ [s] ++ O.drop k) (i + 1)) := Lib.hid HTQ.out.ok
              have HON : Hid (OwnS W4 w1.heap.size v6 (O.take k ++ [s] ++ O.drop k)) := Lib.hid (HO4.out.base_le' HTQ.out.bel.size)
              have HBN := Lib.hid (HTQ.out.bel.trans (HB4.out.mono HTQ.out.bel.size))
              clear HO4 HB4 HTQ
              go_wp2_with fail
              go_roundw
              case rel => exact ⟨i + 1, _, by go_num, by omega, by omega, HN.out, HON.out, HBN.out⟩
              case measure => simp [intOf]; omega
    · have hil : i = X.length := by omega
      have HLO : Hid (LineOk l v (v :: O)) := Lib.hid ((hil ▸ HLN.out : LnOk X O X.length).over HOK.out)
      obtain ⟨g', cap', w3, hrun, ho3, hb3⟩ := pushR wr v O _ (SrcS.of HO.out.srow) (by omega)
      have HRUN := Lib.hid hrun
      have HF : Hid (LinePost l v w (.returned (.slice (some ⟨g', 0, none⟩) (O.length + 1) cap')) w3) := Lib.hid ⟨_, v :: O, rfl, HLO.out, by have := HOL.out; simp; omega, ho3.srow, HB1.out.trans ((HB.out.trans (hb3.mono HB.out.size)).mono HB1.out.size)⟩
      clear hrun ho3 hb3 HLO hil
      go_wp2_with (at_builtin; refine Lib.wpList_append_run_sl _ rfl _ _ 27 rfl _ _ rfl rfl HRUN.out ?_)
      go_ret
      exact HF.out
end Go.Proofs.YtmnhnighlgpjmaaGreat

