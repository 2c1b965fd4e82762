/-
  The program's Cut.
-/
import Derived.Test.YtfeiapkifoakoaaAdd
import Derived.Test.YtfeiapkifoakoaaPush
namespace Go.Proofs.Ytfeiapkifoakoaa
set_option linter.unusedVariables false
set_option linter.unusedSimpArgs false
open Go.RowKit

set_option maxRecDepth 100000 in
set_option maxHeartbeats 0 in
theorem cutProg (v : Value) (l : List Sp) (s : Sp) (w : World) (hlen : l.length ≤ 100) (hw : s.wf) (hr : SRow w w.heap.size v l) : Calls Try.prog 10 #[v, spv s] w (ReadsPost (cutL l s) w) := by
  have HCl := Lib.hid (fun w' (h : SRow w' w'.heap.size v l) => cloneP v l w' h (by omega))
  have HRi := Lib.hid (fun w' (h : SRow w' w'.heap.size v l) => rightP v l w' h)
  have HV := Lib.hid (fun w => validP s w hw)
  have hb0 := below_new w (.cells #[.int .i64 s.p, .int .i64 s.n] 24)
  have q1 : (w.alloc (.cells #[.int .i64 s.p, .int .i64 s.n] 24)).cell? ⟨w.heap.size, 0, none⟩ = some (.int .i64 s.p) := (Blk.new w 24 _).cell 0
  have q2 : (w.alloc (.cells #[.int .i64 s.p, .int .i64 s.n] 24)).cell? ⟨w.heap.size, 1, none⟩ = some (.int .i64 s.n) := (Blk.new w 24 _).cell 1
  by_cases hri : right l
  · rw [show decide (right l) = true from decide_eq_true hri] at HRi
    by_cases hok : s.ok
    · rw [show decide s.ok = true from decide_eq_true hok] at HV
      by_cases h0 : s.n = 0
      · have hadd : cutL l s = l := by unfold cutL; rw [if_neg (fun h => by omega)]
        have h0' : (s.n == 0) = true := by simp [h0]
        rw [hadd]
        unfold spv at *
        clear h0 hok hadd hri
        obtain ⟨p, hp⟩ : ∃ p, s.p = p := ⟨_, rfl⟩
        obtain ⟨n, hn⟩ : ∃ n, s.n = n := ⟨_, rfl⟩
        rw [hp, hn] at hb0 q1 q2 HV ⊢
        rw [hn] at h0'
        clear hp hn
        go_enter Try.func10, Try.ntmps10
        go_wp2_with fail
        refine (HCl.out _ (hr.keep hb0)).mono ?_; rintro e w1 ⟨u, rfl, ho, b1⟩
        have c1 := keep_below b1 q1
        have c2 := keep_below b1 q2
        have r1 := (hr.keep hb0).keep b1
        have ho1 := ho.base_le (base' := w.heap.size) (by simp)
        have b1' := chain hb0 b1 (Nat.le_refl _)
        have HO1 := Lib.hid ho1
        clear ho ho1 b1
        go_wp2_with fail
        refine (HRi.out _ r1).mono ?_; rintro e w2 ⟨rfl, b2⟩
        have d1 := keep_below b2 c1
        have d2 := keep_below b2 c2
        have r2 := r1.keep b2
        have HO2 := Lib.hid (HO1.out.below b2)
        have b2' := chain b1' b2 (Nat.le_refl _)
        clear c1 c2 r1 b2 b1' q1 q2 HO1
        go_wp2_with fail
        refine (HV.out _).mono ?_; rintro e w3 ⟨rfl, b3⟩
        have e1 := keep_below b3 d1
        have e2 := keep_below b3 d2
        have r3 := r2.keep b3
        have HO3 := Lib.hid (HO2.out.below b3)
        have b3' := chain b2' b3 (Nat.le_refl _)
        clear d1 d2 r2 b3 b2' HO2
        go_wp2_with fail
        go_ret
        exact ⟨_, rfl, HO3.out.srow, b3'⟩
      · have h0' : (s.n == 0) = false := by simp [h0]
        have h0p : 0 < s.n := by unfold Sp.ok at hok; omega
        have HT := Lib.hid (fun w' (h : SRow w' w'.heap.size v l) => touchP v l s w' hri hok h)
        have HADD := Lib.hid (fun i j (h1 : Cut Sp.e l s.p i) (h2 : Cut Sp.p l (s.e + 1) j) => cutS_eq l s i j hri h0p (touch_le hri h0p h1 h2) h2.1 h1.2.1 h1.2.2 h2.2.1 h2.2.2)
        have HLE := Lib.hid (fun i j (h1 : Cut Sp.e l s.p i) (h2 : Cut Sp.p l (s.e + 1) j) => touch_le hri h0p h1 h2)
        have hadd : cutL l s = cutS l s := by unfold cutL; rw [if_pos ⟨hri, hok, h0p⟩]
        rw [hadd]
        clear hadd
        have HXK := Lib.hid (fun c hc => gt_ok hri c hc)
        have HGO := Lib.hid (fun c hc => (gt_ok hri c hc).1)
        have hok1 := hok
        unfold Sp.ok at hok1
        unfold spv at *
        have HSE : Hid (s.p + s.n = s.e) := rfl
        obtain ⟨p, hp⟩ : ∃ p, s.p = p := ⟨_, rfl⟩
        obtain ⟨n, hn⟩ : ∃ n, s.n = n := ⟨_, rfl⟩
        rw [hp, hn] at hb0 q1 q2 HV hok1 HSE HT ⊢
        rw [hn] at h0'
        have HP := Lib.hid hp
        have HN := Lib.hid hn
        clear hp hn h0 hri hok h0p hw
        obtain ⟨z1, z2, z3, z4⟩ := hok1
        go_enter Try.func10, Try.ntmps10
        go_wp2_with fail
        refine (HCl.out _ (hr.keep hb0)).mono ?_; rintro e w1 ⟨u, rfl, ho, b1⟩
        have c1 := keep_below b1 q1
        have c2 := keep_below b1 q2
        have r1 := (hr.keep hb0).keep b1
        have ho1 := ho.base_le (base' := w.heap.size) (by simp)
        have b1' := chain hb0 b1 (Nat.le_refl _)
        have HO1 := Lib.hid ho1
        clear ho ho1 b1
        go_wp2_with fail
        refine (HRi.out _ r1).mono ?_; rintro e w2 ⟨rfl, b2⟩
        have d1 := keep_below b2 c1
        have d2 := keep_below b2 c2
        have r2 := r1.keep b2
        have HO2 := Lib.hid (HO1.out.below b2)
        have b2' := chain b1' b2 (Nat.le_refl _)
        clear c1 c2 r1 b2 b1' q1 q2 HO1
        go_wp2_with fail
        refine (HV.out _).mono ?_; rintro e w3 ⟨rfl, b3⟩
        have e1 := keep_below b3 d1
        have e2 := keep_below b3 d2
        have r3 := r2.keep b3
        have HO3 := Lib.hid (HO2.out.below b3)
        have b3' := chain b2' b3 (Nat.le_refl _)
        clear d1 d2 r2 b3 b2' HO2
        go_wp2_with fail
        refine (HT.out _ r3).mono ?_; rintro e w4 ⟨i, j, J, rfl, hJ, hi, hj, b4⟩
        have HJ := Lib.hid hJ
        clear hJ
        have f1 := keep_below b4 e1
        have f2 := keep_below b4 e2
        have r4 := r3.keep b4
        have HO4 := Lib.hid (HO3.out.below b4)
        have b4' := chain b3' b4 (Nat.le_refl _)
        have hij := HLE.out i j hi hj
        have hjl := hj.1
        have HEQ := Lib.hid (HADD.out i j hi hj)
        clear e1 e2 r3 b4 b3' HO3 hi hj
        obtain ⟨⟨hwf, hcp⟩, hlm, A, cap, rfl, hA⟩ := r4
        obtain ⟨k1, k2, k3⟩ := hcp _ _ _ rfl
        have k2' : cap ≤ 9223372036854775807 := by unfold maxLen at k2; omega
        clear hcp hlm hr HCl HRi HV HT hb0 hwf k2
        obtain ⟨d, rfl⟩ : ∃ d, j = i + d := ⟨j - i, by omega⟩
        have HID : Hid (i ≤ i + d) := hij
        clear hij
        obtain ⟨L, hL⟩ : ∃ L, (l.take (i + d)).drop i = L := ⟨_, rfl⟩
        have hLl : L.length = d := by rw [← hL, mid_len (by omega) hjl]; omega
        have HLT := Lib.hid (fun k (hk : k < d) => (by rw [← hL]; exact mid_get (by omega) hjl : L.take (k + 1) = L.take k ++ [gt l (i + k)]))
        rw [hL] at HEQ
        have HLl := Lib.hid hLl
        have HML := Lib.hid (fun k => Nat.le_trans (cutM_length (L.take k) s) (Nat.mul_le_mul_left 2 (Nat.le_trans (List.length_take_le' k L) (Nat.le_of_eq hLl))))
        clear hL hLl HADD HLE
        have hJ := HJ.out
        have x1 : (i : Int) ≤ J := by omega
        have x2 : J ≤ (cap : Int) := by omega
        have x4 : J.toNat = i + d := by omega
        have x5 : 0 ≤ J := by omega
        clear hJ
        have hbs := b4'.size
        have hgb : w.heap.size < w4.heap.size := World.block_lt_of_cell? w4 _ f1
        by_cases hd : 0 < d
        · obtain ⟨b, off, rfl, hbb, hcl⟩ := hA (by omega)
          have HCLL := Lib.hid hcl
          clear hA hcl k3
          have x3 : ¬ (cap = i) := by omega
          go_wp2_with fail
          go_loopw [8, 10, 38] (fun rv u10 c wl => ∃ k : Nat, k ≤ d ∧ c = .int .i64 k ∧ Own wl w4.heap.size rv (cutM (L.take k) s) ∧ Below w4.heap.size w4 wl) (fun _ _ c _ => d - (intOf c).toNat)
          case atStart => exact ⟨0, by omega, rfl, ⟨World.ownsRow_nil _ _ _ _, fun s hs => by simp [cutM] at hs, by simp [cutM]⟩, Below.refl _ _⟩
          case round =>
            obtain ⟨k, hk, rfl, hov, hB⟩ := hrel
            obtain ⟨rv, rfl⟩ : ∃ x, x = u8 := ⟨_, rfl⟩
            by_cases hlt : k < d
            · have hx := HXK.out (i + k) (by omega)
              have hcc := HCLL.out (i + k) (by omega)
              rw [show off + (i + k) * 2 = off + i * 2 + k * 2 by omega] at hcc
              have c1 := (hB.cell (p := ⟨b, off + i * 2 + k * 2, none⟩) hbb).trans hcc.1
              have c2 := (hB.cell (p := ⟨b, off + i * 2 + k * 2 + 1, none⟩) hbb).trans hcc.2
              have g1 := (hB.cell (p := ⟨w.heap.size, 0, none⟩) hgb).trans f1
              have g2 := (hB.cell (p := ⟨w.heap.size, 1, none⟩) hgb).trans f2
              clear hcc
              have hnx : cutM (L.take (k + 1)) s = cutM (L.take k) s ++ cutP (gt l (i + k)) s := by rw [HLT.out k hlt, cutM_snoc]
              have hce : cutP (gt l (i + k)) s = (if (gt l (i + k)).p < p then [⟨(gt l (i + k)).p, p - (gt l (i + k)).p⟩] else []) ++ (if p + n < (gt l (i + k)).p + (gt l (i + k)).n then [⟨p + n, (gt l (i + k)).p + (gt l (i + k)).n - (p + n)⟩] else []) := by
                rw [← HP.out, ← HN.out]; rfl
              have hml := HML.out k
              obtain ⟨M, hM⟩ : ∃ M, cutM (L.take k) s = M := ⟨_, rfl⟩
              obtain ⟨xp, hxp⟩ : ∃ x, (gt l (i + k)).p = x := ⟨_, rfl⟩
              obtain ⟨xn, hxn⟩ : ∃ x, (gt l (i + k)).n = x := ⟨_, rfl⟩
              unfold Sp.ok at hx
              rw [hxp] at c1
              rw [hxn] at c2
              rw [hxp, hxn] at hx hce
              rw [hM] at hnx hov hml
              rw [hce] at hnx
              obtain ⟨⟨v1, v2, v3, v4⟩, v5⟩ := hx
              have HNX := Lib.hid hnx
              clear hxp hxn hM hce hnx
              have e0 := below_new wr (.cells #[.int .i64 xp, .int .i64 xn] 24)
              have t1 : (wr.alloc (.cells #[.int .i64 xp, .int .i64 xn] 24)).cell? ⟨wr.heap.size, 0, none⟩ = some (.int .i64 xp) := (Blk.new wr 24 _).cell 0
              have t2 : (wr.alloc (.cells #[.int .i64 xp, .int .i64 xn] 24)).cell? ⟨wr.heap.size, 1, none⟩ = some (.int .i64 xn) := (Blk.new wr 24 _).cell 1
              have g3 := keep_below e0 g1
              have g4 := keep_below e0 g2
              have y1 : (k : Int) < d := by omega
              have hbk : ∀ g, rv.ownBlock = some g → w4.heap.size ≤ g ∧ g < wr.heap.size := fun g hg => hov.row.lt g hg
              have hBs := hB.size
              have HBK := Lib.hid hbk
              have HOV := Lib.hid (hov.below e0)
              have hB1 := chain hB e0 (Nat.le_refl _)
              clear hov hbk
              have w10 : IntKind.i64.wrap (p - xp) = p - xp := IntWalk.i64_in _ (by omega)
              have w11 : IntKind.i64.wrap (xp + xn - (p + n)) = xp + xn - (p + n) := IntWalk.i64_in _ (by omega)
              have hwf1 : Sp.wf ⟨xp, p - xp⟩ := by unfold Sp.wf; simp only; omega
              have hwf2 : Sp.wf ⟨p + n, xp + xn - (p + n)⟩ := by unfold Sp.wf; simp only; omega
              have HW1 := Lib.hid hwf1; have HW2 := Lib.hid hwf2
              clear hwf1 hwf2
              by_cases q1 : xp < p
              · go_wp2_with (at_builtin; refine wpList_push_sp _ rfl _ _ rfl w4.heap.size rv M (wr.heap.size + 1) xp (p - xp) (by rfl) (by rfl) (HOV.out.below (below_new _ _)) (by have h := cells_new (wr.alloc (.cells #[.int .i64 xp, .int .i64 xn] 24)) xp (p - xp); rw [size_new] at h; exact h) (by omega) HW1.out (by simp; omega) ?_; intro v8 w8 HV8 HG8 HD8)
                have hacc := (chain hB1 (below_new _ (.cells #[.int .i64 xp, .int .i64 (p - xp)] 24)) (Nat.le_refl _)).trans (below_own HG8.out (HOV.out.below (below_new _ _)) (Nat.le_refl _) (by simp; omega))
                have a1 := grown_cell HG8.out (keep_below (below_new _ _) g3) (fun g hg => by have := HBK.out g hg; omega)
                have a2 := grown_cell HG8.out (keep_below (below_new _ _) g4) (fun g hg => by have := HBK.out g hg; omega)
                have a3 := grown_cell HG8.out (keep_below (below_new _ _) t1) (fun g hg => by have := HBK.out g hg; omega)
                have a4 := grown_cell HG8.out (keep_below (below_new _ _) t2) (fun g hg => by have := HBK.out g hg; omega)
                have HBK2 : Hid (∀ g, v8.ownBlock = some g → w4.heap.size ≤ g ∧ g ≠ wr.heap.size) := fun g hg => by
                  rcases HD8.out g hg with h | h
                  · have := HBK.out g h; omega
                  · simp at h; omega
                replace HOV := HV8
                clear HV8 HG8 HD8 HBK hB1 g3 g4 t1 t2 g1 g2 e0
                by_cases q2 : p + n < xp + xn
                · have HE : Hid (cutM (L.take (k + 1)) s = (M ++ [⟨xp, p - xp⟩]) ++ [⟨p + n, xp + xn - (p + n)⟩]) := by show _ = _; rw [HNX.out, if_pos q1, if_pos q2]; simp
                  go_region_held3 (fun w' => w'.cell? ⟨w.heap.size, 0, none⟩ = some (.int .i64 p) ∧ w'.cell? ⟨w.heap.size, 1, none⟩ = some (.int .i64 n) ∧ w'.cell? ⟨wr.heap.size, 0, none⟩ = some (.int .i64 xp) ∧ w'.cell? ⟨wr.heap.size, 1, none⟩ = some (.int .i64 xn))
                    (first | go_keep | (go_split_ands; exact ⟨keep_below b9 (by assumption), keep_below b9 (by assumption), keep_below b9 (by assumption), keep_below b9 (by assumption)⟩))
                    (first | (go_at_call 21; (with_reducible refine (endP p n _ (by omega) (by omega)).mono ?_); rintro e w9 ⟨rfl, b9⟩; replace hacc := (by first | exact chain hacc b9 (Nat.le_refl _) | exact chain hacc (below_drew b9) (Nat.le_refl _)); replace HOV := Lib.hid (by first | exact HOV.out.below b9 | exact HOV.out.below (below_drew b9))) | (go_at_call 21; (with_reducible refine (endP xp xn _ (by omega) (by omega)).mono ?_); rintro e w9 ⟨rfl, b9⟩; replace hacc := (by first | exact chain hacc b9 (Nat.le_refl _) | exact chain hacc (below_drew b9) (Nat.le_refl _)); replace HOV := Lib.hid (by first | exact HOV.out.below b9 | exact HOV.out.below (below_drew b9))))
                  go_wp2_with fail
                  go_region_held3 (fun w' => w'.cell? ⟨w.heap.size, 0, none⟩ = some (.int .i64 p) ∧ w'.cell? ⟨w.heap.size, 1, none⟩ = some (.int .i64 n) ∧ w'.cell? ⟨wr.heap.size, 0, none⟩ = some (.int .i64 xp) ∧ w'.cell? ⟨wr.heap.size, 1, none⟩ = some (.int .i64 xn))
                    (first | go_keep | (go_split_ands; exact ⟨grown_cell HG9.out (by assumption) (fun g hg => by have := HBK2.out g hg; omega), grown_cell HG9.out (by assumption) (fun g hg => by have := HBK2.out g hg; omega), grown_cell HG9.out (by assumption) (fun g hg => by have := HBK2.out g hg; omega), grown_cell HG9.out (by assumption) (fun g hg => by have := HBK2.out g hg; omega)⟩) | (go_split_ands; exact ⟨keep_below b9 (by assumption), keep_below b9 (by assumption), keep_below b9 (by assumption), keep_below b9 (by assumption)⟩))
                    (first | (go_at_call 21; (with_reducible refine (endP p n _ (by omega) (by omega)).mono ?_); rintro e w9 ⟨rfl, b9⟩; replace hacc := (by first | exact chain hacc b9 (Nat.le_refl _) | exact chain hacc (below_drew b9) (Nat.le_refl _)); replace HOV := Lib.hid (by first | exact HOV.out.below b9 | exact HOV.out.below (below_drew b9))) | (go_at_call 21; (with_reducible refine (endP xp xn _ (by omega) (by omega)).mono ?_); rintro e w9 ⟨rfl, b9⟩; replace hacc := (by first | exact chain hacc b9 (Nat.le_refl _) | exact chain hacc (below_drew b9) (Nat.le_refl _)); replace HOV := Lib.hid (by first | exact HOV.out.below b9 | exact HOV.out.below (below_drew b9))) | (refine step_push_sp (by rfl) _ _ (by rfl) w4.heap.size v8 (M ++ [⟨xp, p - xp⟩]) w9.heap.size (p + n) (xp + xn - (p + n)) (by rfl) (by rfl) (HOV.out.below (below_new w9 _)) (cells_new w9 _ _) (by simp; omega) HW2.out (by have := hacc.size; simp; omega) ?_; intro v9 w12 HV9 HG9 HD9; have hfin := (chain hacc (below_new w9 (.cells #[.int .i64 (p + n), .int .i64 (xp + xn - (p + n))] 24)) (Nat.le_refl _)).trans (below_own HG9.out (HOV.out.below (below_new w9 _)) (Nat.le_refl _) (by have := hacc.size; simp; omega))))
                  go_wp2_with fail
                  all_goals
                    go_roundw
                    case rel => exact ⟨k + 1, by omega, by go_num, by rw [HE.out]; exact HV9.out, hfin⟩
                    case measure => simp [intOf]; omega
                · have HE : Hid (cutM (L.take (k + 1)) s = M ++ [⟨xp, p - xp⟩]) := by show _ = _; rw [HNX.out, if_pos q1, if_neg q2]; simp
                  go_region_held3 (fun w' => w'.cell? ⟨w.heap.size, 0, none⟩ = some (.int .i64 p) ∧ w'.cell? ⟨w.heap.size, 1, none⟩ = some (.int .i64 n) ∧ w'.cell? ⟨wr.heap.size, 0, none⟩ = some (.int .i64 xp) ∧ w'.cell? ⟨wr.heap.size, 1, none⟩ = some (.int .i64 xn))
                    (first | go_keep | (go_split_ands; exact ⟨keep_below b9 (by assumption), keep_below b9 (by assumption), keep_below b9 (by assumption), keep_below b9 (by assumption)⟩))
                    (first | (go_at_call 21; (with_reducible refine (endP p n _ (by omega) (by omega)).mono ?_); rintro e w9 ⟨rfl, b9⟩; replace hacc := (by first | exact chain hacc b9 (Nat.le_refl _) | exact chain hacc (below_drew b9) (Nat.le_refl _)); replace HOV := Lib.hid (by first | exact HOV.out.below b9 | exact HOV.out.below (below_drew b9))) | (go_at_call 21; (with_reducible refine (endP xp xn _ (by omega) (by omega)).mono ?_); rintro e w9 ⟨rfl, b9⟩; replace hacc := (by first | exact chain hacc b9 (Nat.le_refl _) | exact chain hacc (below_drew b9) (Nat.le_refl _)); replace HOV := Lib.hid (by first | exact HOV.out.below b9 | exact HOV.out.below (below_drew b9))))
                  go_wp2_with fail
                  all_goals
                    go_roundw
                    case rel => exact ⟨k + 1, by omega, by go_num, by rw [HE.out]; exact HOV.out, hacc⟩
                    case measure => simp [intOf]; omega
              · have HBK2 : Hid (∀ g, rv.ownBlock = some g → w4.heap.size ≤ g ∧ g ≠ wr.heap.size) := fun g hg => by have := HBK.out g hg; omega
                have hacc := hB1
                clear hB1 g1 g2 e0 HBK
                by_cases q2 : p + n < xp + xn
                · have HE : Hid (cutM (L.take (k + 1)) s = M ++ [⟨p + n, xp + xn - (p + n)⟩]) := by show _ = _; rw [HNX.out, if_neg q1, if_pos q2]; simp
                  go_wp2_with fail
                  go_region_held3 (fun w' => w'.cell? ⟨w.heap.size, 0, none⟩ = some (.int .i64 p) ∧ w'.cell? ⟨w.heap.size, 1, none⟩ = some (.int .i64 n) ∧ w'.cell? ⟨wr.heap.size, 0, none⟩ = some (.int .i64 xp) ∧ w'.cell? ⟨wr.heap.size, 1, none⟩ = some (.int .i64 xn))
                    (first | go_keep | (go_split_ands; exact ⟨keep_below b9 (by assumption), keep_below b9 (by assumption), keep_below b9 (by assumption), keep_below b9 (by assumption)⟩))
                    (first | (go_at_call 21; (with_reducible refine (endP p n _ (by omega) (by omega)).mono ?_); rintro e w9 ⟨rfl, b9⟩; replace hacc := (by first | exact chain hacc b9 (Nat.le_refl _) | exact chain hacc (below_drew b9) (Nat.le_refl _)); replace HOV := Lib.hid (by first | exact HOV.out.below b9 | exact HOV.out.below (below_drew b9))) | (go_at_call 21; (with_reducible refine (endP xp xn _ (by omega) (by omega)).mono ?_); rintro e w9 ⟨rfl, b9⟩; replace hacc := (by first | exact chain hacc b9 (Nat.le_refl _) | exact chain hacc (below_drew b9) (Nat.le_refl _)); replace HOV := Lib.hid (by first | exact HOV.out.below b9 | exact HOV.out.below (below_drew b9))))
                  go_wp2_with fail
                  go_region_held3 (fun w' => w'.cell? ⟨w.heap.size, 0, none⟩ = some (.int .i64 p) ∧ w'.cell? ⟨w.heap.size, 1, none⟩ = some (.int .i64 n) ∧ w'.cell? ⟨wr.heap.size, 0, none⟩ = some (.int .i64 xp) ∧ w'.cell? ⟨wr.heap.size, 1, none⟩ = some (.int .i64 xn))
                    (first | go_keep | (go_split_ands; exact ⟨grown_cell HG9.out (by assumption) (fun g hg => by have := HBK2.out g hg; omega), grown_cell HG9.out (by assumption) (fun g hg => by have := HBK2.out g hg; omega), grown_cell HG9.out (by assumption) (fun g hg => by have := HBK2.out g hg; omega), grown_cell HG9.out (by assumption) (fun g hg => by have := HBK2.out g hg; omega)⟩) | (go_split_ands; exact ⟨keep_below b9 (by assumption), keep_below b9 (by assumption), keep_below b9 (by assumption), keep_below b9 (by assumption)⟩))
                    (first | (go_at_call 21; (with_reducible refine (endP p n _ (by omega) (by omega)).mono ?_); rintro e w9 ⟨rfl, b9⟩; replace hacc := (by first | exact chain hacc b9 (Nat.le_refl _) | exact chain hacc (below_drew b9) (Nat.le_refl _)); replace HOV := Lib.hid (by first | exact HOV.out.below b9 | exact HOV.out.below (below_drew b9))) | (go_at_call 21; (with_reducible refine (endP xp xn _ (by omega) (by omega)).mono ?_); rintro e w9 ⟨rfl, b9⟩; replace hacc := (by first | exact chain hacc b9 (Nat.le_refl _) | exact chain hacc (below_drew b9) (Nat.le_refl _)); replace HOV := Lib.hid (by first | exact HOV.out.below b9 | exact HOV.out.below (below_drew b9))) | (refine step_push_sp (by rfl) _ _ (by rfl) w4.heap.size rv M w9.heap.size (p + n) (xp + xn - (p + n)) (by rfl) (by rfl) (HOV.out.below (below_new w9 _)) (cells_new w9 _ _) (by omega) HW2.out (by have := hacc.size; simp; omega) ?_; intro v9 w12 HV9 HG9 HD9; have hfin := (chain hacc (below_new w9 (.cells #[.int .i64 (p + n), .int .i64 (xp + xn - (p + n))] 24)) (Nat.le_refl _)).trans (below_own HG9.out (HOV.out.below (below_new w9 _)) (Nat.le_refl _) (by have := hacc.size; simp; omega))))
                  go_wp2_with fail
                  all_goals
                    go_roundw
                    case rel => exact ⟨k + 1, by omega, by go_num, by rw [HE.out]; exact HV9.out, hfin⟩
                    case measure => simp [intOf]; omega
                · have HE : Hid (cutM (L.take (k + 1)) s = M) := by show _ = _; rw [HNX.out, if_neg q1, if_neg q2]; simp
                  go_wp2_with fail
                  go_region_held3 (fun w' => w'.cell? ⟨w.heap.size, 0, none⟩ = some (.int .i64 p) ∧ w'.cell? ⟨w.heap.size, 1, none⟩ = some (.int .i64 n) ∧ w'.cell? ⟨wr.heap.size, 0, none⟩ = some (.int .i64 xp) ∧ w'.cell? ⟨wr.heap.size, 1, none⟩ = some (.int .i64 xn))
                    (first | go_keep | (go_split_ands; exact ⟨keep_below b9 (by assumption), keep_below b9 (by assumption), keep_below b9 (by assumption), keep_below b9 (by assumption)⟩))
                    (first | (go_at_call 21; (with_reducible refine (endP p n _ (by omega) (by omega)).mono ?_); rintro e w9 ⟨rfl, b9⟩; replace hacc := (by first | exact chain hacc b9 (Nat.le_refl _) | exact chain hacc (below_drew b9) (Nat.le_refl _)); replace HOV := Lib.hid (by first | exact HOV.out.below b9 | exact HOV.out.below (below_drew b9))) | (go_at_call 21; (with_reducible refine (endP xp xn _ (by omega) (by omega)).mono ?_); rintro e w9 ⟨rfl, b9⟩; replace hacc := (by first | exact chain hacc b9 (Nat.le_refl _) | exact chain hacc (below_drew b9) (Nat.le_refl _)); replace HOV := Lib.hid (by first | exact HOV.out.below b9 | exact HOV.out.below (below_drew b9))))
                  go_wp2_with fail
                  all_goals
                    go_roundw
                    case rel => exact ⟨k + 1, by omega, by go_num, by rw [HE.out]; exact HOV.out, hacc⟩
                    case measure => simp [intOf]; omega
            · obtain rfl : k = d := by omega
              have ht : L.take k = L := by rw [← HLl.out]; exact List.take_length
              rw [ht] at hov
              have hml : (cutM L s).length ≤ 2 * k := by have := HML.out k; rw [ht] at this; exact this
              have hbr := hB.size
              have hold := HO4.out.below hB
              have hnew := hov.base_le (base' := w.heap.size) (by omega)
              have hne9 : ∀ g, u.ownBlock = some g → rv.ownBlock ≠ some g := fun g hg h => by
                have h1 := low_block HO4.out g hg
                have h2 := (hov.row.lt g h).1
                omega
              have hrep := replaceP w.heap.size i (i + k) u rv l (cutM L s) _ hold hnew hne9 (by omega) (by omega) hjl (by omega) (by omega)
              rw [← HJ.out] at hrep
              have HR := Lib.hid hrep
              have b6 := chain b4' hB (Nat.le_refl _)
              clear ht hml hold hnew hne9 hrep HLl hov HML
              go_wp2_with fail
              refine HR.out.mono ?_; rintro e w7 ⟨x, rfl, hx, bx⟩
              have HX := Lib.hid hx; clear hx
              go_wp2_with fail
              go_ret
              exact ⟨x, rfl, by rw [HEQ.out]; exact HX.out.srow, b6.trans bx⟩
        · obtain rfl : d = 0 := by omega
          clear hA
          rcases A with _ | ad
          · have hc0 := k3 rfl
            subst hc0
            obtain rfl : i = 0 := by omega
            obtain rfl : J = 0 := by have := HJ.out; omega
            clear k3
            go_wp2_with fail
            go_loopw [8, 10, 38] (fun rv u10 c wl => ∃ k : Nat, k ≤ 0 ∧ c = .int .i64 k ∧ Own wl w4.heap.size rv (cutM (L.take k) s) ∧ Below w4.heap.size w4 wl) (fun _ _ c _ => 0)
            case atStart => exact ⟨0, by omega, rfl, ⟨World.ownsRow_nil _ _ _ _, fun s hs => by simp [cutM] at hs, by simp [cutM]⟩, Below.refl _ _⟩
            case round =>
              obtain ⟨k, hk, rfl, hov, hB⟩ := hrel
              obtain ⟨rv, rfl⟩ : ∃ x, x = u8 := ⟨_, rfl⟩
              obtain rfl : k = 0 := by omega
              have ht : L.take 0 = L := by rw [← HLl.out]; exact List.take_length
              rw [ht] at hov
              have hml : (cutM L s).length ≤ 2 * 0 := by have := HML.out 0; rw [ht] at this; exact this
              have hbr := hB.size
              have hold := HO4.out.below hB
              have hnew := hov.base_le (base' := w.heap.size) (by omega)
              have hne9 : ∀ g, u.ownBlock = some g → rv.ownBlock ≠ some g := fun g hg h => by
                have h1 := low_block HO4.out g hg
                have h2 := (hov.row.lt g h).1
                omega
              have hrep := replaceP w.heap.size 0 (0 + 0) u rv l (cutM L s) _ hold hnew hne9 (by omega) (by omega) hjl (by omega) (by omega)
              change Calls _ _ #[u, .int .i64 0, .int .i64 0, _] _ _ at hrep
              have HR := Lib.hid hrep
              have b6 := chain b4' hB (Nat.le_refl _)
              clear ht hml hold hnew hne9 hrep HLl hov HML
              go_wp2_with fail
              refine HR.out.mono ?_; rintro e w7 ⟨x, rfl, hx, bx⟩
              have HX := Lib.hid hx; clear hx
              go_wp2_with fail
              go_ret
              exact ⟨x, rfl, by rw [HEQ.out]; exact HX.out.srow, b6.trans bx⟩
          · clear k3
            by_cases x3 : cap = i
            · subst x3
              go_wp2_with fail
              go_loopw [8, 10, 38] (fun rv u10 c wl => ∃ k : Nat, k ≤ 0 ∧ c = .int .i64 k ∧ Own wl w4.heap.size rv (cutM (L.take k) s) ∧ Below w4.heap.size w4 wl) (fun _ _ c _ => 0)
              case atStart => exact ⟨0, by omega, rfl, ⟨World.ownsRow_nil _ _ _ _, fun s hs => by simp [cutM] at hs, by simp [cutM]⟩, Below.refl _ _⟩
              case round =>
                obtain ⟨k, hk, rfl, hov, hB⟩ := hrel
                obtain ⟨rv, rfl⟩ : ∃ x, x = u8 := ⟨_, rfl⟩
                obtain rfl : k = 0 := by omega
                have ht : L.take 0 = L := by rw [← HLl.out]; exact List.take_length
                rw [ht] at hov
                have hml : (cutM L s).length ≤ 2 * 0 := by have := HML.out 0; rw [ht] at this; exact this
                have hbr := hB.size
                have hold := HO4.out.below hB
                have hnew := hov.base_le (base' := w.heap.size) (by omega)
                have hne9 : ∀ g, u.ownBlock = some g → rv.ownBlock ≠ some g := fun g hg h => by
                  have h1 := low_block HO4.out g hg
                  have h2 := (hov.row.lt g h).1
                  omega
                have hrep := replaceP w.heap.size cap (cap + 0) u rv l (cutM L s) _ hold hnew hne9 (by omega) (by omega) hjl (by omega) (by omega)
                rw [← HJ.out] at hrep
                have HR := Lib.hid hrep
                have b6 := chain b4' hB (Nat.le_refl _)
                clear ht hml hold hnew hne9 hrep HLl hov HML
                go_wp2_with fail
                refine HR.out.mono ?_; rintro e w7 ⟨x, rfl, hx, bx⟩
                have HX := Lib.hid hx; clear hx
                go_wp2_with fail
                go_ret
                exact ⟨x, rfl, by rw [HEQ.out]; exact HX.out.srow, b6.trans bx⟩
            · skip
              go_wp2_with fail
              go_loopw [8, 10, 38] (fun rv u10 c wl => ∃ k : Nat, k ≤ 0 ∧ c = .int .i64 k ∧ Own wl w4.heap.size rv (cutM (L.take k) s) ∧ Below w4.heap.size w4 wl) (fun _ _ c _ => 0)
              case atStart => exact ⟨0, by omega, rfl, ⟨World.ownsRow_nil _ _ _ _, fun s hs => by simp [cutM] at hs, by simp [cutM]⟩, Below.refl _ _⟩
              case round =>
                obtain ⟨k, hk, rfl, hov, hB⟩ := hrel
                obtain ⟨rv, rfl⟩ : ∃ x, x = u8 := ⟨_, rfl⟩
                obtain rfl : k = 0 := by omega
                have ht : L.take 0 = L := by rw [← HLl.out]; exact List.take_length
                rw [ht] at hov
                have hml : (cutM L s).length ≤ 2 * 0 := by have := HML.out 0; rw [ht] at this; exact this
                have hbr := hB.size
                have hold := HO4.out.below hB
                have hnew := hov.base_le (base' := w.heap.size) (by omega)
                have hne9 : ∀ g, u.ownBlock = some g → rv.ownBlock ≠ some g := fun g hg h => by
                  have h1 := low_block HO4.out g hg
                  have h2 := (hov.row.lt g h).1
                  omega
                have hrep := replaceP w.heap.size i (i + 0) u rv l (cutM L s) _ hold hnew hne9 (by omega) (by omega) hjl (by omega) (by omega)
                rw [← HJ.out] at hrep
                have HR := Lib.hid hrep
                have b6 := chain b4' hB (Nat.le_refl _)
                clear ht hml hold hnew hne9 hrep HLl hov HML
                go_wp2_with fail
                refine HR.out.mono ?_; rintro e w7 ⟨x, rfl, hx, bx⟩
                have HX := Lib.hid hx; clear hx
                go_wp2_with fail
                go_ret
                exact ⟨x, rfl, by rw [HEQ.out]; exact HX.out.srow, b6.trans bx⟩
    · rw [show decide s.ok = false from decide_eq_false hok] at HV
      rw [cutL_bad (fun h => hok h.2)]
      unfold spv at *
      clear hok hri
      obtain ⟨p, hp⟩ : ∃ p, s.p = p := ⟨_, rfl⟩
      obtain ⟨n, hn⟩ : ∃ n, s.n = n := ⟨_, rfl⟩
      rw [hp, hn] at hb0 q1 q2 HV ⊢
      clear hp hn
      go_enter Try.func10, Try.ntmps10
      go_wp2_with fail
      refine (HCl.out _ (hr.keep hb0)).mono ?_; rintro e w1 ⟨u, rfl, ho, b1⟩
      have c1 := keep_below b1 q1
      have c2 := keep_below b1 q2
      have r1 := (hr.keep hb0).keep b1
      have ho1 := ho.base_le (base' := w.heap.size) (by simp)
      have b1' := chain hb0 b1 (Nat.le_refl _)
      have HO1 := Lib.hid ho1
      clear ho ho1 b1
      go_wp2_with fail
      refine (HRi.out _ r1).mono ?_; rintro e w2 ⟨rfl, b2⟩
      have d1 := keep_below b2 c1
      have d2 := keep_below b2 c2
      have r2 := r1.keep b2
      have HO2 := Lib.hid (HO1.out.below b2)
      have b2' := chain b1' b2 (Nat.le_refl _)
      clear c1 c2 r1 b2 b1' q1 q2 HO1
      go_wp2_with fail
      refine (HV.out _).mono ?_; rintro e w3 ⟨rfl, b3⟩
      have e1 := keep_below b3 d1
      have e2 := keep_below b3 d2
      have r3 := r2.keep b3
      have HO3 := Lib.hid (HO2.out.below b3)
      have b3' := chain b2' b3 (Nat.le_refl _)
      clear d1 d2 r2 b3 b2' HO2
      go_wp2_with fail
      go_ret
      exact ⟨_, rfl, HO3.out.srow, b3'⟩
  · rw [show decide (right l) = false from decide_eq_false hri] at HRi
    rw [cutL_bad (fun h => hri h.1)]
    unfold spv at *
    clear hri
    obtain ⟨p, hp⟩ : ∃ p, s.p = p := ⟨_, rfl⟩
    obtain ⟨n, hn⟩ : ∃ n, s.n = n := ⟨_, rfl⟩
    rw [hp, hn] at hb0 q1 q2 HV ⊢
    clear hp hn
    go_enter Try.func10, Try.ntmps10
    go_wp2_with fail
    refine (HCl.out _ (hr.keep hb0)).mono ?_; rintro e w1 ⟨u, rfl, ho, b1⟩
    have c1 := keep_below b1 q1
    have c2 := keep_below b1 q2
    have r1 := (hr.keep hb0).keep b1
    have ho1 := ho.base_le (base' := w.heap.size) (by simp)
    have b1' := chain hb0 b1 (Nat.le_refl _)
    have HO1 := Lib.hid ho1
    clear ho ho1 b1
    go_wp2_with fail
    refine (HRi.out _ r1).mono ?_; rintro e w2 ⟨rfl, b2⟩
    have d1 := keep_below b2 c1
    have d2 := keep_below b2 c2
    have r2 := r1.keep b2
    have HO2 := Lib.hid (HO1.out.below b2)
    have b2' := chain b1' b2 (Nat.le_refl _)
    clear c1 c2 r1 b2 b1' q1 q2 HO1
    go_wp2_with fail
    go_ret
    exact ⟨_, rfl, HO2.out.srow, b2'⟩
end Go.Proofs.Ytfeiapkifoakoaa
