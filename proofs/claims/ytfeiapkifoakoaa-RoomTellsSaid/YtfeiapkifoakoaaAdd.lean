/-
  The program's Add.
-/
import Derived.Test.YtfeiapkifoakoaaSpan
import Derived.Test.YtfeiapkifoakoaaTouch
import Derived.Test.YtfeiapkifoakoaaFn3
import Derived.Test.YtfeiapkifoakoaaRep5
import Derived.Lib.MinMax
namespace Go.Proofs.Ytfeiapkifoakoaa
set_option linter.unusedVariables false
set_option linter.unusedSimpArgs false
open Go.RowKit

theorem hf_ok : ∀ (L : List Sp) (s : Sp), (∀ x ∈ L, x.ok ∧ 0 < x.n) → s.ok → 0 < s.n → (hf L s).ok ∧ 0 < (hf L s).n
  | [], s, _, h1, h2 => ⟨h1, h2⟩
  | x :: L, s, h, h1, h2 => by
    have hx := h x (by simp)
    have hh := hull_ok hx.1 h1 h2
    rw [hf_cons]
    exact hf_ok L (hull x s) (fun y hy => h y (by simp [hy])) hh.1 hh.2
theorem mid_get {l : List Sp} {i j k : Nat} (hk : i + k < j) (hj : j ≤ l.length) : ((l.take j).drop i).take (k + 1) = ((l.take j).drop i).take k ++ [gt l (i + k)] := by
  have h1 : k < ((l.take j).drop i).length := by simp; omega
  rw [List.take_succ_eq_append_getElem h1, gt_get l (i + k) (by omega)]
  simp
theorem mid_len {l : List Sp} {i j : Nat} (hij : i ≤ j) (hj : j ≤ l.length) : ((l.take j).drop i).length = j - i := by simp; omega
theorem mid_sub {l : List Sp} {i j : Nat} : ∀ x ∈ (l.take j).drop i, x ∈ l := fun x hx => List.mem_of_mem_take (List.mem_of_mem_drop hx)

/-- The result reads as r. -/
def ReadsPost (r : List Sp) (w : World) (e : Ending) (w' : World) : Prop := ∃ u, e = .returned u ∧ SRow w' w'.heap.size u r ∧ Below w.heap.size w w'
theorem own_slice1 (w : World) (base : Nat) (p n : Int) (hb : base ≤ w.heap.size) (hw : Sp.wf ⟨p, n⟩) : Own (w.alloc (.cells #[.int .i64 p, .int .i64 n] 24)) base (.slice (some ⟨w.heap.size, 0, none⟩) 1 1) [⟨p, n⟩] :=
  Own.mkN (l := [⟨p, n⟩]) (cap := 1) (cur := [.int .i64 p, .int .i64 n]) rfl (fun s hs => by rw [List.mem_singleton.1 hs]; exact hw) (by omega) hb (heap_alloc_new w (.cells #[.int .i64 p, .int .i64 n] 24)) (by omega) (by decide) rfl rfl
theorem touch_le {l : List Sp} {s : Sp} {i j : Nat} (hr : right l) (h0 : 0 < s.n) (h1 : Cut Sp.e l s.p i) (h2 : Cut Sp.p l (s.e + 1) j) : i ≤ j := by
  rcases Nat.lt_or_ge j i with h | h
  · exfalso
    have a := h1.2.1 j h
    have b := h2.2.2 j (Nat.le_refl _) (Nat.lt_of_lt_of_le h h1.1)
    have c := (gt_ok hr j (Nat.lt_of_lt_of_le h h1.1)).2
    unfold Sp.e at *; omega
  · exact h
theorem low_block {w : World} {base : Nat} {v : Value} {l : List Sp} (h : Own w base v l) : ∀ g, v.ownBlock = some g → g < w.heap.size := fun g hg => (h.row.lt g hg).2

set_option maxRecDepth 100000 in
set_option maxHeartbeats 0 in
theorem addP (v : Value) (l : List Sp) (s : Sp) (w : World) (hlen : l.length ≤ 100) (hw : s.wf) (hr : SRow w w.heap.size v l) : Calls Try.prog 8 #[v, spv s] w (ReadsPost (addL l s) w) := by
  have HCl := Lib.hid (fun w' (h : SRow w' w'.heap.size v l) => cloneP v l w' h (by omega))
  have HRi := Lib.hid (fun w' (h : SRow w' w'.heap.size v l) => rightP v l w' h)
  have HV := Lib.hid (fun w => validP s w hw)
  have hb0 := below_new w (.cells #[.int .i64 s.p, .int .i64 s.n] 24)
  have q1 : (w.alloc (.cells #[.int .i64 s.p, .int .i64 s.n] 24)).cell? ⟨w.heap.size, 0, none⟩ = some (.int .i64 s.p) := (Blk.new w 24 _).cell 0
  have q2 : (w.alloc (.cells #[.int .i64 s.p, .int .i64 s.n] 24)).cell? ⟨w.heap.size, 1, none⟩ = some (.int .i64 s.n) := (Blk.new w 24 _).cell 1
  by_cases hri : right l
  · rw [show decide (right l) = true from decide_eq_true hri] at HRi
    by_cases hok : s.ok
    · rw [show decide s.ok = true from decide_eq_true hok] at HV
      by_cases h0 : s.n = 0
      · have hadd : addL l s = l := by unfold addL; rw [if_neg (fun h => by omega)]
        have h0' : (s.n == 0) = true := by simp [h0]
        rw [hadd]
        unfold spv at *
        clear h0 hok hadd hri
        obtain ⟨p, hp⟩ : ∃ p, s.p = p := ⟨_, rfl⟩
        obtain ⟨n, hn⟩ : ∃ n, s.n = n := ⟨_, rfl⟩
        rw [hp, hn] at hb0 q1 q2 HV ⊢
        rw [hn] at h0'
        clear hp hn
        go_enter Try.func8, Try.ntmps8
        go_wp2_with fail
        refine (HCl.out _ (hr.keep hb0)).mono ?_; rintro e w1 ⟨u, rfl, ho, b1⟩
        have c1 := keep_below b1 q1
        have c2 := keep_below b1 q2
        have r1 := (hr.keep hb0).keep b1
        have ho1 := ho.base_le (base' := w.heap.size) (by simp)
        have b1' := chain hb0 b1 (Nat.le_refl _)
        have HO1 := Lib.hid ho1
        clear ho ho1 b1
        go_wp2_with fail
        refine (HRi.out _ r1).mono ?_; rintro e w2 ⟨rfl, b2⟩
        have d1 := keep_below b2 c1
        have d2 := keep_below b2 c2
        have r2 := r1.keep b2
        have HO2 := Lib.hid (HO1.out.below b2)
        have b2' := chain b1' b2 (Nat.le_refl _)
        clear c1 c2 r1 b2 b1' q1 q2 HO1
        go_wp2_with fail
        refine (HV.out _).mono ?_; rintro e w3 ⟨rfl, b3⟩
        have e1 := keep_below b3 d1
        have e2 := keep_below b3 d2
        have r3 := r2.keep b3
        have HO3 := Lib.hid (HO2.out.below b3)
        have b3' := chain b2' b3 (Nat.le_refl _)
        clear d1 d2 r2 b3 b2' HO2
        go_wp2_with fail
        go_ret
        exact ⟨_, rfl, HO3.out.srow, b3'⟩
      · have h0' : (s.n == 0) = false := by simp [h0]
        have h0p : 0 < s.n := by unfold Sp.ok at hok; omega
        have HT := Lib.hid (fun w' (h : SRow w' w'.heap.size v l) => touchP v l s w' hri hok h)
        have HADD := Lib.hid (fun i j (h1 : Cut Sp.e l s.p i) (h2 : Cut Sp.p l (s.e + 1) j) => addS_eq l s i j hri (touch_le hri h0p h1 h2) h2.1 h1.2.1 h1.2.2 h2.2.1 h2.2.2)
        have HLE := Lib.hid (fun i j (h1 : Cut Sp.e l s.p i) (h2 : Cut Sp.p l (s.e + 1) j) => touch_le hri h0p h1 h2)
        have hadd : addL l s = addS l s := by unfold addL; rw [if_pos ⟨hri, hok, h0p⟩]
        rw [hadd]
        clear hadd
        have HHF := Lib.hid (fun i j => hf_ok ((l.take j).drop i) s (fun x hx => right_ok hri x (mid_sub x hx)) hok h0p)
        have HGO := Lib.hid (fun c hc => (gt_ok hri c hc).1)
        have hok1 := hok
        unfold Sp.ok at hok1
        unfold spv at *
        have HSE : Hid (s.p + s.n = s.e) := rfl
        obtain ⟨p, hp⟩ : ∃ p, s.p = p := ⟨_, rfl⟩
        obtain ⟨n, hn⟩ : ∃ n, s.n = n := ⟨_, rfl⟩
        rw [hp, hn] at hb0 q1 q2 HV hok1 HSE HT ⊢
        rw [hn] at h0'
        have HP := Lib.hid hp
        clear hp hn h0 hri hok h0p hw
        obtain ⟨z1, z2, z3, z4⟩ := hok1
        go_enter Try.func8, Try.ntmps8
        go_wp2_with fail
        refine (HCl.out _ (hr.keep hb0)).mono ?_; rintro e w1 ⟨u, rfl, ho, b1⟩
        have c1 := keep_below b1 q1
        have c2 := keep_below b1 q2
        have r1 := (hr.keep hb0).keep b1
        have ho1 := ho.base_le (base' := w.heap.size) (by simp)
        have b1' := chain hb0 b1 (Nat.le_refl _)
        have HO1 := Lib.hid ho1
        clear ho ho1 b1
        go_wp2_with fail
        refine (HRi.out _ r1).mono ?_; rintro e w2 ⟨rfl, b2⟩
        have d1 := keep_below b2 c1
        have d2 := keep_below b2 c2
        have r2 := r1.keep b2
        have HO2 := Lib.hid (HO1.out.below b2)
        have b2' := chain b1' b2 (Nat.le_refl _)
        clear c1 c2 r1 b2 b1' q1 q2 HO1
        go_wp2_with fail
        refine (HV.out _).mono ?_; rintro e w3 ⟨rfl, b3⟩
        have e1 := keep_below b3 d1
        have e2 := keep_below b3 d2
        have r3 := r2.keep b3
        have HO3 := Lib.hid (HO2.out.below b3)
        have b3' := chain b2' b3 (Nat.le_refl _)
        clear d1 d2 r2 b3 b2' HO2
        go_wp2_with fail
        refine (HT.out _ r3).mono ?_; rintro e w4 ⟨i, j, J, rfl, hJ, hi, hj, b4⟩
        have HJ := Lib.hid hJ
        clear hJ
        have f1 := keep_below b4 e1
        have f2 := keep_below b4 e2
        have r4 := r3.keep b4
        have HO4 := Lib.hid (HO3.out.below b4)
        have b4' := chain b3' b4 (Nat.le_refl _)
        have hij := HLE.out i j hi hj
        have hjl := hj.1
        have HEQ := Lib.hid (HADD.out i j hi hj)
        clear e1 e2 r3 b4 b3' HO3 hi hj
        go_wp2_with fail
        go_region_held3 (fun w' => w'.cell? ⟨w.heap.size, 0, none⟩ = some (.int .i64 p) ∧ w'.cell? ⟨w.heap.size, 1, none⟩ = some (.int .i64 n))
          (first | go_keep | (go_split_ands; exact ⟨keep_below ba (by assumption), keep_below ba (by assumption)⟩))
          (first
            | (go_at_call 21; refine (endP p n _ (by omega) (by omega)).mono ?_; rintro e wa ⟨rfl, ba⟩))
        replace ba := below_drew ba
        have r5 := r4.keep ba
        have HO5 := Lib.hid (HO4.out.below ba)
        have b5 := chain b4' ba (Nat.le_refl _)
        clear r4 HO4 b4' ba f1 f2
        rename_i hHeld
        obtain ⟨⟨hwf, hcp⟩, hlm, A, cap, rfl, hA⟩ := r5
        obtain ⟨k1, k2, k3⟩ := hcp _ _ _ rfl
        have k2' : cap ≤ 9223372036854775807 := by unfold maxLen at k2; omega
        clear hcp hlm hr HCl HRi HV HT hb0 hwf k2
        obtain ⟨d, rfl⟩ : ∃ d, j = i + d := ⟨j - i, by omega⟩
        have HID : Hid (i ≤ i + d) := hij
        clear hij
        obtain ⟨L, hL⟩ : ∃ L, (l.take (i + d)).drop i = L := ⟨_, rfl⟩
        have hLl : L.length = d := by rw [← hL, mid_len (by omega) hjl]; omega
        have HLT := Lib.hid (fun k (hk : k < d) => (by rw [← hL]; exact mid_get (by omega) hjl : L.take (k + 1) = L.take k ++ [gt l (i + k)]))
        have HHL := Lib.hid (HHF.out i (i + d))
        have HHK := Lib.hid (fun k => hf_ok (L.take k) s)
        rw [hL] at HEQ HHL
        have HLl := Lib.hid hLl
        clear hL hLl HADD HHF HLE
        have hJ := HJ.out
        have x1 : (i : Int) ≤ J := by omega
        have x2 : J ≤ (cap : Int) := by omega
        have x4 : J.toNat = i + d := by omega
        have x5 : 0 ≤ J := by omega
        clear hJ
        have hbs := b5.size
        by_cases hd : 0 < d
        · obtain ⟨b, off, rfl, hbb, hcl⟩ := hA (by omega)
          have HCLL := Lib.hid hcl
          clear hA hcl k3
          have x3 : ¬ (cap = i) := by omega
          clear hHeld
          go_wp2_with fail
          go_loopw [8, 9, 11, 43] (fun lo hi u11 c wl => ∃ k : Nat, k ≤ d ∧ c = .int .i64 k ∧ lo = .int .i64 (hf (L.take k) s).p ∧ hi = .int .i64 (hf (L.take k) s).e ∧ Below wa.heap.size wa wl) (fun _ _ _ c _ => d - (intOf c).toNat)
          case atStart => exact ⟨0, by omega, rfl, by rw [List.take_zero, hf_nil, HP.out], by rw [List.take_zero, hf_nil, ← HSE.out], Below.refl _ _⟩
          case round =>
            obtain ⟨k, hk, rfl, rfl, rfl, hB⟩ := hrel
            by_cases hlt : k < d
            · have hx := HGO.out (i + k) (by omega)
              have hcc := HCLL.out (i + k) (by omega)
              rw [show off + (i + k) * 2 = off + i * 2 + k * 2 by omega] at hcc
              have c1 := (hB.cell (p := ⟨b, off + i * 2 + k * 2, none⟩) hbb).trans hcc.1
              have c2 := (hB.cell (p := ⟨b, off + i * 2 + k * 2 + 1, none⟩) hbb).trans hcc.2
              clear hcc
              have hnx := HLT.out k hlt
              have hnp : (hf (L.take (k + 1)) s).p = min (gt l (i + k)).p (hf (L.take k) s).p := by rw [hnx, hf_snoc]; rfl
              have hne : (hf (L.take (k + 1)) s).e = max ((gt l (i + k)).p + (gt l (i + k)).n) (hf (L.take k) s).e := by rw [hnx, hf_snoc, hull_e]; rfl
              obtain ⟨xp, hxp⟩ : ∃ x, (gt l (i + k)).p = x := ⟨_, rfl⟩
              obtain ⟨xn, hxn⟩ : ∃ x, (gt l (i + k)).n = x := ⟨_, rfl⟩
              obtain ⟨lo, hlo⟩ : ∃ x, (hf (L.take k) s).p = x := ⟨_, rfl⟩
              obtain ⟨hi, hhi⟩ : ∃ x, (hf (L.take k) s).e = x := ⟨_, rfl⟩
              unfold Sp.ok at hx
              rw [hxp] at c1
              rw [hxn] at c2
              rw [hxp, hlo] at hnp
              rw [hxp, hxn, hhi] at hne
              rw [hxp, hxn] at hx
              rw [hlo, hhi]
              obtain ⟨v1, v2, v3, v4⟩ := hx
              have HNP := Lib.hid hnp; have HNE := Lib.hid hne
              clear hxp hxn hlo hhi hnp hne hnx
              have e0 := below_new wr (.cells #[.int .i64 xp, .int .i64 xn] 24)
              have t1 : (wr.alloc (.cells #[.int .i64 xp, .int .i64 xn] 24)).cell? ⟨wr.heap.size, 0, none⟩ = some (.int .i64 xp) := (Blk.new wr 24 _).cell 0
              have t2 : (wr.alloc (.cells #[.int .i64 xp, .int .i64 xn] 24)).cell? ⟨wr.heap.size, 1, none⟩ = some (.int .i64 xn) := (Blk.new wr 24 _).cell 1
              have y1 : (k : Int) < d := by omega
              have hB1 := chain hB e0 (Nat.le_refl _)
              go_wp2_with fail
              go_region_held3 (fun w' => w'.cell? ⟨wr.heap.size, 0, none⟩ = some (.int .i64 xp) ∧ w'.cell? ⟨wr.heap.size, 1, none⟩ = some (.int .i64 xn))
                (first | go_keep | (go_split_ands; exact ⟨keep_below ba (by assumption), keep_below ba (by assumption)⟩))
                (first
                  | (go_at_call 21; refine (endP xp xn _ (by omega) (by omega)).mono ?_; rintro e wb ⟨rfl, ba⟩))
              go_wp2_with fail
              all_goals
                go_roundw
                case rel => exact ⟨k + 1, by omega, by go_num, by rw [HNP.out]; congr 1; omega, by rw [HNE.out]; congr 1; omega, chain hB1 (below_drew ba) (Nat.le_refl _)⟩
                case measure => simp [intOf]; omega
            · obtain rfl : k = d := by omega
              have ht : L.take k = L := by rw [← HLl.out]; exact List.take_length
              rw [ht]
              have hH : hf L s = ⟨(hf L s).p, (hf L s).e - (hf L s).p⟩ := by
                rcases hf L s with ⟨a, b⟩
                unfold Sp.e
                simp only [Sp.mk.injEq, true_and]
                omega
              have hok2 := HHL.out.1
              unfold Sp.ok at hok2
              have hee : (hf L s).e = (hf L s).p + (hf L s).n := rfl
              obtain ⟨P, hP⟩ : ∃ x, (hf L s).p = x := ⟨_, rfl⟩
              obtain ⟨E, hE⟩ : ∃ x, (hf L s).e = x := ⟨_, rfl⟩
              obtain ⟨N, hN⟩ : ∃ x, (hf L s).n = x := ⟨_, rfl⟩
              rw [hP, hE] at hH
              rw [hP, hN] at hok2
              rw [hP, hE, hN] at hee
              rw [hP, hE]
              obtain ⟨o1, o2, o3, o4⟩ := hok2
              have hw9 : Sp.wf ⟨P, E - P⟩ := by unfold Sp.wf; simp only; omega
              have hbr := hB.size
              have hnew := own_slice1 wr w.heap.size P (E - P) (by omega) hw9
              have hold0 := HO5.out.below hB
              have hold := hold0.below (below_new wr (.cells #[.int .i64 P, .int .i64 (E - P)] 24))
              have hne9 : ∀ g, u.ownBlock = some g → (Value.slice (some ⟨wr.heap.size, 0, none⟩) 1 1).ownBlock ≠ some g := fun g hg => by
                have := low_block hold0 g hg
                simp [Value.ownBlock]; omega
              have hrep := replaceP w.heap.size i (i + k) u _ l [⟨P, E - P⟩] _ hold hnew hne9 (by simp; omega) (by omega) hjl (by omega) (by simp)
              rw [← HJ.out] at hrep
              have HR := Lib.hid hrep
              have HQ : Hid (addS l s = l.take i ++ [⟨P, E - P⟩] ++ l.drop (i + k)) := by show _ = _; rw [HEQ.out, hH]
              have b6 := chain (chain b5 hB (Nat.le_refl _)) (below_new wr (.cells #[.int .i64 P, .int .i64 (E - P)] 24)) (Nat.le_refl _)
              have w9 : IntKind.i64.wrap (E - P) = E - P := IntWalk.i64_in _ (by omega)
              clear ht hH hee hP hE hN hw9 hnew hold0 hold hne9 hrep HLl
              go_wp2_with fail
              refine HR.out.mono ?_; rintro e w7 ⟨x, rfl, hx, bx⟩
              have HX := Lib.hid hx; clear hx
              go_wp2_with fail
              go_ret
              exact ⟨x, rfl, by rw [HQ.out]; exact HX.out.srow, b6.trans bx⟩
        · obtain rfl : d = 0 := by omega
          clear hA
          rcases A with _ | ad
          · have hc0 := k3 rfl
            subst hc0
            obtain rfl : i = 0 := by omega
            obtain rfl : J = 0 := by have := HJ.out; omega
            clear k3
            go_wp2_with fail
            go_loopw [8, 9, 11, 43] (fun lo hi u11 c wl => ∃ k : Nat, k ≤ 0 ∧ c = .int .i64 k ∧ lo = .int .i64 (hf (L.take k) s).p ∧ hi = .int .i64 (hf (L.take k) s).e ∧ Below wa.heap.size wa wl) (fun _ _ _ c _ => 0)
            case atStart => exact ⟨0, by omega, rfl, by rw [List.take_zero, hf_nil, HP.out], by rw [List.take_zero, hf_nil, ← HSE.out], Below.refl _ _⟩
            case round =>
              obtain ⟨k, hk, rfl, rfl, rfl, hB⟩ := hrel
              obtain rfl : k = 0 := by omega
              have ht : L.take 0 = L := by rw [← HLl.out]; exact List.take_length
              rw [ht]
              have hH : hf L s = ⟨(hf L s).p, (hf L s).e - (hf L s).p⟩ := by
                rcases hf L s with ⟨a, b⟩
                unfold Sp.e
                simp only [Sp.mk.injEq, true_and]
                omega
              have hok2 := HHL.out.1
              unfold Sp.ok at hok2
              have hee : (hf L s).e = (hf L s).p + (hf L s).n := rfl
              obtain ⟨P, hP⟩ : ∃ x, (hf L s).p = x := ⟨_, rfl⟩
              obtain ⟨E, hE⟩ : ∃ x, (hf L s).e = x := ⟨_, rfl⟩
              obtain ⟨N, hN⟩ : ∃ x, (hf L s).n = x := ⟨_, rfl⟩
              rw [hP, hE] at hH
              rw [hP, hN] at hok2
              rw [hP, hE, hN] at hee
              rw [hP, hE]
              obtain ⟨o1, o2, o3, o4⟩ := hok2
              have hw9 : Sp.wf ⟨P, E - P⟩ := by unfold Sp.wf; simp only; omega
              have hbr := hB.size
              have hnew := own_slice1 wr w.heap.size P (E - P) (by omega) hw9
              have hold0 := HO5.out.below hB
              have hold := hold0.below (below_new wr (.cells #[.int .i64 P, .int .i64 (E - P)] 24))
              have hne9 : ∀ g, u.ownBlock = some g → (Value.slice (some ⟨wr.heap.size, 0, none⟩) 1 1).ownBlock ≠ some g := fun g hg => by
                have := low_block hold0 g hg
                simp [Value.ownBlock]; omega
              have hrep := replaceP w.heap.size 0 (0 + 0) u _ l [⟨P, E - P⟩] _ hold hnew hne9 (by simp; omega) (by omega) hjl (by omega) (by simp)
              change Calls _ _ #[u, .int .i64 0, .int .i64 0, _] _ _ at hrep
              have HR := Lib.hid hrep
              have HQ : Hid (addS l s = l.take 0 ++ [⟨P, E - P⟩] ++ l.drop (0 + 0)) := by show _ = _; rw [HEQ.out, hH]
              have b6 := chain (chain b5 hB (Nat.le_refl _)) (below_new wr (.cells #[.int .i64 P, .int .i64 (E - P)] 24)) (Nat.le_refl _)
              have w9 : IntKind.i64.wrap (E - P) = E - P := IntWalk.i64_in _ (by omega)
              clear ht hH hee hP hE hN hw9 hnew hold0 hold hne9 hrep HLl
              go_wp2_with fail
              refine HR.out.mono ?_; rintro e w7 ⟨x, rfl, hx, bx⟩
              have HX := Lib.hid hx; clear hx
              go_wp2_with fail
              go_ret
              exact ⟨x, rfl, by rw [HQ.out]; exact HX.out.srow, b6.trans bx⟩
          · clear k3
            by_cases x3 : cap = i
            · subst x3
              go_wp2_with fail
              go_loopw [8, 9, 11, 43] (fun lo hi u11 c wl => ∃ k : Nat, k ≤ 0 ∧ c = .int .i64 k ∧ lo = .int .i64 (hf (L.take k) s).p ∧ hi = .int .i64 (hf (L.take k) s).e ∧ Below wa.heap.size wa wl) (fun _ _ _ c _ => 0)
              case atStart => exact ⟨0, by omega, rfl, by rw [List.take_zero, hf_nil, HP.out], by rw [List.take_zero, hf_nil, ← HSE.out], Below.refl _ _⟩
              case round =>
                obtain ⟨k, hk, rfl, rfl, rfl, hB⟩ := hrel
                obtain rfl : k = 0 := by omega
                have ht : L.take 0 = L := by rw [← HLl.out]; exact List.take_length
                rw [ht]
                have hH : hf L s = ⟨(hf L s).p, (hf L s).e - (hf L s).p⟩ := by
                  rcases hf L s with ⟨a, b⟩
                  unfold Sp.e
                  simp only [Sp.mk.injEq, true_and]
                  omega
                have hok2 := HHL.out.1
                unfold Sp.ok at hok2
                have hee : (hf L s).e = (hf L s).p + (hf L s).n := rfl
                obtain ⟨P, hP⟩ : ∃ x, (hf L s).p = x := ⟨_, rfl⟩
                obtain ⟨E, hE⟩ : ∃ x, (hf L s).e = x := ⟨_, rfl⟩
                obtain ⟨N, hN⟩ : ∃ x, (hf L s).n = x := ⟨_, rfl⟩
                rw [hP, hE] at hH
                rw [hP, hN] at hok2
                rw [hP, hE, hN] at hee
                rw [hP, hE]
                obtain ⟨o1, o2, o3, o4⟩ := hok2
                have hw9 : Sp.wf ⟨P, E - P⟩ := by unfold Sp.wf; simp only; omega
                have hbr := hB.size
                have hnew := own_slice1 wr w.heap.size P (E - P) (by omega) hw9
                have hold0 := HO5.out.below hB
                have hold := hold0.below (below_new wr (.cells #[.int .i64 P, .int .i64 (E - P)] 24))
                have hne9 : ∀ g, u.ownBlock = some g → (Value.slice (some ⟨wr.heap.size, 0, none⟩) 1 1).ownBlock ≠ some g := fun g hg => by
                  have := low_block hold0 g hg
                  simp [Value.ownBlock]; omega
                have hrep := replaceP w.heap.size cap (cap + 0) u _ l [⟨P, E - P⟩] _ hold hnew hne9 (by simp; omega) (by omega) hjl (by omega) (by simp)
                rw [← HJ.out] at hrep
                have HR := Lib.hid hrep
                have HQ : Hid (addS l s = l.take cap ++ [⟨P, E - P⟩] ++ l.drop (cap + 0)) := by show _ = _; rw [HEQ.out, hH]
                have b6 := chain (chain b5 hB (Nat.le_refl _)) (below_new wr (.cells #[.int .i64 P, .int .i64 (E - P)] 24)) (Nat.le_refl _)
                have w9 : IntKind.i64.wrap (E - P) = E - P := IntWalk.i64_in _ (by omega)
                clear ht hH hee hP hE hN hw9 hnew hold0 hold hne9 hrep HLl
                go_wp2_with fail
                refine HR.out.mono ?_; rintro e w7 ⟨x, rfl, hx, bx⟩
                have HX := Lib.hid hx; clear hx
                go_wp2_with fail
                go_ret
                exact ⟨x, rfl, by rw [HQ.out]; exact HX.out.srow, b6.trans bx⟩
            · skip
              go_wp2_with fail
              go_loopw [8, 9, 11, 43] (fun lo hi u11 c wl => ∃ k : Nat, k ≤ 0 ∧ c = .int .i64 k ∧ lo = .int .i64 (hf (L.take k) s).p ∧ hi = .int .i64 (hf (L.take k) s).e ∧ Below wa.heap.size wa wl) (fun _ _ _ c _ => 0)
              case atStart => exact ⟨0, by omega, rfl, by rw [List.take_zero, hf_nil, HP.out], by rw [List.take_zero, hf_nil, ← HSE.out], Below.refl _ _⟩
              case round =>
                obtain ⟨k, hk, rfl, rfl, rfl, hB⟩ := hrel
                obtain rfl : k = 0 := by omega
                have ht : L.take 0 = L := by rw [← HLl.out]; exact List.take_length
                rw [ht]
                have hH : hf L s = ⟨(hf L s).p, (hf L s).e - (hf L s).p⟩ := by
                  rcases hf L s with ⟨a, b⟩
                  unfold Sp.e
                  simp only [Sp.mk.injEq, true_and]
                  omega
                have hok2 := HHL.out.1
                unfold Sp.ok at hok2
                have hee : (hf L s).e = (hf L s).p + (hf L s).n := rfl
                obtain ⟨P, hP⟩ : ∃ x, (hf L s).p = x := ⟨_, rfl⟩
                obtain ⟨E, hE⟩ : ∃ x, (hf L s).e = x := ⟨_, rfl⟩
                obtain ⟨N, hN⟩ : ∃ x, (hf L s).n = x := ⟨_, rfl⟩
                rw [hP, hE] at hH
                rw [hP, hN] at hok2
                rw [hP, hE, hN] at hee
                rw [hP, hE]
                obtain ⟨o1, o2, o3, o4⟩ := hok2
                have hw9 : Sp.wf ⟨P, E - P⟩ := by unfold Sp.wf; simp only; omega
                have hbr := hB.size
                have hnew := own_slice1 wr w.heap.size P (E - P) (by omega) hw9
                have hold0 := HO5.out.below hB
                have hold := hold0.below (below_new wr (.cells #[.int .i64 P, .int .i64 (E - P)] 24))
                have hne9 : ∀ g, u.ownBlock = some g → (Value.slice (some ⟨wr.heap.size, 0, none⟩) 1 1).ownBlock ≠ some g := fun g hg => by
                  have := low_block hold0 g hg
                  simp [Value.ownBlock]; omega
                have hrep := replaceP w.heap.size i (i + 0) u _ l [⟨P, E - P⟩] _ hold hnew hne9 (by simp; omega) (by omega) hjl (by omega) (by simp)
                rw [← HJ.out] at hrep
                have HR := Lib.hid hrep
                have HQ : Hid (addS l s = l.take i ++ [⟨P, E - P⟩] ++ l.drop (i + 0)) := by show _ = _; rw [HEQ.out, hH]
                have b6 := chain (chain b5 hB (Nat.le_refl _)) (below_new wr (.cells #[.int .i64 P, .int .i64 (E - P)] 24)) (Nat.le_refl _)
                have w9 : IntKind.i64.wrap (E - P) = E - P := IntWalk.i64_in _ (by omega)
                clear ht hH hee hP hE hN hw9 hnew hold0 hold hne9 hrep HLl
                go_wp2_with fail
                refine HR.out.mono ?_; rintro e w7 ⟨x, rfl, hx, bx⟩
                have HX := Lib.hid hx; clear hx
                go_wp2_with fail
                go_ret
                exact ⟨x, rfl, by rw [HQ.out]; exact HX.out.srow, b6.trans bx⟩
    · rw [show decide s.ok = false from decide_eq_false hok] at HV
      rw [addL_bad (fun h => hok h.2)]
      unfold spv at *
      clear hok hri
      obtain ⟨p, hp⟩ : ∃ p, s.p = p := ⟨_, rfl⟩
      obtain ⟨n, hn⟩ : ∃ n, s.n = n := ⟨_, rfl⟩
      rw [hp, hn] at hb0 q1 q2 HV ⊢
      clear hp hn
      go_enter Try.func8, Try.ntmps8
      go_wp2_with fail
      refine (HCl.out _ (hr.keep hb0)).mono ?_; rintro e w1 ⟨u, rfl, ho, b1⟩
      have c1 := keep_below b1 q1
      have c2 := keep_below b1 q2
      have r1 := (hr.keep hb0).keep b1
      have ho1 := ho.base_le (base' := w.heap.size) (by simp)
      have b1' := chain hb0 b1 (Nat.le_refl _)
      have HO1 := Lib.hid ho1
      clear ho ho1 b1
      go_wp2_with fail
      refine (HRi.out _ r1).mono ?_; rintro e w2 ⟨rfl, b2⟩
      have d1 := keep_below b2 c1
      have d2 := keep_below b2 c2
      have r2 := r1.keep b2
      have HO2 := Lib.hid (HO1.out.below b2)
      have b2' := chain b1' b2 (Nat.le_refl _)
      clear c1 c2 r1 b2 b1' q1 q2 HO1
      go_wp2_with fail
      refine (HV.out _).mono ?_; rintro e w3 ⟨rfl, b3⟩
      have e1 := keep_below b3 d1
      have e2 := keep_below b3 d2
      have r3 := r2.keep b3
      have HO3 := Lib.hid (HO2.out.below b3)
      have b3' := chain b2' b3 (Nat.le_refl _)
      clear d1 d2 r2 b3 b2' HO2
      go_wp2_with fail
      go_ret
      exact ⟨_, rfl, HO3.out.srow, b3'⟩
  · rw [show decide (right l) = false from decide_eq_false hri] at HRi
    rw [addL_bad (fun h => hri h.1)]
    unfold spv at *
    clear hri
    obtain ⟨p, hp⟩ : ∃ p, s.p = p := ⟨_, rfl⟩
    obtain ⟨n, hn⟩ : ∃ n, s.n = n := ⟨_, rfl⟩
    rw [hp, hn] at hb0 q1 q2 HV ⊢
    clear hp hn
    go_enter Try.func8, Try.ntmps8
    go_wp2_with fail
    refine (HCl.out _ (hr.keep hb0)).mono ?_; rintro e w1 ⟨u, rfl, ho, b1⟩
    have c1 := keep_below b1 q1
    have c2 := keep_below b1 q2
    have r1 := (hr.keep hb0).keep b1
    have ho1 := ho.base_le (base' := w.heap.size) (by simp)
    have b1' := chain hb0 b1 (Nat.le_refl _)
    have HO1 := Lib.hid ho1
    clear ho ho1 b1
    go_wp2_with fail
    refine (HRi.out _ r1).mono ?_; rintro e w2 ⟨rfl, b2⟩
    have d1 := keep_below b2 c1
    have d2 := keep_below b2 c2
    have r2 := r1.keep b2
    have HO2 := Lib.hid (HO1.out.below b2)
    have b2' := chain b1' b2 (Nat.le_refl _)
    clear c1 c2 r1 b2 b1' q1 q2 HO1
    go_wp2_with fail
    go_ret
    exact ⟨_, rfl, HO2.out.srow, b2'⟩
end Go.Proofs.Ytfeiapkifoakoaa
