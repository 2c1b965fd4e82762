/-
  The program's Fit.
-/
import Derived.Test.YtfeiapkifoakoaaFn6
namespace Go.Proofs.Ytfeiapkifoakoaa
set_option linter.unusedVariables false
set_option linter.unusedSimpArgs false
open Go.RowKit

set_option maxRecDepth 100000 in
set_option maxHeartbeats 0 in
theorem fitP (v : Value) (l : List Sp) (size d from_ until_ : Int) (w : World) (hr : SRow w w.heap.size v l) (wf : Sp.wf ⟨size, d⟩) (wf2 : Sp.wf ⟨from_, until_⟩) :
    Calls Try.prog 5 #[v, .int .i64 size, .int .i64 d, .int .i64 from_, .int .i64 until_] w fun e w' => e = .returned (fitRes (fitL l size d from_ until_)) ∧ Below w.heap.size w w' := by
  have HRi := Lib.hid (rightP v l w hr)
  unfold Sp.wf at wf wf2
  simp only at wf wf2
  obtain ⟨y1, y2, y3, y4⟩ := wf
  obtain ⟨y5, y6, y7, y8⟩ := wf2
  obtain ⟨-, hlen, A, cap, rfl, hA⟩ := hr
  by_cases hri : right l
  · rw [show decide (right l) = true from decide_eq_true hri] at HRi
    by_cases hc : 1 ≤ size ∧ size ≤ 1099511627776 ∧ 1 ≤ d ∧ d ≤ 1099511627776
    · obtain ⟨h1, h2, h3, h4⟩ := hc
      have hf := fit_cap (from_ := from_) (until_ := until_) hri h1 h2 h3 h4
      rw [hf]
      clear hf
      obtain ⟨f, hfm⟩ : ∃ f, min from_ 1099511627776 = f := ⟨_, rfl⟩
      rw [hfm]
      have f1 : f ≤ 1099511627776 := by omega
      have f2 : -9223372036854775808 ≤ f := by omega
      have HRR := Lib.hid hri; clear hri
      have hHead : ∀ Q : Prop, (from_ ≤ 1099511627776 → f = from_ → Q) → (1099511627776 < from_ → f = 1099511627776 → Q) → Q := fun Q a b => by
        by_cases hle : from_ ≤ 1099511627776
        · exact a hle (by omega)
        · exact b (by omega) (by omega)
      clear hfm
      have g1 : decide (size < 1) = false := by simp; omega
      have g2 : decide ((1099511627776 : Int) < size) = false := by simp; omega
      have g3 : decide (d < 1) = false := by simp; omega
      have g4 : decide ((1099511627776 : Int) < d) = false := by simp; omega
      refine hHead _ (fun hle hfe => ?_) (fun hle hfe => ?_)
      · clear hHead
        subst hfe
        go_enter Try.func5, Try.ntmps5
        go_wp2_with fail
        refine HRi.out.mono ?_; rintro e w1 ⟨rfl, b1⟩
        go_wp2_with fail
        go_loopw [13, 14, 38] (fun u v i wl => ∃ k : Nat, k ≤ l.length ∧ i = .int .i64 k ∧ fitS l size d f until_ = fitS (l.drop k) size d f until_ ∧ Below w.heap.size w wl) (fun _ _ i _ => l.length - (intOf i).toNat)
        case atStart => exact ⟨0, by omega, rfl, rfl, b1⟩
        case round =>
          obtain ⟨k, hk, rfl, hfs, hB⟩ := hrel
          have HFS := Lib.hid hfs; clear hfs
          by_cases hlt : k < l.length
          · obtain ⟨b, off, rfl, hb, hcl⟩ := hA (by omega)
            have d1 := (hB.cell (p := ⟨b, off + k * 2, none⟩) hb).trans (hcl k hlt).1
            have d2 := (hB.cell (p := ⟨b, off + k * 2 + 1, none⟩) hb).trans (hcl k hlt).2
            have hx := (HRR.out k hlt).1
            have hst := fitS_drop l size d f until_ k hlt
            have he : (gt l k).e = (gt l k).p + (gt l k).n := rfl
            rw [he] at hst
            unfold Sp.ok at hx
            obtain ⟨p, hp⟩ : ∃ p, (gt l k).p = p := ⟨_, rfl⟩
            obtain ⟨n, hn⟩ : ∃ n, (gt l k).n = n := ⟨_, rfl⟩
            rw [hp] at d1
            rw [hn] at d2
            rw [hp, hn] at hx hst
            clear hp hn he hA hcl
            obtain ⟨z1, z2, z3, z4⟩ := hx
            obtain ⟨r1, r2, r3, _⟩ := roundUp_spec (a := max p f) h3
            have q0 : (0 : Int) ≤ k := by omega
            have q1 : (k : Int) < l.length := by omega
            have e0 := below_new wr (.cells #[.int .i64 p, .int .i64 n] 24)
            have c1 : (wr.alloc (.cells #[.int .i64 p, .int .i64 n] 24)).cell? ⟨wr.heap.size, 0, none⟩ = some (.int .i64 p) := (Blk.new wr 24 _).cell 0
            have c2 : (wr.alloc (.cells #[.int .i64 p, .int .i64 n] 24)).cell? ⟨wr.heap.size, 1, none⟩ = some (.int .i64 n) := (Blk.new wr 24 _).cell 1
            have hB1 := chain hB e0 (Nat.le_refl _)
            by_cases hmx : p ≤ f
            · have hm : max p f = f := by omega
              rw [hm] at hst r1 r2 r3
              have HU := Lib.hid (fun w => upP f d w (by omega) (by omega) h3 h4)
              clear hm
              obtain ⟨a, ha⟩ : ∃ a, roundUp f d = a := ⟨_, rfl⟩
              rw [ha] at hst r1 r2 r3 HU
              have HST := Lib.hid hst; clear hst ha
              by_cases hu : until_ ≤ p + n
              all_goals
                by_cases hfit : a + size ≤ p + n ∧ a + size ≤ until_
                · have HR : Hid (fitS l size d f until_ = some a) := by show _ = _; rw [HFS.out, HST.out, if_pos hfit]
                  obtain ⟨k1, k2⟩ := hfit
                  go_wp2_with fail
                  refine (HU.out _).mono ?_; rintro e w2 ⟨rfl, rfl⟩
                  go_wp2_with fail
                  refine (endP p n _ (by omega) (by omega)).mono ?_; rintro e w3 ⟨rfl, b3⟩
                  go_wp2_with fail
                  go_ret2
                  exact ⟨by rw [HR.out]; rfl, chain hB1 b3 (Nat.le_refl _)⟩
                · have HR : Hid (fitS l size d f until_ = fitS (l.drop (k + 1)) size d f until_) := by show _ = _; rw [HFS.out, HST.out, if_neg hfit]
                  first
                    | (have k1 : ¬ a + size ≤ until_ := fun h => hfit ⟨by omega, h⟩
                       clear hfit
                       go_wp2_with fail
                       refine (HU.out _).mono ?_; rintro e w2 ⟨rfl, rfl⟩
                       go_wp2_with fail
                       refine (endP p n _ (by omega) (by omega)).mono ?_; rintro e w3 ⟨rfl, b3⟩
                       go_wp2_with fail
                       go_roundw
                       case rel => exact ⟨k + 1, by omega, by go_num, HR.out, chain hB1 b3 (Nat.le_refl _)⟩
                       case measure => simp [intOf]; omega)
                    | (have k1 : ¬ a + size ≤ p + n := fun h => hfit ⟨h, by omega⟩
                       clear hfit
                       go_wp2_with fail
                       refine (HU.out _).mono ?_; rintro e w2 ⟨rfl, rfl⟩
                       go_wp2_with fail
                       refine (endP p n _ (by omega) (by omega)).mono ?_; rintro e w3 ⟨rfl, b3⟩
                       go_wp2_with fail
                       go_roundw
                       case rel => exact ⟨k + 1, by omega, by go_num, HR.out, chain hB1 b3 (Nat.le_refl _)⟩
                       case measure => simp [intOf]; omega)
            · have hm : max p f = p := by omega
              rw [hm] at hst r1 r2 r3
              have HU := Lib.hid (fun w => upP p d w (by omega) (by omega) h3 h4)
              clear hm
              obtain ⟨a, ha⟩ : ∃ a, roundUp p d = a := ⟨_, rfl⟩
              rw [ha] at hst r1 r2 r3 HU
              have HST := Lib.hid hst; clear hst ha
              by_cases hu : until_ ≤ p + n
              all_goals
                by_cases hfit : a + size ≤ p + n ∧ a + size ≤ until_
                · have HR : Hid (fitS l size d f until_ = some a) := by show _ = _; rw [HFS.out, HST.out, if_pos hfit]
                  obtain ⟨k1, k2⟩ := hfit
                  go_wp2_with fail
                  refine (HU.out _).mono ?_; rintro e w2 ⟨rfl, rfl⟩
                  go_wp2_with fail
                  refine (endP p n _ (by omega) (by omega)).mono ?_; rintro e w3 ⟨rfl, b3⟩
                  go_wp2_with fail
                  go_ret2
                  exact ⟨by rw [HR.out]; rfl, chain hB1 b3 (Nat.le_refl _)⟩
                · have HR : Hid (fitS l size d f until_ = fitS (l.drop (k + 1)) size d f until_) := by show _ = _; rw [HFS.out, HST.out, if_neg hfit]
                  first
                    | (have k1 : ¬ a + size ≤ until_ := fun h => hfit ⟨by omega, h⟩
                       clear hfit
                       go_wp2_with fail
                       refine (HU.out _).mono ?_; rintro e w2 ⟨rfl, rfl⟩
                       go_wp2_with fail
                       refine (endP p n _ (by omega) (by omega)).mono ?_; rintro e w3 ⟨rfl, b3⟩
                       go_wp2_with fail
                       go_roundw
                       case rel => exact ⟨k + 1, by omega, by go_num, HR.out, chain hB1 b3 (Nat.le_refl _)⟩
                       case measure => simp [intOf]; omega)
                    | (have k1 : ¬ a + size ≤ p + n := fun h => hfit ⟨h, by omega⟩
                       clear hfit
                       go_wp2_with fail
                       refine (HU.out _).mono ?_; rintro e w2 ⟨rfl, rfl⟩
                       go_wp2_with fail
                       refine (endP p n _ (by omega) (by omega)).mono ?_; rintro e w3 ⟨rfl, b3⟩
                       go_wp2_with fail
                       go_roundw
                       case rel => exact ⟨k + 1, by omega, by go_num, HR.out, chain hB1 b3 (Nat.le_refl _)⟩
                       case measure => simp [intOf]; omega)
          · obtain rfl : k = l.length := by omega
            have HR : Hid (fitS l size d f until_ = none) := by show _ = _; rw [HFS.out, List.drop_length]; rfl
            go_wp2_with fail
            go_ret2
            exact ⟨by rw [HR.out]; rfl, hB⟩
      · clear hHead
        subst hfe
        go_enter Try.func5, Try.ntmps5
        go_wp2_with fail
        refine HRi.out.mono ?_; rintro e w1 ⟨rfl, b1⟩
        go_wp2_with fail
        go_loopw [13, 14, 38] (fun u v i wl => ∃ k : Nat, k ≤ l.length ∧ i = .int .i64 k ∧ fitS l size d 1099511627776 until_ = fitS (l.drop k) size d 1099511627776 until_ ∧ Below w.heap.size w wl) (fun _ _ i _ => l.length - (intOf i).toNat)
        case atStart => exact ⟨0, by omega, rfl, rfl, b1⟩
        case round =>
          obtain ⟨k, hk, rfl, hfs, hB⟩ := hrel
          have HFS := Lib.hid hfs; clear hfs
          by_cases hlt : k < l.length
          · obtain ⟨b, off, rfl, hb, hcl⟩ := hA (by omega)
            have d1 := (hB.cell (p := ⟨b, off + k * 2, none⟩) hb).trans (hcl k hlt).1
            have d2 := (hB.cell (p := ⟨b, off + k * 2 + 1, none⟩) hb).trans (hcl k hlt).2
            have hx := (HRR.out k hlt).1
            have hst := fitS_drop l size d 1099511627776 until_ k hlt
            have he : (gt l k).e = (gt l k).p + (gt l k).n := rfl
            rw [he] at hst
            unfold Sp.ok at hx
            obtain ⟨p, hp⟩ : ∃ p, (gt l k).p = p := ⟨_, rfl⟩
            obtain ⟨n, hn⟩ : ∃ n, (gt l k).n = n := ⟨_, rfl⟩
            rw [hp] at d1
            rw [hn] at d2
            rw [hp, hn] at hx hst
            clear hp hn he hA hcl
            obtain ⟨z1, z2, z3, z4⟩ := hx
            obtain ⟨r1, r2, r3, _⟩ := roundUp_spec (a := max p 1099511627776) h3
            have q0 : (0 : Int) ≤ k := by omega
            have q1 : (k : Int) < l.length := by omega
            have e0 := below_new wr (.cells #[.int .i64 p, .int .i64 n] 24)
            have c1 : (wr.alloc (.cells #[.int .i64 p, .int .i64 n] 24)).cell? ⟨wr.heap.size, 0, none⟩ = some (.int .i64 p) := (Blk.new wr 24 _).cell 0
            have c2 : (wr.alloc (.cells #[.int .i64 p, .int .i64 n] 24)).cell? ⟨wr.heap.size, 1, none⟩ = some (.int .i64 n) := (Blk.new wr 24 _).cell 1
            have hB1 := chain hB e0 (Nat.le_refl _)
            by_cases hmx : p ≤ 1099511627776
            · have hm : max p 1099511627776 = 1099511627776 := by omega
              rw [hm] at hst r1 r2 r3
              have HU := Lib.hid (fun w => upP 1099511627776 d w (by omega) (by omega) h3 h4)
              clear hm
              obtain ⟨a, ha⟩ : ∃ a, roundUp 1099511627776 d = a := ⟨_, rfl⟩
              rw [ha] at hst r1 r2 r3 HU
              have HST := Lib.hid hst; clear hst ha
              by_cases hu : until_ ≤ p + n
              all_goals
                by_cases hfit : a + size ≤ p + n ∧ a + size ≤ until_
                · exfalso; omega
                · have HR : Hid (fitS l size d 1099511627776 until_ = fitS (l.drop (k + 1)) size d 1099511627776 until_) := by show _ = _; rw [HFS.out, HST.out, if_neg hfit]
                  first
                    | (have k1 : ¬ a + size ≤ until_ := fun h => hfit ⟨by omega, h⟩
                       clear hfit
                       go_wp2_with fail
                       refine (HU.out _).mono ?_; rintro e w2 ⟨rfl, rfl⟩
                       go_wp2_with fail
                       refine (endP p n _ (by omega) (by omega)).mono ?_; rintro e w3 ⟨rfl, b3⟩
                       go_wp2_with fail
                       go_roundw
                       case rel => exact ⟨k + 1, by omega, by go_num, HR.out, chain hB1 b3 (Nat.le_refl _)⟩
                       case measure => simp [intOf]; omega)
                    | (have k1 : ¬ a + size ≤ p + n := fun h => hfit ⟨h, by omega⟩
                       clear hfit
                       go_wp2_with fail
                       refine (HU.out _).mono ?_; rintro e w2 ⟨rfl, rfl⟩
                       go_wp2_with fail
                       refine (endP p n _ (by omega) (by omega)).mono ?_; rintro e w3 ⟨rfl, b3⟩
                       go_wp2_with fail
                       go_roundw
                       case rel => exact ⟨k + 1, by omega, by go_num, HR.out, chain hB1 b3 (Nat.le_refl _)⟩
                       case measure => simp [intOf]; omega)
            · exact absurd z2 hmx
          · obtain rfl : k = l.length := by omega
            have HR : Hid (fitS l size d 1099511627776 until_ = none) := by show _ = _; rw [HFS.out, List.drop_length]; rfl
            go_wp2_with fail
            go_ret2
            exact ⟨by rw [HR.out]; rfl, hB⟩
    · rw [show fitL l size d from_ until_ = none from by unfold fitL; rw [if_neg (fun h => hc ⟨h.2.1, h.2.2.1, h.2.2.2.1, h.2.2.2.2.1⟩)]]
      unfold fitRes
      clear hri
      by_cases k1 : size < 1
      · go_enter Try.func5, Try.ntmps5
        go_wp2_with fail
        refine HRi.out.mono ?_; rintro e w1 ⟨rfl, b1⟩
        go_wp2_with fail
        go_ret2
        exact ⟨rfl, b1⟩
      · by_cases k2 : 1099511627776 < size
        · go_enter Try.func5, Try.ntmps5
          go_wp2_with fail
          refine HRi.out.mono ?_; rintro e w1 ⟨rfl, b1⟩
          go_wp2_with fail
          go_ret2
          exact ⟨rfl, b1⟩
        · by_cases k3 : d < 1
          · go_enter Try.func5, Try.ntmps5
            go_wp2_with fail
            refine HRi.out.mono ?_; rintro e w1 ⟨rfl, b1⟩
            go_wp2_with fail
            go_ret2
            exact ⟨rfl, b1⟩
          · have k4 : 1099511627776 < d := by omega
            clear hc
            go_enter Try.func5, Try.ntmps5
            go_wp2_with fail
            refine HRi.out.mono ?_; rintro e w1 ⟨rfl, b1⟩
            go_wp2_with fail
            go_ret2
            exact ⟨rfl, b1⟩
  · rw [show decide (right l) = false from decide_eq_false hri] at HRi
    rw [show fitL l size d from_ until_ = none from by unfold fitL; rw [if_neg (fun h => hri h.1)]]
    unfold fitRes
    clear hri
    go_enter Try.func5, Try.ntmps5
    go_wp2_with fail
    refine HRi.out.mono ?_; rintro e w1 ⟨rfl, b1⟩
    go_wp2_with fail
    go_ret2
    exact ⟨rfl, b1⟩
end Go.Proofs.Ytfeiapkifoakoaa
