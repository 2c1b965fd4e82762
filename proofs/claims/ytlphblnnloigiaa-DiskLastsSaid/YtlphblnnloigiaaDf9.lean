/-
  Layer 6: enter, Read, Flush, Cut, Turn.
-/
import Derived.Test.YtlphblnnloigiaaDf8
namespace Go.Proofs.Ytlphblnnloigiaa
set_option linter.unusedVariables false
set_option linter.unusedSimpArgs false
open Go.RowKit

theorem irow_new1 (w : World) (x : Int) : IRow (w.alloc (.cells #[.int .i64 x] 3)) (w.alloc (.cells #[.int .i64 x] 3)).heap.size (.slice (some ⟨w.heap.size, 0, none⟩) 1 1) [x] := by
  refine ⟨_, 1, rfl, by simp, by decide, (fun e => by cases e), fun _ => ⟨w.heap.size, 0, rfl, by simp, fun i hi => ?_⟩⟩
  simp at hi; subst hi
  exact (Blk.new w 3 #[.int .i64 x]).cell 0
theorem irow_new2 (w : World) (x y : Int) : IRow (w.alloc (.cells #[.int .i64 x, .int .i64 y] 3)) (w.alloc (.cells #[.int .i64 x, .int .i64 y] 3)).heap.size (.slice (some ⟨w.heap.size, 0, none⟩) 2 2) [x, y] := by
  refine ⟨_, 2, rfl, by simp, by decide, (fun e => by cases e), fun _ => ⟨w.heap.size, 0, rfl, by simp, fun i hi => ?_⟩⟩
  have hi2 : i = 0 ∨ i = 1 := by simp at hi; omega
  rcases hi2 with rfl | rfl
  · exact (Blk.new w 3 #[.int .i64 x, .int .i64 y]).cell 0
  · exact (Blk.new w 3 #[.int .i64 x, .int .i64 y]).cell 1

set_option maxRecDepth 100000 in
set_option maxHeartbeats 2000000 in
theorem enterP {B : Nat → Prop} {w : World} {db : Nat} {s : Dk} (h : DiskAt B w db s) (fv : Value) (fs : List Int) (hr : IRow w w.heap.size fv fs) (hB : ∀ k, fv.ownBlock = some k → ¬ B k) (hl : fs.length ≤ 1000) :
    Calls Try.prog 30 #[.pointer (some ⟨db, 0, none⟩), fv] w fun e w' => e = .returned (.int .i64 (s.enter.chkL fs)) ∧ Op B w w' db s.enter := by
  have HC := Lib.hid (countP h)
  have HFV : Hid (∀ w', Fr B w w' → IRow w' w'.heap.size fv fs) := Lib.hid fun w' hf => hr.heap hf.size fun k hk hkl => hf.block k hkl (hB k hk)
  have HE : Hid (s.enter = if s.due = true then s.tick.crash s.keep else s.tick) := rfl
  have HKP : Hid (s.tick.keep = s.keep) := by show _ = _; unfold Dk.tick; split <;> rfl
  have HKN := Lib.hid h.ok.kn
  clear hr hB h
  rcases hd : s.due
  · rw [hd] at HC
    have HE2 : Hid (s.enter = s.tick) := by show _ = _; rw [HE.out, hd, if_neg (by simp)]
    rw [HE2.out]
    clear hd HE HE2
    go_enter Try.func30, Try.ntmps30
    go_wp2_with fail
    refine HC.out.mono ?_; rintro e w1 ⟨rfl, ho⟩
    have HK := Lib.hid (checkP ho.at_ fv fs (HFV.out _ ho.fr) hl)
    have HO := Lib.hid ho
    clear ho
    go_wp2_with fail
    refine HK.out.mono ?_; rintro e w2 ⟨rfl, rfl⟩
    go_wp2_with fail
    go_ret
    exact ⟨rfl, HO.out⟩
  · rw [hd] at HC
    have HE2 : Hid (s.enter = s.tick.crash s.keep) := by show _ = _; rw [HE.out, hd, if_pos rfl]
    rw [HE2.out]
    clear hd HE HE2
    go_enter Try.func30, Try.ntmps30
    go_wp2_with fail
    refine HC.out.mono ?_; rintro e w1 ⟨rfl, ho⟩
    obtain ⟨h0, v, u, d, _, _⟩ := ho.at_
    have c12 := d.c_tail.2.2.2.2
    have hkr := d.kp
    rw [HKP.out] at hkr
    have HCR := Lib.hid (crashP ho.at_ u s.keep hkr (Nat.le_trans HKN.out (by decide)))
    have HO := Lib.hid ho
    clear ho d hkr
    go_wp2_with fail
    refine HCR.out.mono ?_; rintro e w2 ⟨rfl, ho2⟩
    have ho3 := HO.out.trans ho2
    have HK := Lib.hid (checkP ho3.at_ fv fs (HFV.out _ ho3.fr) hl)
    have HO3 := Lib.hid ho3
    clear ho2 ho3 HCR HO
    go_wp2_with fail
    refine HK.out.mono ?_; rintro e w4 ⟨rfl, rfl⟩
    go_wp2_with fail
    go_ret
    exact ⟨rfl, HO3.out⟩

theorem chk_cases (s : Dk) (f : Int) : (s.chk f = 10) ∨ (s.chk f = 1) ∨ (s.chk f = 0 ∧ s.down = false ∧ 0 ≤ f ∧ f < 8) := by
  unfold Dk.chk
  cases hd : s.down
  · cases hf : isF f
    · simp
    · have : 0 ≤ f ∧ f < 8 := by simpa [isF] using hf
      simp [this]
  · simp
/-- A disk, and nothing but its own blocks. -/
theorem DiskAt.tight {B : Nat → Prop} {w : World} {db : Nat} {s : Dk} (h : DiskAt B w db s) : DiskAt (fun k => B k ∧ k < w.heap.size) w db s := h.mono fun k hk hb => ⟨hb, hk⟩
theorem Op.loose {B : Nat → Prop} {w w' : World} {db n : Nat} {s : Dk} (h : Op (fun k => B k ∧ k < n) w w' db s) : Op B w w' db s := h.mono fun k _ h => h.1

set_option maxRecDepth 100000 in
set_option maxHeartbeats 2000000 in
theorem readP {B : Nat → Prop} {w : World} {db : Nat} {s : Dk} (h : DiskAt B w db s) (f : Int) :
    Calls Try.prog 10 #[.pointer (some ⟨db, 0, none⟩), .int .i64 f] w fun e w' => e = .returned (.tuple #[.string (s.read f).1, .int .i64 (s.read f).2]) ∧ Below w.heap.size w w' := by
  have hb0 := below_new w (.cells #[.int .i64 f] 3)
  have HK := Lib.hid (checkP (h.below hb0) (.slice (some ⟨w.heap.size, 0, none⟩) 1 1) [f] (irow_new1 w f) (by simp))
  rw [chk_one] at HK
  have HR : Hid (s.read f = if s.chk f ≠ 0 then (bs [], s.chk f) else (s.bytes f.toNat, 0)) := rfl
  have HB0 := Lib.hid hb0
  generalize s.read f = R at *
  have hcs := chk_cases s f
  rcases hcs with hc | hc | ⟨hc, hdn, hf0, hf8⟩
  · rw [hc] at HK HR
    clear hc h hb0
    go_enter Try.func10, Try.ntmps10
    go_wp2_with fail
    refine HK.out.mono ?_; rintro e w1 ⟨rfl, rfl⟩
    go_wp2_with fail
    go_ret2
    exact ⟨by rw [HR.out]; rfl, HB0.out⟩
  · rw [hc] at HK HR
    clear hc h hb0
    go_enter Try.func10, Try.ntmps10
    go_wp2_with fail
    refine HK.out.mono ?_; rintro e w1 ⟨rfl, rfl⟩
    go_wp2_with fail
    go_ret2
    exact ⟨by rw [HR.out]; rfl, HB0.out⟩
  · rw [hc] at HK HR
    obtain ⟨F, rfl⟩ : ∃ F : Nat, f = F := ⟨f.toNat, by omega⟩
    have HBY := Lib.hid (bytesP (h.below hb0) F (by omega))
    clear hc h hb0
    go_enter Try.func10, Try.ntmps10
    go_wp2_with fail
    refine HK.out.mono ?_; rintro e w1 ⟨rfl, rfl⟩
    go_wp2_with fail
    refine HBY.out.mono ?_; rintro e w1 ⟨rfl, hb⟩
    go_wp2_with fail
    go_ret2
    exact ⟨by rw [HR.out]; rfl, chainB HB0.out hb⟩

set_option maxRecDepth 100000 in
set_option maxHeartbeats 2000000 in
theorem flushP {B : Nat → Prop} {w : World} {db : Nat} {s : Dk} (h : DiskAt B w db s) (f : Int) :
    Calls Try.prog 18 #[.pointer (some ⟨db, 0, none⟩), .int .i64 f] w fun e w' => e = .returned (.int .i64 (s.flush f).1) ∧ Op B w w' db (s.flush f).2 := by
  have hb0 := below_new w (.cells #[.int .i64 f] 3)
  have HE := Lib.hid (enterP (h.tight.below hb0) (.slice (some ⟨w.heap.size, 0, none⟩) 1 1) [f] (irow_new1 w f) (fun k hk => by simp [Value.ownBlock] at hk; omega) (by simp))
  rw [chk_one] at HE
  have HB0 := Lib.hid hb0
  have HR : Hid (s.flush f = s.enter.flush0 f) := rfl
  generalize s.flush f = R at *
  generalize s.enter = s1 at *
  have HR2 : Hid (R = if s1.chk f ≠ 0 then (s1.chk f, s1) else if 0 < s1.lost then (12, { s1 with lost := s1.lost - 1 }) else (0, s1.settle f.toNat (s1.bytes f.toNat))) := HR.out
  have hcs := chk_cases s1 f
  clear HR h hb0
  rcases hcs with hc | hc | ⟨hc, hdn, hf0, hf8⟩
  · rw [hc] at HE HR2
    clear hc
    go_enter Try.func18, Try.ntmps18
    go_wp2_with fail
    refine HE.out.mono ?_; rintro e w1 ⟨rfl, ho⟩
    have HO := Lib.hid (Op.pre HB0.out ho).loose
    clear ho
    go_wp2_with fail
    go_ret
    exact ⟨by rw [HR2.out]; rfl, by rw [HR2.out]; exact HO.out⟩
  · rw [hc] at HE HR2
    clear hc
    go_enter Try.func18, Try.ntmps18
    go_wp2_with fail
    refine HE.out.mono ?_; rintro e w1 ⟨rfl, ho⟩
    have HO := Lib.hid (Op.pre HB0.out ho).loose
    clear ho
    go_wp2_with fail
    go_ret
    exact ⟨by rw [HR2.out]; rfl, by rw [HR2.out]; exact HO.out⟩
  · rw [hc] at HE HR2
    obtain ⟨F, rfl⟩ : ∃ F : Nat, f = F := ⟨f.toNat, by omega⟩
    have hF : F < 8 := by omega
    clear hc
    go_enter Try.func18, Try.ntmps18
    go_wp2_with fail
    refine HE.out.mono ?_; rintro e w1 ⟨rfl, ho0⟩
    have ho := (Op.pre HB0.out ho0).loose
    have c10 := ho.at_.cells.2.1
    have f10 := ho.at_.cells.2.2.2.2 10
    have hlo := ho.at_.ok.lo
    by_cases hl0 : s1.lost = 0
    · have HR3 : Hid (R = (0, s1.settle F (s1.bytes F))) := by show _ = _; rw [HR2.out, hl0]; rfl
      have HBY := Lib.hid (bytesP ho.at_ F hF)
      have HO := Lib.hid ho
      rw [hl0] at c10
      clear ho ho0 hl0 hlo HR2
      go_wp2_with fail
      refine HBY.out.mono ?_; rintro e w2 ⟨rfl, hb2⟩
      have ho2 := HO.out.below hb2
      have HS := Lib.hid (settleP ho2.at_ F hF _ (ho2.at_.ok.bytes_le F))
      have HO2 := Lib.hid ho2
      clear ho2 hb2 c10 f10 HBY
      go_wp2_with fail
      refine HS.out.mono ?_; rintro e w3 ⟨rfl, ho3⟩
      have HO3 := Lib.hid (HO2.out.trans ho3)
      clear ho3
      go_wp2_with fail
      go_ret
      exact ⟨by rw [HR3.out]; rfl, by rw [HR3.out]; exact HO3.out⟩
    · obtain ⟨m, hm⟩ : ∃ m, s1.lost = m + 1 := ⟨s1.lost - 1, by omega⟩
      have HR3 : Hid (R = (12, { s1 with lost := m })) := by show _ = _; rw [HR2.out, hm]; simp
      have hst := ho.trans (ho.at_.set_lost m (by omega))
      rw [hm] at c10 hlo
      obtain ⟨L, hL⟩ : ∃ L : Int, ((m + 1 : Nat) : Int) = L := ⟨_, rfl⟩
      have e : (m : Int) = L - 1 := by omega
      rw [hL] at c10
      rw [e] at hst
      have HST := Lib.hid hst
      have q1 : 0 < L := by omega
      have q2 : L ≤ 9223372036854775807 := by omega
      clear ho ho0 hl0 hm HR2 hst e hL hlo
      go_wp2_with fail
      go_ret
      exact ⟨by rw [HR3.out]; rfl, by rw [HR3.out]; exact HST.out⟩
end Go.Proofs.Ytlphblnnloigiaa
