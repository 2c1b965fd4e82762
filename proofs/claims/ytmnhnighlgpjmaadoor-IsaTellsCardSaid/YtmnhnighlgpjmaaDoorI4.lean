/-
  Package isa: Decode of eight bytes.
-/
import Derived.Test.YtmnhnighlgpjmaaDoorI3
import Derived.RegionTactic
import Derived.ChangeAlike
namespace Go.Proofs.YtmnhnighlgpjmaaDoor
set_option linter.unusedVariables false
set_option linter.unusedSimpArgs false
open Go.RowKit

theorem wrap_byte (b : UInt8) : wrap64 ((b.toNat : Nat) : Int) = b.toNat := IntWalk.wrap64_in _ (by have := b.toNat_lt; omega)
set_option maxHeartbeats 16000000 in
theorem decInP (s : ByteArray) (p : Nat) (w : World) (hs : s.size ≤ 9223372036854775807) (hF : FormsAt w) (h : p + 8 ≤ s.size) (yes : Bool) (hr : rightB (insAt s p) = yes) :
    Calls Tryd.prog 7 #[.string s, .int .i64 p] w fun e w' => e = .returned (.tuple #[if yes then insV (insAt s p) else .agg #[.int .i64 0, .int .i64 0, .int .i64 0, .int .i64 0, .int .i64 0], .bool yes]) ∧ Below w.heap.size w w' := by
  have d1 : decide ((p : Int) < 0) = false := by simp
  have d2 : decide ((s.size : Int) - 8 < p) = false := decide_eq_false (by omega)
  obtain ⟨n, hn⟩ : ∃ n, W1.valOf 4 true (W1.bytesAt s ((p : Int) + 4) 4) = n := ⟨_, rfl⟩
  have HG := Lib.hid (W1.get_yes s ((p : Int) + 4) 4 true (w.alloc (.cells #[.int .i64 0, .int .i64 0, .int .i64 0, .int .i64 0, .int .i64 0] 23)) hs ⟨.inr (.inr (.inl rfl)), by omega, by omega⟩)
  have HI : Hid (insAt s p = ⟨_, _, _, _, _⟩) := Lib.hid rfl
  have e0 : s.data.toList.getD p 0 = s[p] := getD_at s p (by omega)
  have e1 : s.data.toList.getD (p + 1) 0 = s[p + 1] := getD_at s (p + 1) (by omega)
  have e2 : s.data.toList.getD (p + 2) 0 = s[p + 2] := getD_at s (p + 2) (by omega)
  have e3 : s.data.toList.getD (p + 3) 0 = s[p + 3] := getD_at s (p + 3) (by omega)
  rw [e0, e1, e2, e3, hn] at HI
  clear e0 e1 e2 e3
  rw [hn] at HG
  clear hn
  have HR0 := Lib.hid hr; clear hr
  have HF := Lib.hid hF; clear hF
  go_enter Tryd.func7, Tryd.ntmps7
  go_wp2_with fail
  refine HG.out.mono ?_; rintro e w' ⟨rfl, rfl⟩
  have x1 : IntKind.i64.wrap ((p : Int) + 1) = (p : Int) + 1 := IntWalk.i64_in _ (by omega)
  have x2 : IntKind.i64.wrap ((p : Int) + 2) = (p : Int) + 2 := IntWalk.i64_in _ (by omega)
  have x3 : IntKind.i64.wrap ((p : Int) + 3) = (p : Int) + 3 := IntWalk.i64_in _ (by omega)
  have y1 : ((p : Int) + 1).toNat = p + 1 := by omega
  have y2 : ((p : Int) + 2).toNat = p + 2 := by omega
  have y3 : ((p : Int) + 3).toNat = p + 3 := by omega
  have z0 : p < s.size := by omega
  have z1 : p + 1 < s.size := by omega
  have z2 : p + 2 < s.size := by omega
  have z3 : p + 3 < s.size := by omega
  have v1 : (p : Int) + 1 < s.size := by omega
  have v2 : (p : Int) + 2 < s.size := by omega
  have v3 : (p : Int) + 3 < s.size := by omega
  have u1 : 0 ≤ (p : Int) + 1 := by omega
  have u2 : 0 ≤ (p : Int) + 2 := by omega
  have u3 : 0 ≤ (p : Int) + 3 := by omega
  go_wp2_with fail
  go_region
  go_wp2_with fail
  obtain ⟨q0, hq0⟩ : ∃ q, wrap64 ((s[p].toNat : Nat) : Int) = q := ⟨_, rfl⟩
  obtain ⟨q1, hq1⟩ : ∃ q, wrap64 ((s[p + 1].toNat : Nat) : Int) = q := ⟨_, rfl⟩
  obtain ⟨q2, hq2⟩ : ∃ q, wrap64 ((s[p + 2].toNat : Nat) : Int) = q := ⟨_, rfl⟩
  obtain ⟨q3, hq3⟩ : ∃ q, wrap64 ((s[p + 3].toNat : Nat) : Int) = q := ⟨_, rfl⟩
  simp only [hq0, hq1, hq2, hq3]
  rw [wrap_byte] at hq0 hq1 hq2 hq3
  rw [hq0, hq1, hq2, hq3] at HI
  have HR1 : Hid (rightB ⟨q0, q1, q2, q3, n⟩ = yes) := Lib.hid (by rw [← HI.out]; exact HR0.out)
  clear hq0 hq1 hq2 hq3 HR0
  refine (rightP _ _ _ _ _ _ ?hFF).mono ?_
  case hFF => exact HF.out.keep (((Below.refl _ _).alloc (Nat.le_refl _) _).alloc (by simp) _).drew
  rw [HR1.out]
  rintro e w3 ⟨rfl, hb⟩
  have hsz : w.heap.size + 1 < w3.heap.size := by have := hb.size; simp at this; omega
  have hB : Below w.heap.size w w3 := (((Below.refl _ _).alloc (Nat.le_refl _) _).alloc (by simp) _).drew.trans (hb.mono (by simp; omega))
  have hk1 := (hb.block (w.heap.size + 1) (by simp)).trans (two_second w _ _)
  have hk0 := (hb.block w.heap.size (by simp; omega)).trans (two_first w _ _)
  have c0 := blk_cell hk1 0
  have c1 := blk_cell hk1 1
  have c2 := blk_cell hk1 2
  have c3 := blk_cell hk1 3
  have c4 := blk_cell hk1 4
  have f0 := blk_free hk0
  have o0 := blk_cell hk0 0
  have o1 := blk_cell hk0 1
  have o2 := blk_cell hk0 2
  have o3 := blk_cell hk0 3
  have o4 := blk_cell hk0 4
  have HB := Lib.hid hB
  have HK := Lib.hid hk0
  clear hb hB hk0 hk1 HR1
  cases yes
  · go_wp2_with fail
    have hr := set5 HK.out (.int .i64 0) (.int .i64 0) (.int .i64 0) (.int .i64 0) (.int .i64 0)
    have r0 := blk_cell hr 0
    have r1 := blk_cell hr 1
    have r2 := blk_cell hr 2
    have r3 := blk_cell hr 3
    have r4 := blk_cell hr 4
    clear hr
    refine bodyPost_ret (v := .tuple #[.agg #[.int .i64 0, .int .i64 0, .int .i64 0, .int .i64 0, .int .i64 0], .bool false]) (by simp [results, Tryd.results7, go_sem, r0, r1, r2, r3, r4]) rfl ⟨rfl, ?_⟩
    exact ((((HB.out.setCell (Nat.le_refl _) _).setCell (Nat.le_refl _) _).setCell (Nat.le_refl _) _).setCell (Nat.le_refl _) _).setCell (Nat.le_refl _) _
  · go_wp2_with fail
    have hr := set5 HK.out (.int .i64 q0) (.int .i64 q1) (.int .i64 q2) (.int .i64 q3) (.int .i64 n)
    have r0 := blk_cell hr 0
    have r1 := blk_cell hr 1
    have r2 := blk_cell hr 2
    have r3 := blk_cell hr 3
    have r4 := blk_cell hr 4
    clear hr
    refine bodyPost_ret (v := .tuple #[.agg #[.int .i64 q0, .int .i64 q1, .int .i64 q2, .int .i64 q3, .int .i64 n], .bool true]) (by simp [results, Tryd.results7, go_sem, r0, r1, r2, r3, r4]) rfl ⟨by rw [HI.out]; rfl, ?_⟩
    exact ((((HB.out.setCell (Nat.le_refl _) _).setCell (Nat.le_refl _) _).setCell (Nat.le_refl _) _).setCell (Nat.le_refl _) _).setCell (Nat.le_refl _) _
end Go.Proofs.YtmnhnighlgpjmaaDoor
