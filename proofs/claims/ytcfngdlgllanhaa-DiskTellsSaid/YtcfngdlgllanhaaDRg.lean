/-
  The reference of layer 6: Cut.
-/
import Derived.Test.YtcfngdlgllanhaaDRf
namespace Go.Proofs.Ytcfngdlgllanhaa
set_option linter.unusedVariables false
set_option linter.unusedSimpArgs false
open Go.RowKit

def Dk.rcut1 (s : Dk) (f n : Int) : Int × Dk := if s.chk f ≠ 0 then (s.chk f, s) else if n < 0 ∨ ((s.bytes f.toNat).size : Int) < n then (1, s) else (0, s.settle f.toNat ((s.bytes f.toNat).extract 0 n.toNat))
def Dk.rcut (s : Dk) (f n : Int) : Int × Dk := (s.rcomes 0 0 { data := #[] }).rcut1 f n
set_option maxRecDepth 100000 in
set_option maxHeartbeats 8000000 in
theorem cutR {B : Nat → Prop} {w : World} {db : Nat} {s : Dk} (h : RefAt B w db s) (f n : Int) :
    Calls Try.prog 40 #[.pointer (some ⟨db, 0, none⟩), .int .i64 f, .int .i64 n] w (IOPost B w db (s.rcut f n)) := by
  have HC := Lib.hid (comesR h 0 0 { data := #[] } (by decide) (by have := h.ok.pn; show s.pend.length + 0 ≤ 1000000; exact this))
  have HR : Hid (s.rcut f n = (s.rcomes 0 0 { data := #[] }).rcut1 f n) := rfl
  generalize s.rcut f n = R at *
  generalize s.rcomes 0 0 { data := #[] } = s1 at *
  have HR2 : Hid (R = if s1.chk f ≠ 0 then (s1.chk f, s1) else if n < 0 ∨ ((s1.bytes f.toNat).size : Int) < n then (1, s1) else (0, s1.settle f.toNat ((s1.bytes f.toNat).extract 0 n.toNat))) := HR.out
  clear HR h
  have hcs := chk_cases s1 f
  go_enter Try.func40, Try.ntmps40
  go_wp2_with fail
  refine HC.out.mono ?_; rintro e w1 ⟨rfl, ho⟩
  have HM := Lib.hid (mayR ho.at_ f)
  have HO := Lib.hid ho
  clear ho HC
  rcases hcs with hc | hc | ⟨hc, hdn, hf0, hf8⟩
  · have HF : Hid (IOPost B w db R (.returned (.int .i64 10)) w1) := Lib.hid ⟨by rw [HR2.out, hc]; rfl, by rw [HR2.out, hc]; exact HO.out⟩
    rw [hc] at HM
    clear HR2 hc
    go_wp2_with fail
    refine HM.out.mono ?_; rintro e w2 ⟨rfl, rfl⟩
    go_wp2_with fail
    go_ret
    exact HF.out
  · have HF : Hid (IOPost B w db R (.returned (.int .i64 1)) w1) := Lib.hid ⟨by rw [HR2.out, hc]; rfl, by rw [HR2.out, hc]; exact HO.out⟩
    rw [hc] at HM
    clear HR2 hc
    go_wp2_with fail
    refine HM.out.mono ?_; rintro e w2 ⟨rfl, rfl⟩
    go_wp2_with fail
    go_ret
    exact HF.out
  · obtain ⟨F, rfl⟩ : ∃ F : Nat, f = F := ⟨f.toNat, by omega⟩
    have hF : F < 8 := by omega
    have HR3 : Hid (R = if n < 0 ∨ ((s1.bytes F).size : Int) < n then (1, s1) else (0, s1.settle F ((s1.bytes F).extract 0 n.toNat))) := Lib.hid (by rw [HR2.out, hc, if_neg (by decide)]; rfl)
    rw [hc] at HM
    have hat := HO.out.at_
    have HRD := Lib.hid (readR hat F hF)
    have hbl := hat.ok.bytes_le F
    obtain ⟨b, hb⟩ : ∃ b, s1.bytes F = b := ⟨_, rfl⟩
    rw [hb] at HR3 HRD hbl
    have q0 : (0 : Int) ≤ (F : Int) := by omega
    have q8 : (F : Int) < 8 := by omega
    have q9 : ((F : Int)).toNat = F := by omega
    clear HR2 hc hdn hb
    by_cases hn : n < 0 ∨ (b.size : Int) < n
    · have HF : Hid (∀ w', Below w1.heap.size w1 w' → IOPost B w db R (.returned (.int .i64 1)) w') := Lib.hid (fun w' hb => ⟨by rw [HR3.out, if_pos hn], by rw [HR3.out, if_pos hn]; exact HO.out.below hb⟩)
      by_cases hn1 : n < 0
      · have d1 : decide (n < 0) = true := decide_eq_true hn1
        clear HR3 hn hat
        go_wp2_with fail
        refine HM.out.mono ?_; rintro e w2 ⟨rfl, rfl⟩
        go_wp2_with fail
        refine HRD.out.mono ?_; rintro e w3 ⟨rfl, hx⟩
        have HFF := Lib.hid (HF.out _ hx)
        clear hx HF HRD
        go_wp2_with fail
        go_ret
        exact HFF.out
      · have d1 : decide (n < 0) = false := decide_eq_false hn1
        have d2 : decide ((b.size : Int) < n) = true := decide_eq_true (by omega)
        have d3 : decide (n > (b.size : Int)) = true := decide_eq_true (by omega)
        clear HR3 hn hat
        go_wp2_with fail
        refine HM.out.mono ?_; rintro e w2 ⟨rfl, rfl⟩
        go_wp2_with fail
        refine HRD.out.mono ?_; rintro e w3 ⟨rfl, hx⟩
        have HFF := Lib.hid (HF.out _ hx)
        clear hx HF HRD
        go_wp2_with fail
        go_ret
        exact HFF.out
    · have HR4 : Hid (R = (0, s1.settle F (b.extract 0 n.toNat))) := Lib.hid (by rw [HR3.out, if_neg hn])
      obtain ⟨N, rfl⟩ : ∃ N : Nat, n = N := ⟨n.toNat, by omega⟩
      rw [Int.toNat_natCast] at HR4
      have d1 : decide ((N : Int) < 0) = false := decide_eq_false (by omega)
      have d2 : decide ((b.size : Int) < (N : Int)) = false := decide_eq_false (by omega)
      have d3 : decide ((N : Int) > (b.size : Int)) = false := decide_eq_false (by omega)
      have n0 : (0 : Int) ≤ (N : Int) := by omega
      have n1 : (N : Int) ≤ (b.size : Int) := by omega
      have hxl : (b.extract 0 N).size ≤ 16777216 := by simp; omega
      clear HR3 hn
      go_wp2_with fail
      refine HM.out.mono ?_; rintro e w2 ⟨rfl, rfl⟩
      go_wp2_with fail
      refine HRD.out.mono ?_; rintro e w3 ⟨rfl, hx⟩
      have ho3 := HO.out.below hx
      obtain ⟨lv, qv, kv, r3, hb3⟩ := ho3.at_
      obtain ⟨g, cap, rfl, hg, hgc⟩ := r3.last
      have c0 := r3.cells.1
      obtain ⟨k1, k2⟩ := hgc F hF
      have hks := (RAt.set_dur r3 hb3 F (b.extract 0 N) hxl).1.cells.1
      have HR5 := Lib.hid r3
      have HB5 := Lib.hid hb3
      have HO5 := Lib.hid ho3
      obtain ⟨old, hold⟩ : ∃ x, s1.d F = x := ⟨_, rfl⟩
      rw [hold] at k1
      obtain ⟨X, hX⟩ : ∃ X, b.extract 0 N = X := ⟨_, rfl⟩
      have HXL := Lib.hid hxl
      rw [hX] at hks HR4 HXL
      clear hx hxl r3 hb3 ho3 hgc HRD hat hold
      go_wp2_with fail
      go_region_held3 (fun W => W.cell? ⟨db, 0, none⟩ = some (.slice (some ⟨g, 0, none⟩) 8 cap))
        (first | exact c0 | exact hks | assumption | fail)
        (fail)
      all_goals
        have hst := RAt.set_dur HR5.out HB5.out F X HXL.out
        have hsb : Below (w3.setCell ⟨g, F, none⟩ (.string X)).heap.size (w3.setCell ⟨g, F, none⟩ (.string X)) (w3.setCell ⟨g, F, none⟩ (.string X)).drew := (Below.refl _ _).drew
        have hrf : RefAt (Ext B w w3) (w3.setCell ⟨g, F, none⟩ (.string X)) db { s1 with dur := s1.dur.set F X } := ⟨_, _, _, hst.1, HB5.out⟩
        have HWO := Lib.hid (withoutR (hrf.below hsb) F)
        clear k1 k2 hst hks hX hsb hrf
        go_wp2_with fail
        refine HWO.out.mono ?_; rintro e w4 ⟨u, rfl, hu, hw⟩
        obtain ⟨hfin, j1, j2⟩ := RAt.settled HR5.out HB5.out F X HXL.out (below_drew hw) hu
        obtain ⟨uA, ucap, rfl⟩ := own_form3 hu
        have HF : Hid (IOPost B w db R (.returned (.int .i64 0)) (w4.setCell ⟨db, 1, none⟩ _)) := Lib.hid ⟨by rw [HR4.out], by rw [HR4.out]; exact HO5.out.trans hfin⟩
        clear hfin hu hw HWO
        go_wp2_with fail
        go_ret
        exact HF.out
end Go.Proofs.Ytcfngdlgllanhaa
