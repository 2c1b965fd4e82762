/-
  The reference of layer 6: Write.
-/
import Derived.Test.YtcfngdlgllanhaaDRw
namespace Go.Proofs.Ytcfngdlgllanhaa
set_option linter.unusedVariables false
set_option linter.unusedSimpArgs false
open Go.RowKit

def Dk.rwrite1 (s : Dk) (f a : Int) (t : ByteArray) : Int × Dk := if s.chk f ≠ 0 then (s.chk f, s) else if a < 0 then (1, s) else if ¬ (0 ≤ a ∧ a + t.size ≤ 16777216) then (7, s) else (0, s.radd f a t)
def Dk.rwrite (s : Dk) (f a : Int) (t : ByteArray) : Int × Dk := (s.rcomes f a t).rwrite1 f a t
def IOPost (B : Nat → Prop) (w : World) (db : Nat) (r : Int × Dk) (e : Ending) (w' : World) : Prop := e = .returned (.int .i64 r.1) ∧ ROp B w w' db r.2
theorem rcrash_pend (s : Dk) (k : List Int) : (s.rcrash k).pend.length ≤ s.pend.length := by
  unfold Dk.rcrash
  split
  · exact Nat.le_refl _
  · exact Dk.crash_pend s k
theorem rcomes_alive {s : Dk} {f a : Int} {t : ByteArray} (h : (s.rcomes f a t).down = false) : (s.rcomes f a t).pend = s.pend := by
  unfold Dk.rcomes at h ⊢
  split at h
  · rename_i h1; rw [if_pos h1]
  · rename_i h1
    rw [if_neg h1]
    split at h
    · rename_i h2; rw [if_pos h2]
    · exfalso
      unfold Dk.rcrash at h
      split at h
      · rename_i h3; rw [h3] at h; cases h
      · have := crash_down ((({ s with calls := 0 } : Dk)).radd f a t) s.keep
        rw [show (({ (((({ s with calls := 0 } : Dk)).radd f a t)).crash s.keep with keep := ((({ s with calls := 0 } : Dk)).radd f a t).keep } : Dk)).down = (((({ s with calls := 0 } : Dk)).radd f a t).crash s.keep).down from rfl, this] at h
        cases h
set_option maxRecDepth 100000 in
set_option maxHeartbeats 8000000 in
theorem writeR {B : Nat → Prop} {w : World} {db : Nat} {s : Dk} (h : RefAt B w db s) (f a : Int) (t : ByteArray) (ht : t.size ≤ 1000000) (hn : s.pend.length + t.size ≤ 1000000) :
    Calls Try.prog 38 #[.pointer (some ⟨db, 0, none⟩), .int .i64 f, .int .i64 a, .string t] w (IOPost B w db (s.rwrite f a t)) := by
  have HC := Lib.hid (comesR h f a t ht hn)
  have hpe := rcomes_alive (s := s) (f := f) (a := a) (t := t)
  have HR : Hid (s.rwrite f a t = (s.rcomes f a t).rwrite1 f a t) := rfl
  generalize s.rwrite f a t = R at *
  generalize s.rcomes f a t = s1 at *
  have HR2 : Hid (R = if s1.chk f ≠ 0 then (s1.chk f, s1) else if a < 0 then (1, s1) else if ¬ (0 ≤ a ∧ a + t.size ≤ 16777216) then (7, s1) else (0, s1.radd f a t)) := HR.out
  have HPE := Lib.hid hpe
  clear HR h hpe
  have hcs := chk_cases s1 f
  go_enter Try.func38, Try.ntmps38
  go_wp2_with fail
  refine HC.out.mono ?_; rintro e w1 ⟨rfl, ho⟩
  have HM := Lib.hid (mayR ho.at_ f)
  have HO := Lib.hid ho
  clear ho HC
  rcases hcs with hc | hc | ⟨hc, hdn, hf0, hf8⟩
  · have HF : Hid (IOPost B w db R (.returned (.int .i64 10)) w1) := Lib.hid ⟨by rw [HR2.out, hc]; rfl, by rw [HR2.out, hc]; exact HO.out⟩
    rw [hc] at HM
    clear HR2 hc
    go_wp2_with fail
    refine HM.out.mono ?_; rintro e w2 ⟨rfl, rfl⟩
    go_wp2_with fail
    go_ret
    exact HF.out
  · have HF : Hid (IOPost B w db R (.returned (.int .i64 1)) w1) := Lib.hid ⟨by rw [HR2.out, hc]; rfl, by rw [HR2.out, hc]; exact HO.out⟩
    rw [hc] at HM
    clear HR2 hc
    go_wp2_with fail
    refine HM.out.mono ?_; rintro e w2 ⟨rfl, rfl⟩
    go_wp2_with fail
    go_ret
    exact HF.out
  · have HR3 : Hid (R = if a < 0 then (1, s1) else if ¬ (0 ≤ a ∧ a + t.size ≤ 16777216) then (7, s1) else (0, s1.radd f a t)) := Lib.hid (by rw [HR2.out, hc, if_neg (by decide)])
    rw [hc] at HM
    have hpl : s1.pend.length + t.size ≤ 1000000 := by rw [HPE.out hdn]; exact hn
    clear HR2 hc
    by_cases h1 : a < 0
    · have HF : Hid (IOPost B w db R (.returned (.int .i64 1)) w1) := Lib.hid ⟨by rw [HR3.out, if_pos h1], by rw [HR3.out, if_pos h1]; exact HO.out⟩
      have d1 : decide (a < 0) = true := decide_eq_true h1
      clear HR3 hdn
      go_wp2_with fail
      refine HM.out.mono ?_; rintro e w2 ⟨rfl, rfl⟩
      go_wp2_with fail
      go_ret
      exact HF.out
    · have d1 : decide (a < 0) = false := decide_eq_false h1
      have HFI := Lib.hid (fun w => fitsR a t w ht)
      by_cases h3 : 0 ≤ a ∧ a + (t.size : Int) ≤ 16777216
      · rw [decide_eq_true h3] at HFI
        have HRA : Hid (s1.radd f a t = { s1 with pend := s1.pend ++ pcs f.toNat t.size a.toNat t }) := Lib.hid (by unfold Dk.radd; rw [if_pos ⟨decide_eq_true (by omega), h3⟩])
        have HR4 : Hid (R = (0, { s1 with pend := s1.pend ++ pcs f.toNat t.size a.toNat t })) := Lib.hid (by rw [HR3.out, if_neg h1, if_neg (fun h => h h3), HRA.out])
        obtain ⟨F, rfl⟩ : ∃ F : Nat, f = F := ⟨f.toNat, by omega⟩
        obtain ⟨a, rfl⟩ : ∃ a' : Nat, a = a' := ⟨a.toNat, by omega⟩
        rw [Int.toNat_natCast, Int.toNat_natCast] at HR4
        have HAD := Lib.hid (addR HO.out.at_ F (by omega) a t (by omega) hpl)
        clear HR3 HRA h3 h1 hdn hf0 hf8
        go_wp2_with fail
        refine HM.out.mono ?_; rintro e w2 ⟨rfl, rfl⟩
        go_wp2_with fail
        refine (HFI.out _).mono ?_; rintro e w3 ⟨rfl, rfl⟩
        go_wp2_with fail
        refine HAD.out.mono ?_; rintro e w4 ⟨rfl, hx⟩
        have HF : Hid (IOPost B w db R (.returned (.int .i64 0)) w4) := Lib.hid ⟨by rw [HR4.out], by rw [HR4.out]; exact HO.out.trans hx⟩
        clear hx HAD
        go_wp2_with fail
        go_ret
        exact HF.out
      · rw [decide_eq_false h3] at HFI
        have HF : Hid (IOPost B w db R (.returned (.int .i64 7)) w1) := Lib.hid ⟨by rw [HR3.out, if_neg h1, if_pos h3], by rw [HR3.out, if_neg h1, if_pos h3]; exact HO.out⟩
        clear HR3 h3 h1 hdn hf0 hf8
        go_wp2_with fail
        refine HM.out.mono ?_; rintro e w2 ⟨rfl, rfl⟩
        go_wp2_with fail
        refine (HFI.out _).mono ?_; rintro e w3 ⟨rfl, rfl⟩
        go_wp2_with fail
        go_ret
        exact HF.out
end Go.Proofs.Ytcfngdlgllanhaa
