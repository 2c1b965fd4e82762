/-
  The reference of package journal: the bytes of a number, of rows and of a header.
-/
import Derived.Test.YthdmcjiccbgknaaJ4
import Derived.Test.YthdmcjiccbgknaaRefC
namespace Go.Proofs.Ythdmcjiccbgknaa
set_option linter.unusedVariables false
set_option linter.unusedSimpArgs false
open Go.RowKit

theorem rNumberP (n : Int) (w : World) (h1 : -9223372036854775808 ≤ n) (h2 : n ≤ 9223372036854775807) :
    Calls Try.prog 80 #[.int .i64 n] w fun e w' => e = .returned (.string (num n)) ∧ Below w.heap.size w w' := by
  have HC := Lib.hid (W1.rput_yes8 zero8 0 n w (by decide) zero8_field h1 h2)
  rw [put_zero] at HC
  unfold zero8 at HC
  clear h1 h2
  go_enter Try.func80, Try.ntmps80
  go_wp2_with fail
  refine HC.out.mono ?_; rintro e w2 ⟨rfl, hb⟩
  have HB := Lib.hid hb
  clear hb
  go_wp2_with fail
  go_ret
  exact ⟨rfl, HB.out⟩

def FmRel (w0 : World) (l : List ByteArray) (x i : Value) (wl : World) : Prop := ∃ k : Nat, i = .int .i64 k ∧ k ≤ l.length ∧ x = .string (bs (flat (l.take k))) ∧ Below w0.heap.size w0 wl
set_option maxRecDepth 100000 in
set_option maxHeartbeats 8000000 in
theorem rFormsP (v : Value) (l : List ByteArray) (w : World) (hr : Row w w.heap.size v (sv l)) (hl : ext l ≤ 1000000000000) :
    Calls Try.prog 57 #[v] w fun e w' => e = .returned (.string (bs (flat l))) ∧ Below w.heap.size w w' := by
  have hll : l.length ≤ 1000000000000 := Nat.le_trans (ext_len l) hl
  obtain ⟨A, cap, rfl, hA⟩ := hr
  rw [sv_length] at hA ⊢
  have HA := Lib.hid hA
  have HL := Lib.hid hl
  clear hA hl
  go_enter Try.func57, Try.ntmps57
  go_wp2_with fail
  go_loopw [3, 4] (fun x i wl => FmRel w l x i wl) (fun _ i _ => l.length - (intOf i).toNat)
  case atStart => exact ⟨0, rfl, Nat.zero_le _, rfl, Below.refl _ _⟩
  case round =>
    obtain ⟨k, rfl, hk, rfl, hb⟩ := hrel
    have HB := Lib.hid hb
    clear hb
    by_cases hlt : k < l.length
    · have q0 : (0 : Int) ≤ k := by omega
      have q1 : (k : Int) < l.length := by omega
      obtain ⟨b, off, rfl, hb, hc⟩ := HA.out (by omega)
      have hc0 := hc k hlt
      rw [sv_get l k hlt] at hc0
      have c0 : wr.cell? ⟨b, off + k, none⟩ = some (.string l[k]) := (HB.out.cell (p := ⟨b, off + k, none⟩) hb).trans hc0
      have e1 := flat_snoc l k hlt
      have e2 := ext_snoc l k hlt
      have e3 := ext_le l (k + 1)
      have e4 := flat_length (l.take k)
      have e5 := HL.out
      clear hc hc0
      obtain ⟨s, hs⟩ : ∃ s, l[k] = s := ⟨_, rfl⟩
      rw [hs] at c0 e1 e2
      have hss : s.size ≤ 1000000000000 := by omega
      obtain ⟨F, hF⟩ : ∃ F, bs (flat (l.take k)) = F := ⟨_, rfl⟩
      have hFs : F.size ≤ 1000000000000 := by rw [← hF, bs_size]; omega
      have HE : Hid (F ++ num s.size ++ s = bs (flat (l.take (k + 1)))) := Lib.hid (by
        rw [e1, ← hF, ← bs_append, bs_data, ByteArray.append_assoc]; rfl)
      have hadd1 := fun w => run_string_add_sum (P := Try.prog) (w := w) F (num s.size) (by rw [num_size]; omega)
      have hadd2 := fun w => run_string_add_sum (P := Try.prog) (w := w) (F ++ num s.size) s (by rw [ByteArray.size_append, num_size]; omega)
      have HC := Lib.hid (fun w => rNumberP s.size w (by omega) (by omega))
      rw [hF]
      obtain ⟨ns, hns⟩ : ∃ x, num s.size = x := ⟨_, rfl⟩
      rw [hns] at hadd1 hadd2 HE HC
      clear hs e1 e2 e3 e4 e5 hF hns
      suffices key : Hid (∀ wx, Below wr.heap.size wr wx → Below w.heap.size w wx) by
        go_wp2_with fail
        go_region_with (go_at_call 80; refine (HC.out _).mono ?_; rintro e wa ⟨rfl, hba⟩; have c1 : wa.cell? ⟨b, off + k, none⟩ = some (.string s) := (hba.cell (p := ⟨b, off + k, none⟩) (World.block_lt_of_cell? wr ⟨b, off + k, none⟩ c0)).trans c0; have HBA : Hid (Below wr.heap.size wr wa) := Lib.hid (below_drew hba))
        all_goals
          go_wp2_with fail
          go_roundw
          case rel => exact ⟨k + 1, by go_num, by omega, by rw [HE.out], key.out _ (by first | exact HBA.out | exact HBA.out.drew)⟩
          case measure => simp [intOf]; omega
      exact Lib.hid fun wx h => HB.out.trans (h.mono HB.out.size)
    · obtain rfl : k = l.length := by omega
      have HE : Hid (bs (flat (l.take l.length)) = bs (flat l)) := Lib.hid (by rw [List.take_length])
      go_wp2_with fail
      go_ret
      exact ⟨congrArg (fun x => Ending.returned (.string x)) HE.out, HB.out⟩

theorem rHeaderP (v : Value) (l : List ByteArray) (w : World) (hr : Row w w.heap.size v (sv l)) (hl : ext l ≤ 1000000000000) :
    Calls Try.prog 46 #[v] w fun e w' => e = .returned (.string (hdr (ext l) l.length)) ∧ Below w.heap.size w w' := by
  have hll : l.length ≤ 1000000000000 := Nat.le_trans (ext_len l) hl
  have HC := Lib.hid (rFormsP v l w hr hl)
  have hsz : (bs (flat l)).size + 16 = ext l := by rw [bs_size, ← flat_length l]; omega
  obtain ⟨A, cap, rfl, hA⟩ := hr
  rw [sv_length] at hA HC ⊢
  clear hA
  have hadd := fun w => run_string_add_sum (P := Try.prog) (w := w) (num (ext l)) (num l.length) (by rw [num_size, num_size]; decide)
  have HD := Lib.hid (fun w => rNumberP (ext l) w (by omega) (by omega))
  have HE := Lib.hid (fun w => rNumberP l.length w (by omega) (by omega))
  obtain ⟨F, hF⟩ : ∃ F, bs (flat l) = F := ⟨_, rfl⟩
  rw [hF] at HC hsz
  obtain ⟨na, hna⟩ : ∃ x, num (ext l) = x := ⟨_, rfl⟩
  obtain ⟨nc, hnc⟩ : ∃ x, num l.length = x := ⟨_, rfl⟩
  rw [hna, hnc] at hadd
  rw [hna] at HD
  rw [hnc] at HE
  have HN1 := Lib.hid hna
  have HN2 := Lib.hid hnc
  have hx : (16 : Int) + (F.size : Int) = ext l := by omega
  have HX := Lib.hid hx
  have hf1 : F.size ≤ 1000000000000 := by omega
  clear hna hnc hF hsz hx
  go_enter Try.func46, Try.ntmps46
  go_wp2_with fail
  refine HC.out.mono ?_; rintro e w2 ⟨rfl, hb⟩
  have HB := Lib.hid hb
  clear hb
  go_wp2_with fail
  rw [HX.out]
  refine (HD.out _).mono ?_; rintro e w3 ⟨rfl, hb⟩
  have HB2 := Lib.hid (HB.out.trans (hb.mono HB.out.size))
  clear hb
  go_wp2_with fail
  refine (HE.out _).mono ?_; rintro e w4 ⟨rfl, hb⟩
  have HB3 := Lib.hid (HB2.out.trans (hb.mono HB2.out.size))
  clear hb
  go_wp2_with fail
  go_ret
  exact ⟨by unfold hdr; rw [HN1.out, HN2.out]; rfl, HB3.out⟩
end Go.Proofs.Ythdmcjiccbgknaa
