/-
  Layer 6: check, Down, Start, Lose, count.
-/
import Derived.Test.YtlphblnnloigiaaDf1
import Derived.Lib.MinMax
namespace Go.Proofs.Ytlphblnnloigiaa
set_option linter.unusedVariables false
set_option linter.unusedSimpArgs false
open Go.RowKit

def Dk.chkL (s : Dk) (fs : List Int) : Int := if s.down = true then 10 else if fs.all isF = true then 0 else 1
set_option maxRecDepth 100000 in
set_option maxHeartbeats 1000000 in
theorem checkP {B : Nat → Prop} {w : World} {db : Nat} {s : Dk} (h : DiskAt B w db s) (v : Value) (fs : List Int) (hr : IRow w w.heap.size v fs) (hl : fs.length ≤ 1000) :
    Calls Try.prog 22 #[.pointer (some ⟨db, 0, none⟩), v] w fun e w' => e = .returned (.int .i64 (s.chkL fs)) ∧ w = w' := by
  obtain ⟨c9, -, -, -, -⟩ := h.cells
  obtain ⟨A, cap, rfl, -, -, -, hA⟩ := hr
  have HC : Hid (s.chkL fs = if s.down = true then 10 else if fs.all isF = true then 0 else 1) := rfl
  generalize s.chkL fs = C at *
  clear h
  rcases hd : s.down
  · rw [hd] at HC c9
    clear hd
    go_enter Try.func22, Try.ntmps22
    go_wp2_with fail
    go_loop [6, 13] (fun u i => ∃ k : Nat, k ≤ fs.length ∧ i = .int .i64 k ∧ ∀ j (h : j < fs.length), j < k → isF fs[j] = true) (fun _ i => fs.length - (intOf i).toNat)
    case atStart => exact ⟨0, by omega, rfl, fun j h h2 => by omega⟩
    case round =>
      obtain ⟨k, hk, rfl, hall⟩ := hrel
      have HALL := Lib.hid hall; clear hall
      by_cases hlt : k < fs.length
      · obtain ⟨b, off, rfl, hb, hc⟩ := hA (by omega)
        have c1 := hc k hlt
        obtain ⟨x, hx⟩ : ∃ x, fs[k] = x := ⟨_, rfl⟩
        rw [hx] at c1
        have HX := Lib.hid hx
        obtain ⟨q, hq⟩ : ∃ q, isF x = q := ⟨_, rfl⟩
        have HI := Lib.hid (isFileP x w)
        rw [hq] at HI
        have HQ := Lib.hid hq
        have q1 : (k : Int) < fs.length := by omega
        clear hA hc hx hq
        go_wp2_with fail
        refine HI.out.mono ?_; rintro e w1 ⟨rfl, rfl⟩
        cases q
        · go_wp2_with fail
          go_ret
          refine ⟨?_, rfl⟩
          rw [HC.out, if_neg (by simp), if_neg]
          · rfl
          · intro h
            rw [List.all_eq_true] at h
            have := h fs[k] (List.getElem_mem hlt)
            rw [HX.out, HQ.out] at this
            cases this
        · go_wp2_with fail
          go_round
          case rel => exact ⟨k + 1, by omega, by go_num, fun j h hj => if e : j = k then by subst e; rw [HX.out]; exact HQ.out else HALL.out j h (by omega)⟩
          case measure => simp [intOf]; omega
      · obtain rfl : k = fs.length := by omega
        go_wp2_with fail
        go_ret
        refine ⟨?_, rfl⟩
        rw [HC.out, if_neg (by simp), if_pos]
        · rfl
        · rw [List.all_eq_true]
          intro x hx
          obtain ⟨j, hj, rfl⟩ := List.mem_iff_getElem.1 hx
          exact HALL.out j hj hj
  · rw [hd] at HC c9
    clear hd
    go_enter Try.func22, Try.ntmps22
    go_wp2_with fail
    go_ret
    exact ⟨by rw [HC.out]; rfl, rfl⟩
theorem chk_one (s : Dk) (f : Int) : s.chkL [f] = s.chk f := by
  unfold Dk.chkL Dk.chk
  cases s.down <;> cases h : isF f <;> simp [h]

theorem downP {B : Nat → Prop} {w : World} {db : Nat} {s : Dk} (h : DiskAt B w db s) :
    Calls Try.prog 7 #[.pointer (some ⟨db, 0, none⟩)] w fun e w' => e = .returned (.bool s.down) ∧ w = w' := by
  obtain ⟨c9, -, -, -, -⟩ := h.cells
  go_enter Try.func7, Try.ntmps7
  go_wp2_with fail
  go_ret
  exact ⟨rfl, rfl⟩
theorem startP {B : Nat → Prop} {w : World} {db : Nat} {s : Dk} (h : DiskAt B w db s) :
    Calls Try.prog 12 #[.pointer (some ⟨db, 0, none⟩)] w fun e w' => e = .returned (.tuple #[]) ∧ Op B w w' db s.start := by
  obtain ⟨c9, -, -, -, fz⟩ := h.cells
  have f9 := fz 9
  have HO := Lib.hid (h.set_down false)
  clear fz h
  go_enter Try.func12, Try.ntmps12
  go_wp2_with fail
  go_end0
  exact ⟨rfl, HO.out⟩
set_option maxHeartbeats 1000000 in
theorem loseP {B : Nat → Prop} {w : World} {db : Nat} {s : Dk} (h : DiskAt B w db s) (n : Int) (hn : n ≤ 9223372036854775807) :
    Calls Try.prog 19 #[.pointer (some ⟨db, 0, none⟩), .int .i64 n] w fun e w' => e = .returned (.tuple #[]) ∧ Op B w w' db (s.lose n) := by
  obtain ⟨-, c10, -, -, fz⟩ := h.cells
  have f10 := fz 10
  have HO := Lib.hid (h.set_lost n.toNat (by omega))
  have e : ((n.toNat : Nat) : Int) = max n 0 := by omega
  rw [e] at HO
  clear fz h e
  go_enter Try.func19, Try.ntmps19
  go_wp2_with fail
  go_end0
  exact ⟨rfl, HO.out⟩

set_option maxHeartbeats 1000000 in
theorem countP {B : Nat → Prop} {w : World} {db : Nat} {s : Dk} (h : DiskAt B w db s) :
    Calls Try.prog 28 #[.pointer (some ⟨db, 0, none⟩)] w fun e w' => e = .returned (.bool s.due) ∧ Op B w w' db s.tick := by
  obtain ⟨c9, -, c11, -, fz⟩ := h.cells
  have f11 := fz 11
  have hca := h.ok.ca
  have HR := Lib.hid (Op.refl h)
  have HS := Lib.hid (h.set_calls (s.calls - 1) (by omega))
  clear fz h
  obtain ⟨dur, pend, down, lost, c, keep⟩ := s
  simp only at c9 c11 hca
  rcases down with _ | _
  · by_cases h0 : c = 0
    · subst h0
      have HD : Hid (Dk.due ⟨dur, pend, false, lost, 0, keep⟩ = false) := rfl
      have HT : Hid (Dk.tick ⟨dur, pend, false, lost, 0, keep⟩ = ⟨dur, pend, false, lost, 0, keep⟩) := rfl
      rw [HT.out, HD.out]
      go_enter Try.func28, Try.ntmps28
      go_wp2_with fail
      go_ret
      exact ⟨rfl, HR.out⟩
    · obtain ⟨m, rfl⟩ : ∃ m, c = m + 1 := ⟨c - 1, by omega⟩
      have HD : Hid (Dk.due ⟨dur, pend, false, lost, m + 1, keep⟩ = decide (m = 0)) := by
        show _ = _
        unfold Dk.due; simp
      have HT : Hid (Dk.tick ⟨dur, pend, false, lost, m + 1, keep⟩ = ⟨dur, pend, false, lost, m, keep⟩) := rfl
      rw [HT.out, HD.out]
      obtain ⟨C, hC⟩ : ∃ C : Int, ((m + 1 : Nat) : Int) = C := ⟨_, rfl⟩
      rw [hC] at c11
      have e : ((m + 1 - 1 : Nat) : Int) = C - 1 := by omega
      simp only [e] at HS
      have q0 : ¬ C = 0 := by omega
      have q1 : 1 ≤ C := by omega
      have q3 : C ≤ 9223372036854775807 := by omega
      have HE : Hid (decide (C - 1 = 0) = decide (m = 0)) := by
        show _ = _
        rw [Bool.eq_iff_iff, decide_eq_true_iff, decide_eq_true_iff]; omega
      clear hC e
      go_enter Try.func28, Try.ntmps28
      go_wp2_with fail
      go_ret
      refine ⟨?_, HS.out⟩
      rw [← HE.out]
      rfl
  · have HD : Hid (Dk.due ⟨dur, pend, true, lost, c, keep⟩ = false) := rfl
    have HT : Hid (Dk.tick ⟨dur, pend, true, lost, c, keep⟩ = ⟨dur, pend, true, lost, c, keep⟩) := rfl
    rw [HT.out, HD.out]
    go_enter Try.func28, Try.ntmps28
    go_wp2_with fail
    go_ret
    exact ⟨rfl, HR.out⟩
end Go.Proofs.Ytlphblnnloigiaa
