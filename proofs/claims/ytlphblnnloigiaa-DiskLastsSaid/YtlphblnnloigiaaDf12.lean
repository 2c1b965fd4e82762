/-
  Layer 6: Write, New, Copy.
-/
import Derived.Test.YtlphblnnloigiaaDf11
namespace Go.Proofs.Ytlphblnnloigiaa
set_option linter.unusedVariables false
set_option linter.unusedSimpArgs false
open Go.RowKit

theorem raw_keep (s : Dk) (f a : Int) (t : ByteArray) : (s.raw f a t).2.keep = s.keep := by
  unfold Dk.raw
  split
  · rfl
  split
  · rfl
  split
  · rfl
  split <;> rfl
theorem tick_keep (s : Dk) : s.tick.keep = s.keep := by unfold Dk.tick; split <;> rfl

set_option maxRecDepth 100000 in
set_option maxHeartbeats 2000000 in
theorem writeP {B : Nat → Prop} {w : World} {db : Nat} {s : Dk} (h : DiskAt B w db s) (f a : Int) (t : ByteArray) (hn : s.pend.length + t.size ≤ 1000000) :
    Calls Try.prog 17 #[.pointer (some ⟨db, 0, none⟩), .int .i64 f, .int .i64 a, .string t] w fun e w' => e = .returned (.int .i64 (s.write f a t).1) ∧ Op B w w' db (s.write f a t).2 := by
  have HC := Lib.hid (countP h)
  have HR : Hid (s.write f a t = if s.due = true then (10, (s.tick.raw f a t).2.crash s.keep) else s.tick.raw f a t) := rfl
  have HKE : Hid ((s.tick.raw f a t).2.keep = s.keep) := by rw [raw_keep, tick_keep]; exact Lib.hid rfl
  have HKN := Lib.hid h.ok.kn
  have hn2 : s.tick.pend.length + t.size ≤ 1000000 := by rw [Dk.tick_pend]; exact hn
  generalize s.write f a t = R at *
  clear h hn
  rcases hd : s.due
  · rw [hd] at HC
    have HR2 : Hid (R = s.tick.raw f a t) := by show _ = _; rw [HR.out, hd, if_neg (by simp)]
    clear hd HR
    go_enter Try.func17, Try.ntmps17
    go_wp2_with fail
    refine HC.out.mono ?_; rintro e w1 ⟨rfl, ho⟩
    have HW := Lib.hid (rawP ho.at_ f a t hn2)
    have HO := Lib.hid ho
    clear ho HC
    go_wp2_with fail
    refine HW.out.mono ?_; rintro e w2 ⟨rfl, ho2⟩
    have HO2 := Lib.hid (HO.out.trans ho2)
    rw [← HR2.out] at HO2 ⊢
    clear ho2
    go_wp2_with fail
    go_ret
    exact ⟨rfl, HO2.out⟩
  · rw [hd] at HC
    have HR2 : Hid (R = (10, (s.tick.raw f a t).2.crash s.keep)) := by show _ = _; rw [HR.out, hd, if_pos rfl]
    clear hd HR
    go_enter Try.func17, Try.ntmps17
    go_wp2_with fail
    refine HC.out.mono ?_; rintro e w1 ⟨rfl, ho⟩
    have HW := Lib.hid (rawP ho.at_ f a t hn2)
    have HO := Lib.hid ho
    clear ho HC
    go_wp2_with fail
    refine HW.out.mono ?_; rintro e w2 ⟨rfl, ho2⟩
    have ho3 := HO.out.trans ho2
    obtain ⟨h0, v, u, d, _, _⟩ := ho3.at_
    have c12 := d.c_tail.2.2.2.2
    have hkr := d.kp
    rw [HKE.out] at hkr
    have HCR := Lib.hid (crashP ho3.at_ u s.keep hkr (Nat.le_trans HKN.out (by decide)))
    have HO3 := Lib.hid ho3
    clear ho2 ho3 d hkr
    go_wp2_with fail
    refine HCR.out.mono ?_; rintro e w4 ⟨rfl, ho4⟩
    have HO4 := Lib.hid (HO3.out.trans ho4)
    clear ho4
    go_wp2_with fail
    go_ret
    exact ⟨by rw [HR2.out]; rfl, by rw [HR2.out]; exact HO4.out⟩

/-- A new disk. -/
def NewPost (s : Dk) (w : World) (e : Ending) (w' : World) : Prop := ∃ c, e = .returned (.pointer (some ⟨c, 0, none⟩)) ∧ w.heap.size ≤ c ∧ DiskAt (fun k => w.heap.size ≤ k ∧ k < w'.heap.size) w' c s ∧ Below w.heap.size w w'
def zcells : Array Value := #[.string { data := #[] }, .string { data := #[] }, .string { data := #[] }, .string { data := #[] }, .string { data := #[] }, .string { data := #[] }, .string { data := #[] }, .string { data := #[] }, .slice none 0 0, .bool false, .int .i64 0, .int .i64 0, .slice none 0 0]
theorem zcells_eq : dcells dk0 (.slice none 0 0) (.slice none 0 0) = zcells := rfl
set_option maxRecDepth 100000 in
set_option maxHeartbeats 2000000 in
theorem newP (w : World) : Calls Try.prog 5 #[] w (NewPost dk0 w) := by
  have HF : Hid (NewPost dk0 w (.returned (.pointer (some ⟨w.heap.size, 0, none⟩))) (w.alloc (.cells zcells 50))) := by
    refine ⟨_, rfl, Nat.le_refl _, ⟨⟨Nat.le_refl _, by simp⟩, .slice none 0 0, .slice none 0 0, ⟨?_, OwnP.nil _, irow_nil _ _, (by simp [Value.ownBlock]), (by simp [Value.ownBlock]), (fun k hk => by simp [Value.ownBlock] at hk), (fun k hk => by simp [Value.ownBlock] at hk), dk0_ok⟩, (fun k hk => by simp [Value.ownBlock] at hk), (fun k hk => by simp [Value.ownBlock] at hk)⟩, below_new _ _⟩
    rw [zcells_eq]; exact Blk.new _ _ _
  unfold zcells at HF
  go_enter Try.func5, Try.ntmps5
  go_wp2_with fail
  go_ret
  exact HF.out

end Go.Proofs.Ytlphblnnloigiaa
