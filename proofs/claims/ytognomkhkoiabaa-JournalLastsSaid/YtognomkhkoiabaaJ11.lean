/-
  Package journal: Open.
-/
import Derived.Test.YtognomkhkoiabaaJ10
import Derived.Test.YtognomkhkoiabaaJ3
import Derived.Test.YtognomkhkoiabaaDf9
namespace Go.Proofs.Ytognomkhkoiabaa
set_option linter.unusedVariables false
set_option linter.unusedSimpArgs false
open Go.RowKit

theorem splitN_ext : ∀ (m : Nat) (s : ByteArray) (l : List ByteArray), splitN m s = some l → ext l = 16 + s.size
  | 0, s, l, h => by simp [splitN] at h
  | m + 1, s, l, h => by
    unfold splitN at h
    by_cases h0 : s.size = 0
    · rw [if_pos h0] at h; injection h with h; subst h; rw [h0]; rfl
    · rw [if_neg h0] at h
      by_cases h8 : s.size < 8
      · rw [if_pos h8] at h; cases h
      · rw [if_neg h8] at h
        by_cases hv : val8 s 0 < 0 ∨ (s.size : Int) - 8 < val8 s 0
        · rw [if_pos hv] at h; cases h
        · rw [if_neg hv] at h
          rcases hr : splitN m (s.extract (8 + (val8 s 0).toNat) s.size) with _ | r
          · rw [hr] at h; cases h
          · rw [hr] at h
            injection h with h
            subst h
            have := splitN_ext m _ r hr
            rw [ByteArray.size_extract] at this
            unfold ext at *
            simp only [List.map_cons, List.sum_cons, ByteArray.size_extract]
            omega
theorem parse_ext (s : ByteArray) (l : List ByteArray) (h : parseS s = some l) : ext l ≤ 16 + s.size := by
  unfold parseS at h
  by_cases h1 : s.size < 16
  · rw [if_pos h1] at h; injection h with h; subst h; show 16 ≤ _; omega
  · rw [if_neg h1] at h
    by_cases h2 : val8 s 0 = 0
    · rw [if_pos h2] at h; injection h with h; subst h; show 16 ≤ _; omega
    · rw [if_neg h2] at h
      by_cases h3 : val8 s 0 < 16 ∨ (s.size : Int) < val8 s 0
      · rw [if_pos h3] at h; cases h
      · rw [if_neg h3] at h
        rcases hr : splitS (s.extract 16 (val8 s 0).toNat) with _ | r
        · rw [hr] at h; cases h
        · rw [hr] at h
          have h' : (if (r.length : Int) = val8 s 8 then some r else none) = some l := h
          by_cases h4 : (r.length : Int) = val8 s 8
          · rw [if_pos h4] at h'
            injection h' with h'
            subst h'
            have := splitN_ext _ _ r hr
            rw [ByteArray.size_extract] at this
            omega
          · rw [if_neg h4] at h'; cases h'

/-- What Open answers. -/
def OpenPost (w : World) (db : Nat) (s : Dk) (f : Int) (e : Ending) (w' : World) : Prop :=
  Below w.heap.size w w' ∧
  if f < 0 ∨ 6 < f then e = .returned (.tuple #[.pointer none, .int .i64 1])
  else if (s.read f).2 ≠ 0 then e = .returned (.tuple #[.pointer none, .int .i64 (s.read f).2])
  else match parseS (s.read f).1 with
    | none => e = .returned (.tuple #[.pointer none, .int .i64 2])
    | some l => ∃ lb v, w.heap.size ≤ lb ∧ (∀ k, v.ownBlock = some k → w.heap.size ≤ k) ∧ e = .returned (.tuple #[.pointer (some ⟨lb, 0, none⟩), .int .i64 0]) ∧ LgAt w' lb db v ⟨f, l, l.length⟩

set_option maxRecDepth 100000 in
set_option maxHeartbeats 4000000 in
theorem openP {B : Nat → Prop} {w : World} {db : Nat} {s : Dk} (h : DiskAt B w db s) (f : Int) (hrs : (s.read f).1.size ≤ 100000000) :
    Calls Try.prog 7 #[.pointer (some ⟨db, 0, none⟩), .int .i64 f] w (OpenPost w db s f) := by
  by_cases hf : f < 0 ∨ 6 < f
  · have HP : Hid (OpenPost w db s f (.returned (.tuple #[.pointer none, .int .i64 1])) w) := Lib.hid ⟨Below.refl _ _, by rw [if_pos hf]⟩
    clear h hrs
    rcases Int.lt_or_le f 0 with h0 | h0
    · have k1 : decide (f < 0) = true := decide_eq_true h0
      clear hf
      go_enter Try.func7, Try.ntmps7
      go_wp2_with fail
      go_ret2
      exact HP.out
    · have k1 : decide (f < 0) = false := decide_eq_false (by omega)
      have k2 : decide (6 < f) = true := decide_eq_true (by omega)
      have k3 : decide (f > 6) = true := decide_eq_true (by omega)
      clear hf
      go_enter Try.func7, Try.ntmps7
      go_wp2_with fail
      go_ret2
      exact HP.out
  · have k1 : decide (f < 0) = false := decide_eq_false (by omega)
    have k2 : decide (6 < f) = false := decide_eq_false (by omega)
    have k3 : decide (f > 6) = false := decide_eq_false (by omega)
    have HR := Lib.hid (readP h f)
    have HPO : Hid (∀ e w', OpenPost w db s f e w' ↔ (Below w.heap.size w w' ∧ if (s.read f).2 ≠ 0 then e = .returned (.tuple #[.pointer none, .int .i64 (s.read f).2])
      else match parseS (s.read f).1 with
        | none => e = .returned (.tuple #[.pointer none, .int .i64 2])
        | some l => ∃ lb v, w.heap.size ≤ lb ∧ (∀ k, v.ownBlock = some k → w.heap.size ≤ k) ∧ e = .returned (.tuple #[.pointer (some ⟨lb, 0, none⟩), .int .i64 0]) ∧ LgAt w' lb db v ⟨f, l, l.length⟩)) := Lib.hid (fun e w' => by unfold OpenPost; rw [if_neg hf])
    clear hf h
    obtain ⟨t, ht⟩ : ∃ t, (s.read f).1 = t := ⟨_, rfl⟩
    obtain ⟨x, hx⟩ : ∃ x, (s.read f).2 = x := ⟨_, rfl⟩
    rw [ht, hx] at HR HPO
    rw [ht] at hrs
    clear ht hx
    by_cases hx0 : x = 0
    · subst hx0
      have HQ := Lib.hid (fun w => parseP t w (by omega))
      have hpe := parse_ext t
      obtain ⟨r, hr⟩ : ∃ r, parseS t = r := ⟨_, rfl⟩
      rw [hr] at HPO hpe
      simp only [hr] at HQ
      have HPE := Lib.hid hpe
      clear hr hpe
      go_enter Try.func7, Try.ntmps7
      go_wp2_with fail
      refine HR.out.mono ?_; rintro e w2 ⟨rfl, hb⟩
      have HB := Lib.hid hb
      clear hb
      go_wp2_with fail
      refine (HQ.out _).mono ?_
      rintro e w3 hq
      rcases r with _ | l
      · obtain ⟨rfl, hb⟩ := hq
        have HB2 := Lib.hid (HB.out.trans (hb.mono HB.out.size))
        clear hb
        go_wp2_with fail
        go_ret2
        rw [HPO.out]
        exact ⟨HB2.out, by rw [if_neg (fun h => h rfl)]; rfl⟩
      · obtain ⟨v, rfl, hown, hb⟩ := hq
        have HB2 := Lib.hid (HB.out.trans (hb.mono HB.out.size))
        have hl := HPE.out l rfl
        have hlt := World.ownsRow.lt hown
        have hnew : Hid (∀ k, v.ownBlock = some k → w.heap.size ≤ k) := Lib.hid (fun k hk => Nat.le_trans HB.out.size (hlt k hk).1)
        have hne : v.ownBlock ≠ some w3.heap.size := fun e => by have := (hlt _ e).2; omega
        have hown0 : w3.ownsRow 0 9 1 v l.length (sv l) := by
          refine ⟨hown.1, ?_⟩
          rcases hown.2 with h | ⟨k, cap, cur, h1, h2, r⟩
          · exact .inl h
          · exact .inr ⟨k, cap, cur, h1, Nat.zero_le _, r⟩
        obtain ⟨A, cap, rfl⟩ : ∃ A cap, v = .slice A l.length cap := by
          obtain ⟨A, cap, h, _⟩ := Row.of_own hown
          rw [sv_length] at h
          exact ⟨A, cap, h⟩
        have HC := Lib.hid (replaceP (w := w3.alloc (.cells #[.pointer (some ⟨db, 0, none⟩), .int .i64 f, .slice none 0 0, .int .i64 0, .int .i64 0] 59)) (lb := w3.heap.size) (db := db) (f := f) l (Blk.new _ _ _) (World.ownsRow.alloc hown0 _) hne (by omega))
        clear hown hb hlt hown0 hne hl
        go_wp2_with fail
        refine HC.out.mono ?_; rintro e w4 ⟨rfl, h1, h2, h3⟩
        have H1 := Lib.hid h1
        have HB4 : Hid (Below w.heap.size w w4) := Lib.hid (by
          refine (HB2.out.trans ((below_new w3 _).mono HB2.out.size)).trans (h2.to_below ?_ ?_)
          · have := HB2.out.size; simp; omega
          · intro k hk e; have := HB2.out.size; omega)
        clear h1 h2 h3
        go_wp2_with fail
        go_ret2
        rw [HPO.out]
        refine ⟨HB4.out, ?_⟩
        rw [if_neg (fun h => h rfl)]
        exact ⟨_, _, HB2.out.size, hnew.out, rfl, H1.out⟩
    · have k4 : (x != 0) = true := by rw [bne_iff_ne]; exact hx0
      have k5 : (x == 0) = false := by rw [beq_eq_false_iff_ne]; exact hx0
      have HX := Lib.hid hx0
      clear hx0
      go_enter Try.func7, Try.ntmps7
      go_wp2_with fail
      refine HR.out.mono ?_; rintro e w2 ⟨rfl, hb⟩
      have HB := Lib.hid hb
      clear hb
      go_wp2_with fail
      go_ret2
      rw [HPO.out]
      exact ⟨HB.out, by rw [if_pos HX.out]; rfl⟩
end Go.Proofs.Ytognomkhkoiabaa
