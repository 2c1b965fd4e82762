/-
  Layer 6: the law DiskLasts' relations.
-/
import Derived.Test.YtlphblnnloigiaaDls
import Derived.Test.YtlphblnnloigiaaDoa
namespace Go.Proofs.Ytlphblnnloigiaa
set_option linter.unusedVariables false
set_option linter.unusedSimpArgs false
open Go.RowKit

/-- Behind an operation: the machine has gone down, or it has not. -/
def FinP (s s1 : Dk) (sf : List ByteArray) (S : List Ae) : Prop :=
  (s.down = false ∧ s1.down = true ∧ sf = s.dur ∧ (∀ f, f < 8 → HereOk (s1.d f) (s.d f) S f) ∧ s1.pend = [] ∧ s1.dur.length = 8 ∧ ∀ y ∈ S, 0 ≤ y.a.n ∧ y.a.n ≤ 4000) ∨
  ((s.down = true ∨ s1.down = false) ∧ sf = s1.dur ∧ Inv s1 S ∧ (s1.down = true → s1.pend = [] ∧ S = []))
def PostP (s : Dk) (since : List Ae) (x : Ae) (R : ByteArray) (E : Int) (s1 : Dk) : Prop :=
  (x.a.o % 11 = 4 ∧ E = 0 ∧ s.down = false ∧ sin1 s since x = since ∧ ∃ F G, OutTurn s since x (R, E, s1) F G) ∨
  ((x.a.o % 11 = 2 ∨ x.a.o % 11 = 3) ∧ E = 0 ∧ s.down = false ∧ sin1 s since x = since ∧ ∃ F B, OutSet s since x (R, E, s1) F B) ∨
  ((cares x → E ≠ 0) ∧ FinP s s1 s.dur (sin1 s since x))
theorem post_of {s : Dk} {since : List Ae} (x : Ae) (hI : Inv s since) (hdn : s.down = true → s.pend = [] ∧ since = []) (hok : okN x.a = true) : PostP s since x (s.act x.a).1 (s.act x.a).2.1 (s.act x.a).2.2 := by
  rcases hd : s.down
  · rcases step_up x hI hd hok with h | ⟨F, B, h⟩ | ⟨F, G, h⟩ | h
    · exact .inr (.inr ⟨h.er, .inl ⟨hd, h.dn, rfl, h.here, h.pd, h.dl, h.rng⟩⟩)
    · have hk := h.k
      exact .inr (.inl ⟨hk, h.er, hd, sin1_no (by omega), F, B, h⟩)
    · have hk := h.k
      exact .inl ⟨hk, h.er, hd, sin1_no (by omega), F, G, h⟩
    · exact .inr (.inr ⟨h.er, .inr ⟨.inr h.dn, h.du.symm, h.iv, fun g => by rw [h.dn] at g; cases g⟩⟩)
  · obtain ⟨hp, hs⟩ := hdn hd
    obtain ⟨h1, h2, h3⟩ := step_down x hd hp
    have e : sin1 s since x = [] := by unfold sin1; rw [if_neg (by rw [hd]; simp), hs]
    refine .inr (.inr ⟨h3, .inr ⟨.inl hd, h1.symm, ?_, fun _ => ⟨h2, e⟩⟩⟩)
    rw [e]
    exact ⟨fun p hp => (by rw [h2] at hp; cases hp), fun y hy => (by cases hy), by rw [h1]; exact hI.dl⟩
theorem sin1_len (s : Dk) (since : List Ae) (x : Ae) : (sin1 s since x).length ≤ since.length + 1 := by
  unfold sin1
  split
  · simp
  · omega
theorem wo_len (since : List Ae) (f : Nat) : (wo since f).length ≤ since.length := List.length_filter_le _ _
def CondA (s : Dk) (a : Ac) (K : Int) : Prop := K ≤ 1 ∧ s.down = false ∧ 0 ≤ a.n ∧ a.n < 4000
def CondC (K E : Int) : Prop := (K = 2 ∨ K = 3) ∧ E = 0
def CondD (K E : Int) : Prop := K = 4 ∧ E = 0
/-- A test's Bool. -/
def BR (C : Prop) (W1 : World) (bv : Value) (wl : World) : Prop := ∃ b : Bool, bv = .bool b ∧ (b = true → C) ∧ (b = false → ¬ C) ∧ wl = W1
theorem BR.yes {C : Prop} {W1 : World} (h : C) : BR C W1 (.bool true) W1 := ⟨true, rfl, fun _ => h, (fun h => by cases h), rfl⟩
theorem BR.no {C : Prop} {W1 : World} (h : ¬ C) : BR C W1 (.bool false) W1 := ⟨false, rfl, (fun h => by cases h), fun _ => h, rfl⟩
def AppR (X : List Prot) (W : World) (d gS : Nat) (s : Dk) (S : List Ae) (xv : Value) (wl : World) : Prop := LS X W wl d gS s s.dur xv S
def CR (X : List Prot) (W : World) (d gS n : Nat) (s s1 : Dk) (since : List Ae) (T : Prop) (xv : Value) (wl : World) : Prop := ∃ (sf : List ByteArray) (S : List Ae), LS X W wl d gS s1 sf xv S ∧ S.length ≤ n ∧ ((T ∧ sf = s.dur ∧ S = since) ∨ (¬ T ∧ FinP s s1 sf S))
def DR (X : List Prot) (W : World) (d gS n : Nat) (s s1 : Dk) (xv : Value) (wl : World) : Prop := ∃ (sf : List ByteArray) (S : List Ae), LS X W wl d gS s1 sf xv S ∧ S.length ≤ n ∧ FinP s s1 sf S
def LoR (W : World) (d gS : Nat) (l : List Ac) (q : Nat) (x i : Value) (wl : World) : Prop := ∃ (k : Nat) (s : Dk) (since : List Ae), i = .int .i64 k ∧ k ≤ l.length ∧ q = l.length - k ∧ LS [] W wl d gS s s.dur x since ∧ Inv s since ∧ (s.down = true → s.pend = [] ∧ since = []) ∧ s.pend.length ≤ tot (l.take k) ∧ since.length ≤ k
end Go.Proofs.Ytlphblnnloigiaa
