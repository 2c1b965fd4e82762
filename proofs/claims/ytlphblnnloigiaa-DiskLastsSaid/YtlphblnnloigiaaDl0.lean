/-
  Layer 6: the calls of one disk, for laws.
-/
import Derived.Test.YtlphblnnloigiaaDf12
namespace Go.Proofs.Ytlphblnnloigiaa
set_option linter.unusedVariables false
set_option linter.unusedSimpArgs false
open Go.RowKit

/-- The disk lies in memory that is newer than w. -/
def Dsk (w wl : World) (d : Nat) (s : Dk) : Prop := DiskAt (fun k => w.heap.size ≤ k) wl d s ∧ Below w.heap.size w wl
theorem Dsk.op {w w1 w2 : World} {d : Nat} {s s' : Dk} (h : Dsk w w1 d s) (o : Op (fun k => w.heap.size ≤ k) w1 w2 d s') : Dsk w w2 d s' := by
  have hs := h.2.size
  refine ⟨o.at_.mono fun k _ hk => ?_, h.2.trans (o.fr.to_below hs fun k hk hl => by omega)⟩
  rcases hk with hk | hk
  · exact hk
  · exact Nat.le_trans hs hk.1
theorem Dsk.below {w w1 w2 : World} {d : Nat} {s : Dk} (h : Dsk w w1 d s) (b : Below w1.heap.size w1 w2) : Dsk w w2 d s := ⟨h.1.below b, h.2.trans (b.mono h.2.size)⟩
theorem Dsk.start {w w' : World} {d : Nat} {s : Dk} (h : DiskAt (fun k => w.heap.size ≤ k ∧ k < w'.heap.size) w' d s) (b : Below w.heap.size w w') : Dsk w w' d s := ⟨h.mono fun k _ hk => hk.1, b⟩
/-- Of a later base. -/
theorem Dsk.base {w w0 w1 : World} {d : Nat} {s : Dk} (h : Dsk w0 w1 d s) (b : Below w.heap.size w w0) : Dsk w w1 d s := ⟨h.1.mono fun k _ hk => Nat.le_trans b.size hk, b.trans (h.2.mono b.size)⟩
theorem Dsk.ok {w w1 : World} {d : Nat} {s : Dk} (h : Dsk w w1 d s) : s.ok := h.1.ok

def WPost (w : World) (d : Nat) (r : Int × Dk) (e : Ending) (w2 : World) : Prop := e = .returned (.int .i64 r.1) ∧ Dsk w w2 d r.2
def UPost (w : World) (d : Nat) (s : Dk) (e : Ending) (w2 : World) : Prop := e = .returned (.tuple #[]) ∧ Dsk w w2 d s
theorem dWrite {w w1 : World} {d : Nat} {s : Dk} (h : Dsk w w1 d s) (f a : Int) (t : ByteArray) (hn : s.pend.length + t.size ≤ 1000000) : Calls Try.prog 17 #[.pointer (some ⟨d, 0, none⟩), .int .i64 f, .int .i64 a, .string t] w1 (WPost w d (s.write f a t)) :=
  (writeP h.1 f a t hn).mono fun _ _ ⟨h1, h2⟩ => ⟨h1, h.op h2⟩
theorem dFlush {w w1 : World} {d : Nat} {s : Dk} (h : Dsk w w1 d s) (f : Int) : Calls Try.prog 18 #[.pointer (some ⟨d, 0, none⟩), .int .i64 f] w1 (WPost w d (s.flush f)) :=
  (flushP h.1 f).mono fun _ _ ⟨h1, h2⟩ => ⟨h1, h.op h2⟩
theorem dCut {w w1 : World} {d : Nat} {s : Dk} (h : Dsk w w1 d s) (f n : Int) : Calls Try.prog 21 #[.pointer (some ⟨d, 0, none⟩), .int .i64 f, .int .i64 n] w1 (WPost w d (s.cut f n)) :=
  (cutPP h.1 f n).mono fun _ _ ⟨h1, h2⟩ => ⟨h1, h.op h2⟩
theorem dTurn {w w1 : World} {d : Nat} {s : Dk} (h : Dsk w w1 d s) (f g : Int) : Calls Try.prog 20 #[.pointer (some ⟨d, 0, none⟩), .int .i64 f, .int .i64 g] w1 (WPost w d (s.turn f g)) :=
  (turnP h.1 f g).mono fun _ _ ⟨h1, h2⟩ => ⟨h1, h.op h2⟩
theorem dCrash {w w1 : World} {d : Nat} {s : Dk} (h : Dsk w w1 d s) (v : Value) (keep : List Int) (hr : IRow w1 w1.heap.size v keep) : Calls Try.prog 14 #[.pointer (some ⟨d, 0, none⟩), v] w1 (UPost w d (s.crash keep)) :=
  (crashP h.1 v keep hr (by obtain ⟨_, cap, _, h1, h2, _⟩ := hr; exact Nat.le_trans h1 h2)).mono fun _ _ ⟨h1, h2⟩ => ⟨h1, h.op h2⟩
theorem dStart {w w1 : World} {d : Nat} {s : Dk} (h : Dsk w w1 d s) : Calls Try.prog 12 #[.pointer (some ⟨d, 0, none⟩)] w1 (UPost w d s.start) :=
  (startP h.1).mono fun _ _ ⟨h1, h2⟩ => ⟨h1, h.op h2⟩
theorem dLose {w w1 : World} {d : Nat} {s : Dk} (h : Dsk w w1 d s) (n : Int) (hn : n ≤ 9223372036854775807) : Calls Try.prog 19 #[.pointer (some ⟨d, 0, none⟩), .int .i64 n] w1 (UPost w d (s.lose n)) :=
  (loseP h.1 n hn).mono fun _ _ ⟨h1, h2⟩ => ⟨h1, h.op h2⟩
theorem dArm {w w1 : World} {d : Nat} {s : Dk} (h : Dsk w w1 d s) (n : Int) (hn : n ≤ 9223372036854775807) (v : Value) (keep : List Int) (hr : IRow w1 w1.heap.size v keep) (hl : keep.length ≤ 1000000) : Calls Try.prog 15 #[.pointer (some ⟨d, 0, none⟩), .int .i64 n, v] w1 (UPost w d (s.arm n keep)) :=
  (armP h.1 n hn v keep hr hl).mono fun _ _ ⟨h1, h2⟩ => ⟨h1, h.op h2⟩
theorem dRead {w w1 : World} {d : Nat} {s : Dk} (h : Dsk w w1 d s) (f : Int) : Calls Try.prog 10 #[.pointer (some ⟨d, 0, none⟩), .int .i64 f] w1 fun e w2 => e = .returned (.tuple #[.string (s.read f).1, .int .i64 (s.read f).2]) ∧ Dsk w w2 d s :=
  (readP h.1 f).mono fun _ _ ⟨h1, h2⟩ => ⟨h1, h.below h2⟩
theorem dSize {w w1 : World} {d : Nat} {s : Dk} (h : Dsk w w1 d s) (f : Int) : Calls Try.prog 16 #[.pointer (some ⟨d, 0, none⟩), .int .i64 f] w1 fun e w2 => e = .returned (.int .i64 (s.size f)) ∧ Dsk w w2 d s :=
  (sizeP h.1 f).mono fun _ _ ⟨h1, h2⟩ => ⟨h1, h.below h2⟩
theorem dDown {w w1 : World} {d : Nat} {s : Dk} (h : Dsk w w1 d s) : Calls Try.prog 7 #[.pointer (some ⟨d, 0, none⟩)] w1 fun e w2 => e = .returned (.bool s.down) ∧ w1 = w2 := downP h.1
def DNew (w : World) (s : Dk) (e : Ending) (w2 : World) : Prop := ∃ c, e = .returned (.pointer (some ⟨c, 0, none⟩)) ∧ Dsk w w2 c s
theorem dNew (w : World) : Calls Try.prog 5 #[] w (DNew w dk0) :=
  (newP w).mono fun _ _ ⟨c, h1, _, h3, h4⟩ => ⟨c, h1, Dsk.start h3 h4⟩
end Go.Proofs.Ytlphblnnloigiaa
