/-
  Layer 7: a disk and the reference's disk, apart in new memory.
  Layer 7: the log's calls, and the reference's, on both logs with their disks.
  Layer 7: both Opens, crashes and readings on both logs with their disks.
  Layer 7: the deeds on both logs, with the deed's own box.
-/
import Derived.Test.YthdmcjiccbgknaaZRe
import Derived.Test.YthdmcjiccbgknaaDp
import Derived.Test.YthdmcjiccbgknaaZJd
import Derived.Test.YthdmcjiccbgknaaZJc
import Derived.Test.YthdmcjiccbgknaaJ11
namespace Go.Proofs.Ythdmcjiccbgknaa
set_option linter.unusedVariables false
set_option linter.unusedSimpArgs false
open Go.RowKit

def TR (W w : World) (d x : Nat) (s r : Dk) : Prop := ∃ Bd Bx : Nat → Prop, DiskAt Bd w d s ∧ RefAt Bx w x r ∧ (∀ k, Bd k → ¬ Bx k) ∧ (∀ k, Bd k → W.heap.size ≤ k ∧ k < w.heap.size) ∧ (∀ k, Bx k → W.heap.size ≤ k ∧ k < w.heap.size) ∧ Below W.heap.size W w
theorem TR.bel {W w : World} {d x : Nat} {s r : Dk} (h : TR W w d x s r) : Below W.heap.size W w := by obtain ⟨_, _, _, _, _, _, _, h⟩ := h; exact h
theorem TR.below {W w w2 : World} {d x : Nat} {s r : Dk} (h : TR W w d x s r) (b : Below w.heap.size w w2) : TR W w2 d x s r := by
  obtain ⟨Bd, Bx, h1, h2, h3, h4, h5, h6⟩ := h
  exact ⟨Bd, Bx, h1.below b, h2.below b, h3, fun k hk => ⟨(h4 k hk).1, Nat.lt_of_lt_of_le (h4 k hk).2 b.size⟩, fun k hk => ⟨(h5 k hk).1, Nat.lt_of_lt_of_le (h5 k hk).2 b.size⟩, h6.trans (b.mono h6.size)⟩
theorem TR.drew {W w : World} {d x : Nat} {s r : Dk} (h : TR W w d x s r) : TR W w.drew d x s r := h.below ⟨rfl, rfl, rfl, Nat.le_refl _, fun _ _ => rfl⟩
theorem TR.xlo {W w : World} {d x : Nat} {s r : Dk} (h : TR W w d x s r) : W.heap.size ≤ x := by
  obtain ⟨Bd, Bx, h1, h2, h3, h4, h5, h6⟩ := h
  obtain ⟨_, _, _, _, hb⟩ := h2
  exact (h5 x hb.b0).1
theorem call_trd {F : FuncId} {args : Array Value} {W w1 : World} {d x : Nat} {s s' r : Dk} {v : Value} (h : TR W w1 d x s r) (hc : ∀ B, DiskAt B w1 d s → Calls Try.prog F args w1 fun e w2 => e = .returned v ∧ Op B w1 w2 d s') : Calls Try.prog F args w1 fun e w2 => e = .returned v ∧ TR W w2 d x s' r := by
  obtain ⟨Bd, Bc, h1, h2, h3, h4, h5, h6⟩ := h
  refine (hc Bd h1).mono ?_
  rintro e w2 ⟨he, hop⟩
  refine ⟨he, ?_⟩
  have hs := hop.fr.size
  refine ⟨_, Bc, hop.at_, h2.fr hop.fr (fun k hk hc hd => h3 k hd hc), ?_, ?_, fun k hk => ⟨(h5 k hk).1, Nat.lt_of_lt_of_le (h5 k hk).2 hs⟩, h6.trans (hop.fr.to_below h6.size fun k hk hd => by have := (h4 k hd).1; omega)⟩
  · intro k hk hc
    rcases hk with hk | hk
    · exact h3 k hk hc
    · have := (h5 k hc).2; omega
  · intro k hk
    rcases hk with hk | hk
    · exact ⟨(h4 k hk).1, Nat.lt_of_lt_of_le (h4 k hk).2 hs⟩
    · exact ⟨Nat.le_trans h6.size hk.1, hk.2⟩
theorem call_trx {F : FuncId} {args : Array Value} {W w1 : World} {d x : Nat} {s r r' : Dk} {v : Value} (h : TR W w1 d x s r) (hc : ∀ B, RefAt B w1 x r → Calls Try.prog F args w1 fun e w2 => e = .returned v ∧ ROp B w1 w2 x r') : Calls Try.prog F args w1 fun e w2 => e = .returned v ∧ TR W w2 d x s r' := by
  obtain ⟨Bc, Bd, h2, h1, h3, h5, h4, h6⟩ := h
  refine (hc Bd h1).mono ?_
  rintro e w2 ⟨he, hop⟩
  refine ⟨he, ?_⟩
  have hs := hop.fr.size
  refine ⟨Bc, _, h2.fr hop.fr (fun k hk hc hd => h3 k hc hd), hop.at_, ?_, fun k hk => ⟨(h5 k hk).1, Nat.lt_of_lt_of_le (h5 k hk).2 hs⟩, ?_, h6.trans (hop.fr.to_below h6.size fun k hk hd => by have := (h4 k hd).1; omega)⟩
  · intro k hc hk
    rcases hk with hk | hk
    · exact h3 k hc hk
    · have := (h5 k hc).2; omega
  · intro k hk
    rcases hk with hk | hk
    · exact ⟨(h4 k hk).1, Nat.lt_of_lt_of_le (h4 k hk).2 hs⟩
    · exact ⟨Nat.le_trans h6.size hk.1, hk.2⟩
def CopyX (W : World) (d : Nat) (s r : Dk) (e : Ending) (w2 : World) : Prop := ∃ c, e = .returned (.pointer (some ⟨c, 0, none⟩)) ∧ TR W w2 d c s r
theorem newX {W w1 : World} {d : Nat} {s : Dk} (h : Dsk W w1 d s) : Calls Try.prog 11 #[] w1 (CopyX W d s dk0) := by
  have ht := h.1.tight
  refine (newR w1).mono fun e w2 ⟨c, he, hc, hb⟩ => ⟨c, he, fun k => W.heap.size ≤ k ∧ k < w1.heap.size, _, (h.1.tight).below hb, hc, fun k a b => by omega, fun k hk => ⟨hk.1, Nat.lt_of_lt_of_le hk.2 hb.size⟩, fun k hk => ⟨Nat.le_trans h.2.size hk.1, hk.2⟩, h.2.trans (hb.mono h.2.size)⟩
theorem startT {W w1 : World} {d x : Nat} {s r : Dk} (h : TR W w1 d x s r) : Calls Try.prog 20 #[.pointer (some ⟨d, 0, none⟩)] w1 fun e w2 => e = .returned (.tuple #[]) ∧ TR W w2 d x s.start r := call_trd h fun B hB => startP hB
theorem startX {W w1 : World} {d x : Nat} {s r : Dk} (h : TR W w1 d x s r) : Calls Try.prog 21 #[.pointer (some ⟨x, 0, none⟩)] w1 fun e w2 => e = .returned (.tuple #[]) ∧ TR W w2 d x s r.start := call_trx h fun B hB => startR hB
theorem readT {W w1 : World} {d x : Nat} {s r : Dk} (h : TR W w1 d x s r) (f : Int) : Calls Try.prog 27 #[.pointer (some ⟨d, 0, none⟩), .int .i64 f] w1 fun e w2 => e = .returned (.tuple #[.string (s.read f).1, .int .i64 (s.read f).2]) ∧ TR W w2 d x s r := call_trd h fun B hB => (readP hB f).mono fun e w2 ⟨h1, h2⟩ => ⟨h1, (Op.refl hB).below h2⟩
theorem readX {W w1 : World} {d x : Nat} {s r : Dk} (h : TR W w1 d x s r) (f : Int) : Calls Try.prog 28 #[.pointer (some ⟨x, 0, none⟩), .int .i64 f] w1 fun e w2 => e = .returned (.tuple #[.string (r.read f).1, .int .i64 (r.read f).2]) ∧ TR W w2 d x s r := call_trx h fun B hB => (ReadR hB f).mono fun e w2 ⟨h1, h2⟩ => ⟨h1, (ROp.refl hB).below h2⟩
end Go.Proofs.Ythdmcjiccbgknaa

namespace Go.Proofs.Ythdmcjiccbgknaa
set_option linter.unusedVariables false
set_option linter.unusedSimpArgs false
open Go.RowKit

theorem TL.drew {W w : World} {lb db lr dr : Nat} {vl vr : Value} {g g' : Lg} {s r : Dk} (h : TL W w lb db vl g s lr dr vr g' r) : TL W w.drew lb db vl g s lr dr vr g' r := h.below ⟨rfl, rfl, rfl, Nat.le_refl _, fun _ _ => rfl⟩
def TLp (W : World) (lb db : Nat) (q : Int × Lg × Dk) (lr dr : Nat) (vr : Value) (g' : Lg) (r : Dk) (e : Ending) (w2 : World) : Prop := e = .returned (.int .i64 q.1) ∧ ∃ v, TL W w2 lb db v q.2.1 q.2.2 lr dr vr g' r
def TRp (W : World) (lb db : Nat) (v : Value) (g : Lg) (s : Dk) (lr dr : Nat) (q : Int × Lg × Dk) (e : Ending) (w2 : World) : Prop := e = .returned (.int .i64 q.1) ∧ ∃ vr, TL W w2 lb db v g s lr dr vr q.2.1 q.2.2
def TUp (W : World) (lb db : Nat) (v : Value) (g : Lg) (s : Dk) (lr dr : Nat) (vr : Value) (g' : Lg) (r : Dk) (e : Ending) (w2 : World) : Prop := e = .returned (.tuple #[]) ∧ TL W w2 lb db v g s lr dr vr g' r
section
variable {W w : World} {lb db lr dr : Nat} {vl vr : Value} {g g' : Lg} {s r : Dk}
theorem qAppend (h : TL W w lb db vl g s lr dr vr g' r) (row : ByteArray) (hx : ext (g.rows ++ [row]) ≤ 1000000000) (hn : s.pend.length + 8 + row.size ≤ 1000000) :
    Calls Try.prog 25 #[.pointer (some ⟨lb, 0, none⟩), .string row] w (TLp W lb db (g.append s row) lr dr vr g' r) := by
  obtain ⟨B, C, h1, h2, h3, h4, h5, h6⟩ := h
  exact (appendP h1 row hx hn).mono fun e w2 ⟨a, v, o⟩ => ⟨a, v, TL.left B C h2 h3 h4 h5 h6 o⟩
theorem qAppendR (h : TL W w lb db vl g s lr dr vr g' r) (row : ByteArray) (hx : ext (g'.rows ++ [row]) ≤ 1000000000) (hn : r.pend.length + 8 + row.size ≤ 1000000) :
    Calls Try.prog 26 #[.pointer (some ⟨lr, 0, none⟩), .string row] w (TRp W lb db vl g s lr dr (g'.rappend r row)) := by
  obtain ⟨B, C, h1, h2, h3, h4, h5, h6⟩ := h
  exact (rAppendP h2 row hx hn).mono fun e w2 ⟨a, v, o⟩ => ⟨a, v, TL.right B C h1 h3 h4 h5 h6 o⟩
theorem qFlush (h : TL W w lb db vl g s lr dr vr g' r) (hx : ext g.rows ≤ 1000000000) (hp : s.pend.length + 16 ≤ 1000000) (hsu : g.sure ≤ 1000000000) :
    Calls Try.prog 14 #[.pointer (some ⟨lb, 0, none⟩)] w (TLp W lb db (g.flush s) lr dr vr g' r) := by
  obtain ⟨B, C, h1, h2, h3, h4, h5, h6⟩ := h
  exact (flushP' h1 hx hp hsu).mono fun e w2 ⟨a, o⟩ => ⟨a, vl, TL.left B C h2 h3 h4 h5 h6 o⟩
theorem qFlushR (h : TL W w lb db vl g s lr dr vr g' r) (hx : ext g'.rows ≤ 1000000000) (hp : r.pend.length + 16 ≤ 1000000) (hps : ∀ s', r.rflush g'.file = (0, s') → s'.pend.length + 16 ≤ 1000000) (hsu : g'.sure ≤ 1000000000) :
    Calls Try.prog 15 #[.pointer (some ⟨lr, 0, none⟩)] w (TRp W lb db vl g s lr dr (g'.rflush r)) := by
  obtain ⟨B, C, h1, h2, h3, h4, h5, h6⟩ := h
  exact (rFlushP h2 hx hp hps hsu).mono fun e w2 ⟨a, o⟩ => ⟨a, vr, TL.right B C h1 h3 h4 h5 h6 o⟩
theorem qRewrite (h : TL W w lb db vl g s lr dr vr g' r) (u : Value) (l : List ByteArray) (hr : Row W W.heap.size u (sv l)) (hf : 0 ≤ g.file ∧ g.file ≤ 6) (hx : ext l ≤ 900000) (hp : s.pend.length + ext l ≤ 1000000) :
    Calls Try.prog 16 #[.pointer (some ⟨lb, 0, none⟩), u] w (TLp W lb db (g.rewrite s l) lr dr vr g' r) := by
  obtain ⟨B, C, h1, h2, h3, h4, h5, h6⟩ := h
  refine (rewriteP h1 u l (fun w' v' s' o => row_heap hr h6 (fun k hk => ?_) o.fr.size) hf hx hp).mono fun e w2 ⟨a, v, o⟩ => ⟨a, v, TL.left B C h2 h3 h4 h5 h6 o⟩
  have := h6.size
  exact o.fr.block k (by omega) fun hb => by have := (h4 k hb.1).1; omega
theorem qRewriteR (h : TL W w lb db vl g s lr dr vr g' r) (u : Value) (l : List ByteArray) (hr : Row W W.heap.size u (sv l)) (hf : 0 ≤ g'.file ∧ g'.file ≤ 6) (hx : ext l ≤ 900000) (hps : ∀ s', r.rcut (g'.file + 1) 0 = (0, s') → s'.pend.length + ext l ≤ 1000000) :
    Calls Try.prog 17 #[.pointer (some ⟨lr, 0, none⟩), u] w (TRp W lb db vl g s lr dr (g'.rrewrite r l)) := by
  obtain ⟨B, C, h1, h2, h3, h4, h5, h6⟩ := h
  refine (rRewriteP h2 u l (fun w' v' s' o => row_heap hr h6 (fun k hk => ?_) o.fr.size) hf hx hps).mono fun e w2 ⟨a, v, o⟩ => ⟨a, v, TL.right B C h1 h3 h4 h5 h6 o⟩
  have := h6.size
  exact o.fr.block k (by omega) fun hb => by have := (h5 k hb).1; omega
theorem qCrash (h : TL W w lb db vl g s lr dr vr g' r) (u : Value) (keep : List Int) (hr : IRow w w.heap.size u keep) (hl : keep.length ≤ maxLen) :
    Calls Try.prog 18 #[.pointer (some ⟨db, 0, none⟩), u] w (TUp W lb db vl g (s.crash keep) lr dr vr g' r) := by
  obtain ⟨B, C, h1, h2, h3, h4, h5, h6⟩ := h
  exact (call_ld h1 fun Bd hB => crashP hB u keep hr hl).mono fun e w2 ⟨a, o⟩ => ⟨a, TL.left B C h2 h3 h4 h5 h6 o⟩
theorem qStart (h : TL W w lb db vl g s lr dr vr g' r) :
    Calls Try.prog 20 #[.pointer (some ⟨db, 0, none⟩)] w (TUp W lb db vl g s.start lr dr vr g' r) := by
  obtain ⟨B, C, h1, h2, h3, h4, h5, h6⟩ := h
  exact (call_ld h1 fun Bd hB => startP hB).mono fun e w2 ⟨a, o⟩ => ⟨a, TL.left B C h2 h3 h4 h5 h6 o⟩
theorem qLose (h : TL W w lb db vl g s lr dr vr g' r) (n : Int) (hn : n ≤ 9223372036854775807) :
    Calls Try.prog 22 #[.pointer (some ⟨db, 0, none⟩), .int .i64 n] w (TUp W lb db vl g (s.lose n) lr dr vr g' r) := by
  obtain ⟨B, C, h1, h2, h3, h4, h5, h6⟩ := h
  exact (call_ld h1 fun Bd hB => loseP hB n hn).mono fun e w2 ⟨a, o⟩ => ⟨a, TL.left B C h2 h3 h4 h5 h6 o⟩
theorem qStartR (h : TL W w lb db vl g s lr dr vr g' r) :
    Calls Try.prog 21 #[.pointer (some ⟨dr, 0, none⟩)] w (TUp W lb db vl g s lr dr vr g' r.start) := by
  obtain ⟨B, C, h1, h2, h3, h4, h5, h6⟩ := h
  exact (call_rd h2 fun Bd hB => startR hB).mono fun e w2 ⟨a, o⟩ => ⟨a, TL.right B C h1 h3 h4 h5 h6 o⟩
theorem qLoseR (h : TL W w lb db vl g s lr dr vr g' r) (n : Int) (hn : n ≤ 9223372036854775807) :
    Calls Try.prog 24 #[.pointer (some ⟨dr, 0, none⟩), .int .i64 n] w (TUp W lb db vl g s lr dr vr g' (r.lose n)) := by
  obtain ⟨B, C, h1, h2, h3, h4, h5, h6⟩ := h
  exact (call_rd h2 fun Bd hB => loseR hB n hn).mono fun e w2 ⟨a, o⟩ => ⟨a, TL.right B C h1 h3 h4 h5 h6 o⟩
/-- The two disks alone: the logs are dropped. -/
theorem TL.dsks (h : TL W w lb db vl g s lr dr vr g' r) : TR W w db dr s r := by
  obtain ⟨B, C, ⟨Bd, a1, a2, a3, a4, a5, a6⟩, ⟨Bc, b1, b2, b3, b4, b5, b6⟩, h3, h4, h5, h6⟩ := h
  refine ⟨_, _, a1.tight, b1.mono (C := fun k => Bc k ∧ k < w.heap.size) (fun k hk hb => ⟨hb, hk⟩), fun k hk hc => h3 k (a5 k hk.2 hk.1) (b5 k hc.2 hc.1), fun k hk => ⟨(h4 k (a5 k hk.2 hk.1)).1, hk.2⟩, fun k hk => ⟨(h5 k (b5 k hk.2 hk.1)).1, hk.2⟩, h6⟩
end
end Go.Proofs.Ythdmcjiccbgknaa

namespace Go.Proofs.Ythdmcjiccbgknaa
set_option linter.unusedVariables false
set_option linter.unusedSimpArgs false
open Go.RowKit

def opn (s : Dk) (f : Int) : Int × Option Lg := if (s.read f).2 ≠ 0 then ((s.read f).2, none) else match parseS (s.read f).1 with | none => (2, none) | some l => (0, some ⟨f, l, l.length⟩)
theorem opn_wk (s : Dk) (K : List Int) (f : Int) : opn (s.wk K) f = opn s f := rfl
theorem read_le {s : Dk} (h : s.ok) (f : Int) : (s.read f).1.size ≤ 16777216 := by
  unfold Dk.read
  split
  · simp [bs_size]
  · exact h.bytes_le _
theorem opn_some {s : Dk} (h : s.ok) {f c : Int} {g : Lg} (ho : opn s f = (c, some g)) : c = 0 ∧ g.file = f ∧ ext g.rows ≤ 16777300 ∧ g.sure ≤ 1000000000 := by
  have hr := read_le h f
  unfold opn at ho
  split at ho
  · simp at ho
  · split at ho
    · simp at ho
    · rename_i l hl
      have := parse_ext _ l hl
      have hx := ext_len l
      obtain ⟨rfl, rfl⟩ := by simpa using ho
      exact ⟨rfl, rfl, by simp only; omega, by simp only; omega⟩
/-- The program's log beside both disks. -/
def HL (W w : World) (lb db : Nat) (vl : Value) (g : Lg) (s : Dk) (dr : Nat) (r : Dk) : Prop := ∃ B C : Nat → Prop, LD B w lb db vl g s ∧ RefAt C w dr r ∧ (∀ k, B k → ¬ C k) ∧ (∀ k, B k → W.heap.size ≤ k ∧ k < w.heap.size) ∧ (∀ k, C k → W.heap.size ≤ k ∧ k < w.heap.size) ∧ Below W.heap.size W w
def OPo (W : World) (db dr : Nat) (c : Int) (s r : Dk) : Option Lg → Ending → World → Prop
  | none, e, w2 => e = .returned (.tuple #[.pointer none, .int .i64 c]) ∧ TR W w2 db dr s r
  | some g, e, w2 => ∃ lb v, e = .returned (.tuple #[.pointer (some ⟨lb, 0, none⟩), .int .i64 c]) ∧ HL W w2 lb db v g s dr r
section
variable {W w : World} {lb db lr dr : Nat} {vl vr : Value} {g g' : Lg} {s r : Dk}
theorem oOpen (h : TR W w db dr s r) (f : Int) (hf : 0 ≤ f ∧ f ≤ 6) {c : Int} {o : Option Lg} (ho : opn s f = (c, o)) :
    Calls Try.prog 12 #[.pointer (some ⟨db, 0, none⟩), .int .i64 f] w (OPo W db dr c s r o) := by
  have h0 := h
  obtain ⟨Bd, Bx, h1, h2, h3, h4, h5, h6⟩ := h
  have hr := read_le h1.ok f
  refine (openP h1 f (by omega)).mono ?_
  rintro e w2 ⟨hb, hp⟩
  rw [if_neg (by omega)] at hp
  unfold opn at ho
  have hs := h6.size
  by_cases hz : (s.read f).2 ≠ 0
  · rw [if_pos hz] at hp ho
    obtain ⟨rfl, rfl⟩ := by simpa using ho
    exact ⟨hp, h0.below hb⟩
  · rw [if_neg hz] at hp ho
    rcases hq : parseS (s.read f).1 with _ | l
    · simp only [hq] at hp ho
      obtain ⟨rfl, rfl⟩ := by simpa using ho
      exact ⟨hp, h0.below hb⟩
    · simp only [hq] at hp ho
      obtain ⟨rfl, rfl⟩ := by simpa using ho
      obtain ⟨lb, v, k1, k2, he, k3⟩ := hp
      have hlb := k3.bx.lt
      refine ⟨lb, v, he, (fun k => Bd k ∨ w.heap.size ≤ k ∧ k < w2.heap.size), Bx, ⟨Bd, h1.below hb, k3, fun hx => by have := (h4 lb hx).2; omega, fun k hk => ⟨fun hx => by have := (h4 k hx).2; have := k2 k hk; omega, .inr ⟨k2 k hk, k3.vlt k hk⟩⟩, fun k _ hx => .inl hx, .inr ⟨k1, hlb⟩⟩, h2.below hb, ?_, ?_, fun k hk => ⟨(h5 k hk).1, Nat.lt_of_lt_of_le (h5 k hk).2 hb.size⟩, h6.trans (hb.mono hs)⟩
      · intro k hk hc
        rcases hk with hk | hk
        · exact h3 k hk hc
        · have := (h5 k hc).2; omega
      · intro k hk
        rcases hk with hk | hk
        · exact ⟨(h4 k hk).1, Nat.lt_of_lt_of_le (h4 k hk).2 hb.size⟩
        · exact ⟨Nat.le_trans hs hk.1, hk.2⟩
theorem oOpenN (h : TR W w db dr s r) (f : Int) (hf : 0 ≤ f ∧ f ≤ 6) {c : Int} (ho : opn r f = (c, none)) :
    Calls Try.prog 13 #[.pointer (some ⟨dr, 0, none⟩), .int .i64 f] w fun e w2 => e = .returned (.tuple #[.pointer none, .int .i64 c]) ∧ TR W w2 db dr s r := by
  have h0 := h
  obtain ⟨Bd, Bx, h1, h2, h3, h4, h5, h6⟩ := h
  have hr := read_le h2.ok f
  refine (rOpenP h2 f (by omega)).mono ?_
  rintro e w2 ⟨hb, hp⟩
  rw [if_neg (by omega)] at hp
  unfold opn at ho
  by_cases hz : (r.read f).2 ≠ 0
  · rw [if_pos hz] at hp ho
    obtain rfl := by simpa using ho
    exact ⟨hp, h0.below hb⟩
  · rw [if_neg hz] at hp ho
    rcases hq : parseS (r.read f).1 with _ | l
    · simp only [hq] at hp ho
      obtain rfl := by simpa using ho
      exact ⟨hp, h0.below hb⟩
    · simp [hq] at ho
def OPr (W : World) (lb db : Nat) (vl : Value) (g : Lg) (s : Dk) (dr : Nat) (c : Int) (g' : Lg) (r : Dk) (e : Ending) (w2 : World) : Prop := ∃ lr vr, e = .returned (.tuple #[.pointer (some ⟨lr, 0, none⟩), .int .i64 c]) ∧ TL W w2 lb db vl g s lr dr vr g' r
theorem oOpenS (h : HL W w lb db vl g s dr r) (f : Int) (hf : 0 ≤ f ∧ f ≤ 6) {c : Int} (ho : opn r f = (c, some g')) :
    Calls Try.prog 13 #[.pointer (some ⟨dr, 0, none⟩), .int .i64 f] w (OPr W lb db vl g s dr c g' r) := by
  obtain ⟨B, Bx, h1, h2, h3, h4, h5, h6⟩ := h
  have hr := read_le h2.ok f
  refine (rOpenP h2 f (by omega)).mono ?_
  rintro e w2 ⟨hb, hp⟩
  rw [if_neg (by omega)] at hp
  unfold opn at ho
  have hs := h6.size
  by_cases hz : (r.read f).2 ≠ 0
  · simp [hz] at ho
  · rw [if_neg hz] at hp ho
    rcases hq : parseS (r.read f).1 with _ | l
    · simp [hq] at ho
    · simp only [hq] at hp ho
      obtain ⟨rfl, rfl⟩ := by simpa using ho
      obtain ⟨lr, v, k1, k2, he, k3⟩ := hp
      have hlb := k3.bx.lt
      refine ⟨lr, v, he, B, (fun k => Bx k ∨ w.heap.size ≤ k ∧ k < w2.heap.size), h1.below hb, ⟨Bx, h2.below hb, k3, fun hx => by have := (h5 lr hx).2; omega, fun k hk => ⟨fun hx => by have := (h5 k hx).2; have := k2 k hk; omega, .inr ⟨k2 k hk, k3.vlt k hk⟩⟩, fun k _ hx => .inl hx, .inr ⟨k1, hlb⟩⟩, ?_, fun k hk => ⟨(h4 k hk).1, Nat.lt_of_lt_of_le (h4 k hk).2 hb.size⟩, ?_, h6.trans (hb.mono hs)⟩
      · intro k hk hc
        rcases hc with hc | hc
        · exact h3 k hk hc
        · have := (h4 k hk).2; omega
      · intro k hk
        rcases hk with hk | hk
        · exact ⟨(h5 k hk).1, Nat.lt_of_lt_of_le (h5 k hk).2 hb.size⟩
        · exact ⟨Nat.le_trans hs hk.1, hk.2⟩
/-- A file that no log has. -/
theorem oBad (h : TR W w db dr s r) (f : Int) (hf : f < 0 ∨ 6 < f) : Calls Try.prog 12 #[.pointer (some ⟨db, 0, none⟩), .int .i64 f] w fun e w2 => e = .returned (.tuple #[.pointer none, .int .i64 1]) ∧ TR W w2 db dr s r := by
  have h0 := h
  obtain ⟨Bd, Bx, h1, h2, h3, h4, h5, h6⟩ := h
  have hr := read_le h1.ok f
  refine (openP h1 f (by omega)).mono ?_
  rintro e w2 ⟨hb, hp⟩
  rw [if_pos hf] at hp
  exact ⟨hp, h0.below hb⟩
theorem oBadR (h : TR W w db dr s r) (f : Int) (hf : f < 0 ∨ 6 < f) : Calls Try.prog 13 #[.pointer (some ⟨dr, 0, none⟩), .int .i64 f] w fun e w2 => e = .returned (.tuple #[.pointer none, .int .i64 1]) ∧ TR W w2 db dr s r := by
  have h0 := h
  obtain ⟨Bd, Bx, h1, h2, h3, h4, h5, h6⟩ := h
  have hr := read_le h2.ok f
  refine (rOpenP h2 f (by omega)).mono ?_
  rintro e w2 ⟨hb, hp⟩
  rw [if_pos hf] at hp
  exact ⟨hp, h0.below hb⟩
theorem qRead (h : TL W w lb db vl g s lr dr vr g' r) (f : Int) : Calls Try.prog 27 #[.pointer (some ⟨db, 0, none⟩), .int .i64 f] w fun e w2 => e = .returned (.tuple #[.string (s.read f).1, .int .i64 (s.read f).2]) ∧ TL W w2 lb db vl g s lr dr vr g' r := by
  have h0 := h
  obtain ⟨B, C, ⟨Bd, a1, _⟩, _⟩ := h
  exact (readP a1 f).mono fun e w2 ⟨a, b⟩ => ⟨a, h0.below b⟩
theorem qReadR (h : TL W w lb db vl g s lr dr vr g' r) (f : Int) : Calls Try.prog 28 #[.pointer (some ⟨dr, 0, none⟩), .int .i64 f] w fun e w2 => e = .returned (.tuple #[.string (r.read f).1, .int .i64 (r.read f).2]) ∧ TL W w2 lb db vl g s lr dr vr g' r := by
  have h0 := h
  obtain ⟨B, C, _, ⟨Bd, a1, _⟩, _⟩ := h
  exact (ReadR a1 f).mono fun e w2 ⟨a, b⟩ => ⟨a, h0.below b⟩
theorem TL.dlo (h : TL W w lb db vl g s lr dr vr g' r) : W.heap.size ≤ dr := h.dsks.xlo
theorem qCrashR (h : TL W w lb db vl g s lr dr vr g' r) (u : Value) (keep : List Int) (hr : IRow w w.heap.size u keep) (hold : keep ≠ [] → ∀ k, u.ownBlock = some k → k < W.heap.size) :
    Calls Try.prog 19 #[.pointer (some ⟨dr, 0, none⟩), u] w (TUp W lb db vl g s lr dr vr g' (r.rcrash keep)) := by
  have hx := h.dlo
  obtain ⟨B, C, h1, h2, h3, h4, h5, h6⟩ := h
  exact (call_rd h2 fun Bd hB => crashR hB u keep hr (fun hne e => by have := hold hne dr e; omega)).mono fun e w2 ⟨a, o⟩ => ⟨a, TL.right B C h1 h3 h4 h5 h6 o⟩
end
end Go.Proofs.Ythdmcjiccbgknaa

namespace Go.Proofs.Ythdmcjiccbgknaa
set_option linter.unusedVariables false
set_option linter.unusedSimpArgs false
open Go.RowKit

/-- As TL, and a box that neither log has. -/
def TX (W w : World) (bx : Nat) (cs : Array Value) (lb db : Nat) (vl : Value) (g : Lg) (s : Dk) (lr dr : Nat) (vr : Value) (g' : Lg) (r : Dk) : Prop := Blk w bx 39 cs ∧ ∃ B C : Nat → Prop, LD B w lb db vl g s ∧ RD C w lr dr vr g' r ∧ (∀ k, B k → ¬ C k) ∧ (∀ k, B k → W.heap.size ≤ k ∧ k < w.heap.size) ∧ (∀ k, C k → W.heap.size ≤ k ∧ k < w.heap.size) ∧ Below W.heap.size W w ∧ ¬ B bx ∧ ¬ C bx
section
variable {W w w2 : World} {bx lb db lr dr : Nat} {cs : Array Value} {vl vr vl2 : Value} {g g' g2 : Lg} {s r s2 : Dk} {K : List Int}
theorem TX.tl (h : TX W w bx cs lb db vl g s lr dr vr g' r) : TL W w lb db vl g s lr dr vr g' r := by
  obtain ⟨_, B, C, h1, h2, h3, h4, h5, h6, _⟩ := h
  exact ⟨B, C, h1, h2, h3, h4, h5, h6⟩
theorem TX.new (h : TL W w lb db vl g s lr dr vr g' r) (cs : Array Value) : TX W (w.alloc (.cells cs 39)) w.heap.size cs lb db vl g s lr dr vr g' r := by
  obtain ⟨B, C, h1, h2, h3, h4, h5, h6⟩ := h
  have hb := below_new w (.cells cs 39)
  have hs := hb.size
  exact ⟨Blk.new w 39 cs, B, C, h1.below hb, h2.below hb, h3, fun k hk => ⟨(h4 k hk).1, Nat.lt_of_lt_of_le (h4 k hk).2 hs⟩, fun k hk => ⟨(h5 k hk).1, Nat.lt_of_lt_of_le (h5 k hk).2 hs⟩, h6.trans (hb.mono h6.size), fun hx => by have := (h4 _ hx).2; omega, fun hx => by have := (h5 _ hx).2; omega⟩
theorem TX.left (B C : Nat → Prop) (hx : Blk w bx 39 cs) (h2 : RD C w lr dr vr g' r) (h3 : ∀ k, B k → ¬ C k) (h4 : ∀ k, B k → W.heap.size ≤ k ∧ k < w.heap.size) (h5 : ∀ k, C k → W.heap.size ≤ k ∧ k < w.heap.size) (h6 : Below W.heap.size W w) (h7 : ¬ B bx) (h8 : ¬ C bx) (o : LOp B w w2 lb db vl2 g2 s2) : TX W w2 bx cs lb db vl2 g2 s2 lr dr vr g' r := by
  have hs := o.fr.size
  have hl := hx.lt
  refine ⟨?_, _, C, o.at_, h2.fr o.fr fun k hk hc hb => h3 k hb hc, ?_, ?_, fun k hk => ⟨(h5 k hk).1, Nat.lt_of_lt_of_le (h5 k hk).2 hs⟩, h6.trans (o.fr.to_below h6.size fun k hk hb => by have := (h4 k hb).1; omega), ?_, h8⟩
  · unfold Blk at hx ⊢
    rw [o.fr.block bx hl h7]; exact hx
  · intro k hk hc
    rcases hk with hk | hk
    · exact h3 k hk hc
    · have := (h5 k hc).2; omega
  · intro k hk
    rcases hk with hk | hk
    · exact ⟨(h4 k hk).1, Nat.lt_of_lt_of_le (h4 k hk).2 hs⟩
    · exact ⟨Nat.le_trans h6.size hk.1, hk.2⟩
  · intro hk
    rcases hk with hk | hk
    · exact h7 hk
    · omega
def TXp (W : World) (bx : Nat) (cs : Array Value) (lb db : Nat) (E : Int) (g2 : Lg) (s2 : Dk) (lr dr : Nat) (vr : Value) (g' : Lg) (r : Dk) (e : Ending) (w2 : World) : Prop := e = .returned (.int .i64 E) ∧ ∃ v, TX W w2 bx cs lb db v g2 s2 lr dr vr g' r
def TXu (W : World) (bx : Nat) (cs : Array Value) (lb db : Nat) (vl : Value) (g : Lg) (s2 : Dk) (lr dr : Nat) (vr : Value) (g' : Lg) (r : Dk) (e : Ending) (w2 : World) : Prop := e = .returned (.tuple #[]) ∧ TX W w2 bx cs lb db vl g s2 lr dr vr g' r
theorem xCrash (h : TX W w bx cs lb db vl g s lr dr vr g' r) (u : Value) (keep : List Int) (hr : IRow w w.heap.size u keep) (hl : keep.length ≤ maxLen) :
    Calls Try.prog 18 #[.pointer (some ⟨db, 0, none⟩), u] w (TXu W bx cs lb db vl g (s.crash keep) lr dr vr g' r) := by
  obtain ⟨h0, B, C, h1, h2, h3, h4, h5, h6, h7, h8⟩ := h
  exact (call_ld h1 fun Bd hB => crashP hB u keep hr hl).mono fun e w2 ⟨a, o⟩ => ⟨a, TX.left B C h0 h2 h3 h4 h5 h6 h7 h8 o⟩
theorem xLose (h : TX W w bx cs lb db vl g s lr dr vr g' r) (n : Int) (hn : n ≤ 9223372036854775807) :
    Calls Try.prog 22 #[.pointer (some ⟨db, 0, none⟩), .int .i64 n] w (TXu W bx cs lb db vl g (s.lose n) lr dr vr g' r) := by
  obtain ⟨h0, B, C, h1, h2, h3, h4, h5, h6, h7, h8⟩ := h
  exact (call_ld h1 fun Bd hB => loseP hB n hn).mono fun e w2 ⟨a, o⟩ => ⟨a, TX.left B C h0 h2 h3 h4 h5 h6 h7 h8 o⟩
/-- What a deed of both logs is: its end, its log, its disk. -/
structure Deed2 (F FR : FuncId) (xs ys : Array Value) (W w : World) (f : Int) (k bx : Nat) (cs : Array Value) (lb db lr dr : Nat) (vr : Value) (g : Lg) (s : Dk) (K : List Int) (E : Int) (g2 : Lg) (s2 : Dk) (K2 : List Int) : Prop where
  gi : GI f (k + 1) g2 s2
  kk : s2.calls ≠ 0 → K2 = s2.keep
  c1 : Calls Try.prog F xs w (TXp W bx cs lb db E g2 s2 lr dr vr g (s.wk K))
  c2 : ∀ w2 v, TL W w2 lb db v g2 s2 lr dr vr g (s.wk K) → Calls Try.prog FR ys w2 (TRp W lb db v g2 s2 lr dr (E, g2, s2.wk K2))
theorem dAppend2 (h : TX W w bx cs lb db vl g s lr dr vr g (s.wk K)) {f : Int} {k : Nat} (hg : GI f k g s) (hk : k < 30) (hK : s.calls ≠ 0 → K = s.keep) (row : ByteArray) (hr : row.size ≤ 200) :
    ∃ E g2 s2 K2, Deed2 25 26 #[.pointer (some ⟨lb, 0, none⟩), .string row] #[.pointer (some ⟨lr, 0, none⟩), .string row] W w f k bx cs lb db lr dr vr g s K E g2 s2 K2 := by
  obtain ⟨h0, B, C, h1, h2, h3, h4, h5, h6, h7, h8⟩ := h
  obtain ⟨K2, e1, hK2⟩ := wk_append (g := g) hK row
  have hx := ext_app g.rows row
  have hex := hg.ex
  have hpe := hg.pe
  refine ⟨(g.append s row).1, _, _, K2, hg.append hr, hK2, ?_, fun w2 v hT => ?_⟩
  · exact (appendP h1 row (by omega) (by omega)).mono fun e w2 ⟨a, v, o⟩ => ⟨a, v, TX.left B C h0 h2 h3 h4 h5 h6 h7 h8 o⟩
  · have := qAppendR hT row (by omega) (by show s.pend.length + 8 + row.size ≤ _; omega)
    rw [e1] at this
    exact this
theorem dFlush2 (h : TX W w bx cs lb db vl g s lr dr vr g (s.wk K)) {f : Int} {k : Nat} (hg : GI f k g s) (hk : k < 30) (hK : s.calls ≠ 0 → K = s.keep) :
    ∃ E g2 s2 K2, Deed2 14 15 #[.pointer (some ⟨lb, 0, none⟩)] #[.pointer (some ⟨lr, 0, none⟩)] W w f k bx cs lb db lr dr vr g s K E g2 s2 K2 := by
  obtain ⟨h0, B, C, h1, h2, h3, h4, h5, h6, h7, h8⟩ := h
  obtain ⟨K2, e1, hK2⟩ := wk_flushL (g := g) hK
  have hex := hg.ex
  have hpe := hg.pe
  have hsu := hg.su
  refine ⟨(g.flush s).1, _, _, K2, hg.flush (by omega), hK2, ?_, fun w2 v hT => ?_⟩
  · exact (flushP' h1 (by omega) (by omega) hsu).mono fun e w2 ⟨a, o⟩ => ⟨a, vl, TX.left B C h0 h2 h3 h4 h5 h6 h7 h8 o⟩
  · have := qFlushR hT (by omega) (by show s.pend.length + 16 ≤ _; omega) (fun s' hs' => by
      obtain ⟨K3, e3, _⟩ := wk_flush s K g.file hK
      rw [e3] at hs'
      have e4 : s' = (s.flush g.file).2.wk K3 := by simpa using (congrArg Prod.snd hs').symm
      rw [e4]
      have := Dk.flush_pend s g.file
      show (s.flush g.file).2.pend.length + 16 ≤ _
      omega) hsu
    rw [e1] at this
    exact this
theorem dRewrite2 (h : TX W w bx cs lb db vl g s lr dr vr g (s.wk K)) {f : Int} {k : Nat} (hf : 0 ≤ f ∧ f ≤ 6) (hg : GI f k g s) (hk : k < 30) (hK : s.calls ≠ 0 → K = s.keep) (u : Value) (l : List ByteArray) (hr : Row W W.heap.size u (sv l)) (hx : ext l ≤ 1264) :
    ∃ E g2 s2 K2, Deed2 16 17 #[.pointer (some ⟨lb, 0, none⟩), u] #[.pointer (some ⟨lr, 0, none⟩), u] W w f k bx cs lb db lr dr vr g s K E g2 s2 K2 := by
  obtain ⟨h0, B, C, h1, h2, h3, h4, h5, h6, h7, h8⟩ := h
  obtain ⟨K2, e1, hK2⟩ := wk_rewriteL (g := g) hK l
  have hex := hg.ex
  have hpe := hg.pe
  have hfi := hg.fi
  have hfg : 0 ≤ g.file ∧ g.file ≤ 6 := by rw [hfi]; exact hf
  refine ⟨(g.rewrite s l).1, _, _, K2, hg.rewrite hx, hK2, ?_, fun w2 v hT => ?_⟩
  · refine (rewriteP h1 u l (fun w' v' s' o => row_heap hr h6 (fun k hk => ?_) o.fr.size) hfg (by omega) (by omega)).mono fun e w2 ⟨a, v, o⟩ => ⟨a, v, TX.left B C h0 h2 h3 h4 h5 h6 h7 h8 o⟩
    have := h6.size
    exact o.fr.block k (by omega) fun hb => by have := (h4 k hb.1).1; omega
  · have := qRewriteR hT u l hr hfg (by omega) (fun s' hs' => by
      obtain ⟨K3, e3, _⟩ := wk_cut s K (g.file + 1) 0 hK
      rw [e3] at hs'
      have e4 : s' = (s.cut (g.file + 1) 0).2.wk K3 := by simpa using (congrArg Prod.snd hs').symm
      rw [e4]
      have := Dk.cut_pend s (g.file + 1) 0
      show (s.cut (g.file + 1) 0).2.pend.length + ext l ≤ _
      omega)
    rw [e1] at this
    exact this
end
theorem tmod3 (n : Int) : (0 ≤ n → n.tmod 3 = n % 3) ∧ (n < 0 → (n.tmod 3 < 0 → n.tmod 3 + 3 = n % 3) ∧ (¬ n.tmod 3 < 0 → n.tmod 3 = n % 3)) ∧ -3 < n.tmod 3 ∧ n.tmod 3 < 3 := by
  have h1 := Int.tmod_eq_emod (a := n) (b := 3)
  split at h1
  · omega
  · have : ¬ (3 : Int) = 0 := by omega
    simp at h1
    omega
set_option maxHeartbeats 1000000 in
theorem pick3P (n : Int) (h0 : -9223372036854775808 ≤ n) (h1 : n ≤ 9223372036854775807) (w : World) : Calls Try.prog 23 #[.int .i64 n, .int .i64 3] w fun e w' => e = .returned (.int .i64 (n % 3)) ∧ w = w' := by
  obtain ⟨t1, t2, t3, t4⟩ := tmod3 n
  have HT : Hid ((n.tmod 3 < 0 → n.tmod 3 + 3 = n % 3) ∧ (¬ n.tmod 3 < 0 → n.tmod 3 = n % 3)) := by
    show _ ∧ _
    by_cases hn : 0 ≤ n
    · have := t1 hn; omega
    · exact t2 (by omega)
  obtain ⟨R, hR⟩ : ∃ R, n % 3 = R := ⟨_, rfl⟩
  rw [hR] at HT ⊢
  obtain ⟨T, hT⟩ : ∃ T, n.tmod 3 = T := ⟨_, rfl⟩
  rw [hT] at HT t3 t4
  have e1 : IntKind.i64.wrap (n.tmod 3) = T := by rw [hT]; exact IntWalk.i64_in _ (by omega)
  have e2 : IntKind.i64.wrap T = T := IntWalk.i64_in _ (by omega)
  clear t1 t2 hR
  by_cases hn : T < 0
  all_goals
    go_enter Try.func23, Try.ntmps23
    go_wp2_with fail
    go_ret
    refine ⟨?_, rfl⟩
    first | (rw [← HT.out.1 hn]; first | rfl | go_num) | (rw [← HT.out.2 hn]; first | rfl | go_num)
end Go.Proofs.Ythdmcjiccbgknaa
