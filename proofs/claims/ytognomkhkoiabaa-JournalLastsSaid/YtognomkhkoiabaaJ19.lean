/-
  Layer 7: a log and its disk in new memory; the laws' calls.
-/
import Derived.Test.YtognomkhkoiabaaJ18
import Derived.Test.YtognomkhkoiabaaJ7
import Derived.Test.YtognomkhkoiabaaJ5
import Derived.Test.YtognomkhkoiabaaDp
namespace Go.Proofs.Ytognomkhkoiabaa
set_option linter.unusedVariables false
set_option linter.unusedSimpArgs false
open Go.RowKit

def LJ (W w : World) (lb db : Nat) (v : Value) (g : Lg) (s : Dk) : Prop := LD (fun k => W.heap.size ≤ k) w lb db v g s ∧ Below W.heap.size W w
theorem LJ.op {W w1 w2 : World} {lb db : Nat} {v v' : Value} {g g' : Lg} {s s' : Dk} (h : LJ W w1 lb db v g s) (o : LOp (fun k => W.heap.size ≤ k) w1 w2 lb db v' g' s') : LJ W w2 lb db v' g' s' :=
  ⟨o.at_.mono fun k _ hx => hx.elim id fun hx => Nat.le_trans h.2.size hx.1, h.2.trans (o.fr.to_below h.2.size fun k hk hb => by omega)⟩
theorem LJ.below {W w1 w2 : World} {lb db : Nat} {v : Value} {g : Lg} {s : Dk} (h : LJ W w1 lb db v g s) (b : Below w1.heap.size w1 w2) : LJ W w2 lb db v g s := ⟨h.1.below b, h.2.trans (b.mono h.2.size)⟩
theorem LD.dsk {B : Nat → Prop} {w : World} {lb db : Nat} {v : Value} {g : Lg} {s : Dk} (h : LD B w lb db v g s) : DiskAt B w db s := by
  obtain ⟨Bd, h1, _, _, _, h5, _⟩ := h
  exact h1.mono h5
theorem LJ.dsk {W w : World} {lb db : Nat} {v : Value} {g : Lg} {s : Dk} (h : LJ W w lb db v g s) : Dsk W w db s := ⟨h.1.dsk, h.2⟩
def JP (W : World) (lb db : Nat) (r : Int × Lg × Dk) (e : Ending) (w2 : World) : Prop := e = .returned (.int .i64 r.1) ∧ ∃ v, LJ W w2 lb db v r.2.1 r.2.2
def JO (W w1 : World) (db : Nat) (f : Int) (l : List ByteArray) (s : Dk) (e : Ending) (w2 : World) : Prop := ∃ lb v, e = .returned (.tuple #[.pointer (some ⟨lb, 0, none⟩), .int .i64 0]) ∧ LJ W w2 lb db v ⟨f, l, l.length⟩ s ∧ Below w1.heap.size w1 w2
theorem jOpen {W w1 : World} {db : Nat} {s : Dk} (h : Dsk W w1 db s) (f : Int) (hf : 0 ≤ f ∧ f ≤ 6) (t : ByteArray) (l : List ByteArray) (hr : s.read f = (t, 0)) (hz : t.size ≤ 100000000) (hp : parseS t = some l) :
    Calls Try.prog 7 #[.pointer (some ⟨db, 0, none⟩), .int .i64 f] w1 (JO W w1 db f l s) := by
  refine (openP h.1 f (by rw [hr]; exact hz)).mono ?_
  rintro e w2 ⟨hb, ho⟩
  rw [if_neg (by omega), hr, if_neg (fun h => h rfl)] at ho
  simp only [hp] at ho
  obtain ⟨lb, v, h1, h2, he, h3⟩ := ho
  have ht := h.1.tight
  have hs := h.2.size
  refine ⟨lb, v, he, ⟨⟨_, ht.below hb, h3, fun hx => by have := hx.2; omega, fun k hk => ⟨fun hx => by have := h2 k hk; have := hx.2; omega, Nat.le_trans hs (h2 k hk)⟩, fun k _ hx => hx.1, Nat.le_trans hs h1⟩, h.2.trans (hb.mono hs)⟩, hb⟩
/-- Open of a file that is malformed. -/
theorem jOpen_bad {W w1 : World} {db : Nat} {s : Dk} (h : Dsk W w1 db s) (f : Int) (hf : 0 ≤ f ∧ f ≤ 6) (t : ByteArray) (hr : s.read f = (t, 0)) (hz : t.size ≤ 100000000) (hp : parseS t = none) :
    Calls Try.prog 7 #[.pointer (some ⟨db, 0, none⟩), .int .i64 f] w1 fun e w2 => e = .returned (.tuple #[.pointer none, .int .i64 2]) ∧ Dsk W w2 db s := by
  refine (openP h.1 f (by rw [hr]; exact hz)).mono ?_
  rintro e w2 ⟨hb, ho⟩
  rw [if_neg (by omega), hr, if_neg (fun h => h rfl)] at ho
  simp only [hp] at ho
  exact ⟨ho, h.below hb⟩
theorem jAppend {W w1 : World} {lb db : Nat} {v : Value} {g : Lg} {s : Dk} (h : LJ W w1 lb db v g s) (row : ByteArray) (hx : ext (g.rows ++ [row]) ≤ 1000000000) (hn : s.pend.length + 8 + row.size ≤ 1000000) :
    Calls Try.prog 15 #[.pointer (some ⟨lb, 0, none⟩), .string row] w1 (JP W lb db (g.append s row)) :=
  (appendP h.1 row hx hn).mono fun e w2 ⟨a, v', b⟩ => ⟨a, v', h.op b⟩
theorem jFlush {W w1 : World} {lb db : Nat} {v : Value} {g : Lg} {s : Dk} (h : LJ W w1 lb db v g s) (hx : ext g.rows ≤ 1000000000) (hp : s.pend.length + 16 ≤ 1000000) (hsu : g.sure ≤ 1000000000) :
    Calls Try.prog 10 #[.pointer (some ⟨lb, 0, none⟩)] w1 (JP W lb db (g.flush s)) :=
  (flushP' h.1 hx hp hsu).mono fun e w2 ⟨a, b⟩ => ⟨a, v, h.op b⟩
/-- Rewrite with rows that lie in old memory, or in memory that is newer than the log's. -/
theorem jRewrite {W w1 w2 : World} {lb db : Nat} {v : Value} {g : Lg} {s : Dk} (h : LJ W w1 lb db v g s) (hb : Below w1.heap.size w1 w2) (u : Value) (l : List ByteArray)
    (hrow : ∀ w', (∀ k, (k < W.heap.size ∨ w1.heap.size ≤ k) → k < w2.heap.size → w'.heap[k]? = w2.heap[k]?) → w2.heap.size ≤ w'.heap.size → Row w' w'.heap.size u (sv l)) (hf : 0 ≤ g.file ∧ g.file ≤ 6) (hx : ext l ≤ 900000) (hp : s.pend.length + ext l ≤ 1000000) :
    Calls Try.prog 11 #[.pointer (some ⟨lb, 0, none⟩), u] w2 (JP W lb db (g.rewrite s l)) := by
  have ht := h.1.tight.below hb
  have h2 := h.below hb
  refine (rewriteP ht u l (fun w' v' s' ho => hrow w' (fun k hk hl => ho.fr.block k hl (fun hx => ?_)) ho.fr.size) hf hx hp).mono ?_
  · have h1 := hx.1.1
    have h2 := hx.1.2
    omega
  · rintro e w3 ⟨a, v', b⟩
    exact ⟨a, v', h2.op (b.mono fun k _ hx => hx.1)⟩
theorem jSure {W w1 : World} {lb db : Nat} {v : Value} {g : Lg} {s : Dk} (h : LJ W w1 lb db v g s) : Calls Try.prog 17 #[.pointer (some ⟨lb, 0, none⟩)] w1 fun e w2 => e = .returned (.int .i64 g.sure) ∧ w1 = w2 := sureP h.1.lg
def JA (W w1 : World) (l : List ByteArray) (e : Ending) (w2 : World) : Prop := ∃ u, e = .returned u ∧ Row w2 w2.heap.size u (sv l) ∧ Below w1.heap.size w1 w2
theorem jAll {W w1 : World} {lb db : Nat} {v : Value} {g : Lg} {s : Dk} (h : LJ W w1 lb db v g s) : Calls Try.prog 9 #[.pointer (some ⟨lb, 0, none⟩)] w1 (JA W w1 g.rows) :=
  (allP h.1.lg).mono fun e w2 ⟨u, he, ho, hb⟩ => ⟨u, he, Row.of_own ho, hb⟩
end Go.Proofs.Ytognomkhkoiabaa
