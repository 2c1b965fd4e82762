/-
  Layer 6: the memory of the law DiskTells: a disk and the reference's disk, apart from each other.
-/
import Derived.Test.YtcfngdlgllanhaaDRq
import Derived.Test.YtcfngdlgllanhaaDRz
import Derived.Test.YtcfngdlgllanhaaDr
namespace Go.Proofs.Ytcfngdlgllanhaa
set_option linter.unusedVariables false
set_option linter.unusedSimpArgs false
open Go.RowKit

/-- A disk s at d and the reference's disk r at x, apart, in new memory. -/
def TR (W w : World) (d x : Nat) (s r : Dk) : Prop := ∃ Bd Bx : Nat → Prop, DiskAt Bd w d s ∧ RefAt Bx w x r ∧ (∀ k, Bd k → ¬ Bx k) ∧ (∀ k, Bd k → W.heap.size ≤ k ∧ k < w.heap.size) ∧ (∀ k, Bx k → W.heap.size ≤ k ∧ k < w.heap.size) ∧ Below W.heap.size W w
theorem TR.bel {W w : World} {d x : Nat} {s r : Dk} (h : TR W w d x s r) : Below W.heap.size W w := by obtain ⟨_, _, _, _, _, _, _, h⟩ := h; exact h
theorem TR.below {W w w2 : World} {d x : Nat} {s r : Dk} (h : TR W w d x s r) (b : Below w.heap.size w w2) : TR W w2 d x s r := by
  obtain ⟨Bd, Bx, h1, h2, h3, h4, h5, h6⟩ := h
  exact ⟨Bd, Bx, h1.below b, h2.below b, h3, fun k hk => ⟨(h4 k hk).1, Nat.lt_of_lt_of_le (h4 k hk).2 b.size⟩, fun k hk => ⟨(h5 k hk).1, Nat.lt_of_lt_of_le (h5 k hk).2 b.size⟩, h6.trans (b.mono h6.size)⟩
theorem TR.drew {W w : World} {d x : Nat} {s r : Dk} (h : TR W w d x s r) : TR W w.drew d x s r := h.below ⟨rfl, rfl, rfl, Nat.le_refl _, fun _ _ => rfl⟩
/-- The reference's disk lies in new memory. -/
theorem TR.xlo {W w : World} {d x : Nat} {s r : Dk} (h : TR W w d x s r) : W.heap.size ≤ x := by
  obtain ⟨Bd, Bx, h1, h2, h3, h4, h5, h6⟩ := h
  obtain ⟨_, _, _, _, hb⟩ := h2
  exact (h5 x hb.b0).1
theorem call_trd {F : FuncId} {args : Array Value} {W w1 : World} {d x : Nat} {s s' r : Dk} {v : Value} (h : TR W w1 d x s r) (hc : ∀ B, DiskAt B w1 d s → Calls Try.prog F args w1 fun e w2 => e = .returned v ∧ Op B w1 w2 d s') : Calls Try.prog F args w1 fun e w2 => e = .returned v ∧ TR W w2 d x s' r := by
  obtain ⟨Bd, Bc, h1, h2, h3, h4, h5, h6⟩ := h
  refine (hc Bd h1).mono ?_
  rintro e w2 ⟨he, hop⟩
  refine ⟨he, ?_⟩
  have hs := hop.fr.size
  refine ⟨_, Bc, hop.at_, h2.fr hop.fr (fun k hk hc hd => h3 k hd hc), ?_, ?_, fun k hk => ⟨(h5 k hk).1, Nat.lt_of_lt_of_le (h5 k hk).2 hs⟩, h6.trans (hop.fr.to_below h6.size fun k hk hd => by have := (h4 k hd).1; omega)⟩
  · intro k hk hc
    rcases hk with hk | hk
    · exact h3 k hk hc
    · have := (h5 k hc).2; omega
  · intro k hk
    rcases hk with hk | hk
    · exact ⟨(h4 k hk).1, Nat.lt_of_lt_of_le (h4 k hk).2 hs⟩
    · exact ⟨Nat.le_trans h6.size hk.1, hk.2⟩
theorem call_trx {F : FuncId} {args : Array Value} {W w1 : World} {d x : Nat} {s r r' : Dk} {v : Value} (h : TR W w1 d x s r) (hc : ∀ B, RefAt B w1 x r → Calls Try.prog F args w1 fun e w2 => e = .returned v ∧ ROp B w1 w2 x r') : Calls Try.prog F args w1 fun e w2 => e = .returned v ∧ TR W w2 d x s r' := by
  obtain ⟨Bc, Bd, h2, h1, h3, h5, h4, h6⟩ := h
  refine (hc Bd h1).mono ?_
  rintro e w2 ⟨he, hop⟩
  refine ⟨he, ?_⟩
  have hs := hop.fr.size
  refine ⟨Bc, _, h2.fr hop.fr (fun k hk hc hd => h3 k hc hd), hop.at_, ?_, fun k hk => ⟨(h5 k hk).1, Nat.lt_of_lt_of_le (h5 k hk).2 hs⟩, ?_, h6.trans (hop.fr.to_below h6.size fun k hk hd => by have := (h4 k hd).1; omega)⟩
  · intro k hc hk
    rcases hk with hk | hk
    · exact h3 k hc hk
    · have := (h5 k hc).2; omega
  · intro k hk
    rcases hk with hk | hk
    · exact ⟨(h4 k hk).1, Nat.lt_of_lt_of_le (h4 k hk).2 hs⟩
    · exact ⟨Nat.le_trans h6.size hk.1, hk.2⟩
/-- And a further disk t at c. -/
def T3 (W w : World) (d c x : Nat) (s t r : Dk) : Prop := ∃ Bd : Nat → Prop, DiskAt Bd w d s ∧ (∀ k, Bd k → W.heap.size ≤ k ∧ k < w.heap.size) ∧ ∃ Bc Bx : Nat → Prop, DiskAt Bc w c t ∧ RefAt Bx w x r ∧ (∀ k, Bd k → ¬ Bc k) ∧ (∀ k, Bd k → ¬ Bx k) ∧ (∀ k, Bc k → ¬ Bx k) ∧ (∀ k, Bc k → W.heap.size ≤ k ∧ k < w.heap.size) ∧ (∀ k, Bx k → W.heap.size ≤ k ∧ k < w.heap.size) ∧ Below W.heap.size W w
theorem T3.drop {W w : World} {d c x : Nat} {s t r : Dk} (h : T3 W w d c x s t r) : TR W w c x t r := by
  obtain ⟨Bd, _, _, Bc, Bx, h1, h2, _, _, h3, h4, h5, h6⟩ := h
  exact ⟨Bc, Bx, h1, h2, h3, h4, h5, h6⟩
theorem call_t3 {F : FuncId} {args : Array Value} {W w1 : World} {d c x : Nat} {s s' t r : Dk} {v : Value} (h : T3 W w1 d c x s t r) (hc : ∀ B, DiskAt B w1 d s → Calls Try.prog F args w1 fun e w2 => e = .returned v ∧ Op B w1 w2 d s') : Calls Try.prog F args w1 fun e w2 => e = .returned v ∧ T3 W w2 d c x s' t r := by
  obtain ⟨Bd, h1, h4, Bc, Bx, h2, h2x, h3, h3x, hcx, h5, h5x, h6⟩ := h
  refine (hc Bd h1).mono ?_
  rintro e w2 ⟨he, hop⟩
  refine ⟨he, ?_⟩
  have hs := hop.fr.size
  refine ⟨_, hop.at_, ?_, Bc, Bx, h2.fr hop.fr (fun k hk hc hd => h3 k hd hc), h2x.fr hop.fr (fun k hk hc hd => h3x k hd hc), ?_, ?_, hcx, fun k hk => ⟨(h5 k hk).1, Nat.lt_of_lt_of_le (h5 k hk).2 hs⟩, fun k hk => ⟨(h5x k hk).1, Nat.lt_of_lt_of_le (h5x k hk).2 hs⟩, h6.trans (hop.fr.to_below h6.size fun k hk hd => by have := (h4 k hd).1; omega)⟩
  · intro k hk
    rcases hk with hk | hk
    · exact ⟨(h4 k hk).1, Nat.lt_of_lt_of_le (h4 k hk).2 hs⟩
    · exact ⟨Nat.le_trans h6.size hk.1, hk.2⟩
  · intro k hk hc
    rcases hk with hk | hk
    · exact h3 k hk hc
    · have := (h5 k hc).2; omega
  · intro k hk hc
    rcases hk with hk | hk
    · exact h3x k hk hc
    · have := (h5x k hc).2; omega
def CopyT (W : World) (d x : Nat) (s r : Dk) (e : Ending) (w2 : World) : Prop := ∃ c, e = .returned (.pointer (some ⟨c, 0, none⟩)) ∧ T3 W w2 d c x s s r
theorem copyT {W w1 : World} {d x : Nat} {s r : Dk} (h : TR W w1 d x s r) : Calls Try.prog 10 #[.pointer (some ⟨d, 0, none⟩)] w1 (CopyT W d x s r) := by
  obtain ⟨Bd, Bx, h1, h2, h3, h4, h5, h6⟩ := h
  refine (copyPP h1).mono fun e w2 ⟨c, he, hlo, hc, hb⟩ => ⟨c, he, Bd, h1.below hb, fun k hk => ⟨(h4 k hk).1, Nat.lt_of_lt_of_le (h4 k hk).2 hb.size⟩, _, Bx, hc, h2.below hb, fun k a b => ?_, h3, fun k a b => ?_, fun k hk => ⟨Nat.le_trans h6.size hk.1, hk.2⟩, fun k hk => ⟨(h5 k hk).1, Nat.lt_of_lt_of_le (h5 k hk).2 hb.size⟩, h6.trans (hb.mono h6.size)⟩
  · have := (h4 k a).2; omega
  · have := (h5 k b).2; omega
def CopyX (W : World) (d : Nat) (s r : Dk) (e : Ending) (w2 : World) : Prop := ∃ c, e = .returned (.pointer (some ⟨c, 0, none⟩)) ∧ TR W w2 d c s r
theorem copyX {W w1 : World} {d x : Nat} {s r : Dk} (h : TR W w1 d x s r) : Calls Try.prog 13 #[.pointer (some ⟨x, 0, none⟩)] w1 (CopyX W d s r) := by
  obtain ⟨Bd, Bx, h1, h2, h3, h4, h5, h6⟩ := h
  refine (copyR h2).mono fun e w2 ⟨c, he, hc, hb⟩ => ⟨c, he, Bd, _, h1.below hb, hc, fun k a b => ?_, fun k hk => ⟨(h4 k hk).1, Nat.lt_of_lt_of_le (h4 k hk).2 hb.size⟩, fun k hk => ⟨Nat.le_trans h6.size hk.1, hk.2⟩, h6.trans (hb.mono h6.size)⟩
  have := (h4 k a).2; omega
/-- The reference's New beside a disk. -/
theorem newX {W w1 : World} {d : Nat} {s : Dk} (h : Dsk W w1 d s) : Calls Try.prog 8 #[] w1 (CopyX W d s dk0) := by
  have ht := h.1.tight
  refine (newR w1).mono fun e w2 ⟨c, he, hc, hb⟩ => ⟨c, he, fun k => W.heap.size ≤ k ∧ k < w1.heap.size, _, (h.1.tight).below hb, hc, fun k a b => by omega, fun k hk => ⟨hk.1, Nat.lt_of_lt_of_le hk.2 hb.size⟩, fun k hk => ⟨Nat.le_trans h.2.size hk.1, hk.2⟩, h.2.trans (hb.mono h.2.size)⟩
def DoT (W : World) (d x : Nat) (q : ByteArray × Int × Dk) (r : Dk) (e : Ending) (w2 : World) : Prop := e = .returned (.tuple #[.string q.1, .int .i64 q.2.1]) ∧ TR W w2 d x q.2.2 r
theorem doT {W w1 : World} {d x : Nat} {s r : Dk} (h : TR W w1 d x s r) (a : Ac) (v : Value) (hr : IRow w1 w1.heap.size v a.keep) (hw : a.wf) (ht : a.w ≤ 5000) (hn : s.pend.length ≤ 5000) :
    Calls Try.prog 14 #[.pointer (some ⟨d, 0, none⟩), av a v] w1 (DoT W d x (s.act a) r) := by
  unfold Ac.w at ht
  exact call_trd h fun B hB => doP hB a v hr (by omega) (by omega) hw.o.1 hw.o.2 hw.n.2
def TwT (W : World) (d x : Nat) (s : Dk) (q : ByteArray × Int × Dk) (e : Ending) (w2 : World) : Prop := e = .returned (.tuple #[.string q.1, .int .i64 q.2.1]) ∧ TR W w2 d x s q.2.2
theorem twinT {W w1 : World} {d x : Nat} {s r : Dk} (h : TR W w1 d x s r) (a : Ac) (v : Value) (hr : IRow w1 w1.heap.size v a.keep) (hold : a.keep ≠ [] → ∀ k, v.ownBlock = some k → k < W.heap.size) (hw : a.wf) (ht : a.w ≤ 5000) (hn : r.pend.length ≤ 5000) :
    Calls Try.prog 15 #[.pointer (some ⟨x, 0, none⟩), av a v] w1 (TwT W d x s (r.ract a)) := by
  unfold Ac.w at ht
  have hx := h.xlo
  exact call_trx h fun B hB => twinR hB a v hr (fun hne e => by have := hold hne x e; omega) (by omega) (by omega) (by omega) hw.o.1 hw.o.2 hw.n.2
theorem writeT3 {W w1 : World} {d c x : Nat} {s t r : Dk} (h : T3 W w1 d c x s t r) (f a : Int) (b : ByteArray) (hn : s.pend.length + b.size ≤ 1000000) : Calls Try.prog 11 #[.pointer (some ⟨d, 0, none⟩), .int .i64 f, .int .i64 a, .string b] w1 fun e w2 => e = .returned (.int .i64 (s.write f a b).1) ∧ T3 W w2 d c x (s.write f a b).2 t r := call_t3 h fun B hB => writeP hB f a b hn
theorem crashT3 {W w1 : World} {d c x : Nat} {s t r : Dk} (h : T3 W w1 d c x s t r) : Calls Try.prog 12 #[.pointer (some ⟨d, 0, none⟩), .slice none 0 0] w1 fun e w2 => e = .returned (.tuple #[]) ∧ T3 W w2 d c x (s.crash []) t r := call_t3 h fun B hB => crashP hB _ [] (irow_nil _ _) (by decide)
theorem downT {W w1 : World} {d x : Nat} {s r : Dk} (h : TR W w1 d x s r) : Calls Try.prog 16 #[.pointer (some ⟨d, 0, none⟩)] w1 fun e w2 => e = .returned (.bool s.down) ∧ TR W w2 d x s r := call_trd h fun B hB => (downP hB).mono fun e w2 ⟨h1, h2⟩ => ⟨h1, by subst h2; exact Op.refl hB⟩
theorem downX {W w1 : World} {d x : Nat} {s r : Dk} (h : TR W w1 d x s r) : Calls Try.prog 17 #[.pointer (some ⟨x, 0, none⟩)] w1 fun e w2 => e = .returned (.bool r.down) ∧ TR W w2 d x s r := call_trx h fun B hB => (downR hB).mono fun e w2 ⟨h1, h2⟩ => ⟨h1, by subst h2; exact ROp.refl hB⟩
theorem sizeT {W w1 : World} {d x : Nat} {s r : Dk} (h : TR W w1 d x s r) (f : Int) : Calls Try.prog 18 #[.pointer (some ⟨d, 0, none⟩), .int .i64 f] w1 fun e w2 => e = .returned (.int .i64 (s.size f)) ∧ TR W w2 d x s r := call_trd h fun B hB => (sizeP hB f).mono fun e w2 ⟨h1, h2⟩ => ⟨h1, (Op.refl hB).below h2⟩
theorem sizeX {W w1 : World} {d x : Nat} {s r : Dk} (h : TR W w1 d x s r) (f : Int) : Calls Try.prog 19 #[.pointer (some ⟨x, 0, none⟩), .int .i64 f] w1 fun e w2 => e = .returned (.int .i64 (r.size f)) ∧ TR W w2 d x s r := call_trx h fun B hB => (sizeR hB f).mono fun e w2 ⟨h1, h2⟩ => ⟨h1, (ROp.refl hB).below h2⟩
theorem startT {W w1 : World} {d x : Nat} {s r : Dk} (h : TR W w1 d x s r) : Calls Try.prog 20 #[.pointer (some ⟨d, 0, none⟩)] w1 fun e w2 => e = .returned (.tuple #[]) ∧ TR W w2 d x s.start r := call_trd h fun B hB => startP hB
theorem startX {W w1 : World} {d x : Nat} {s r : Dk} (h : TR W w1 d x s r) : Calls Try.prog 21 #[.pointer (some ⟨x, 0, none⟩)] w1 fun e w2 => e = .returned (.tuple #[]) ∧ TR W w2 d x s r.start := call_trx h fun B hB => startR hB
theorem readT {W w1 : World} {d x : Nat} {s r : Dk} (h : TR W w1 d x s r) (f : Int) : Calls Try.prog 22 #[.pointer (some ⟨d, 0, none⟩), .int .i64 f] w1 fun e w2 => e = .returned (.tuple #[.string (s.read f).1, .int .i64 (s.read f).2]) ∧ TR W w2 d x s r := call_trd h fun B hB => (readP hB f).mono fun e w2 ⟨h1, h2⟩ => ⟨h1, (Op.refl hB).below h2⟩
theorem readX {W w1 : World} {d x : Nat} {s r : Dk} (h : TR W w1 d x s r) (f : Int) : Calls Try.prog 23 #[.pointer (some ⟨x, 0, none⟩), .int .i64 f] w1 fun e w2 => e = .returned (.tuple #[.string (r.read f).1, .int .i64 (r.read f).2]) ∧ TR W w2 d x s r := call_trx h fun B hB => (ReadR hB f).mono fun e w2 ⟨h1, h2⟩ => ⟨h1, (ROp.refl hB).below h2⟩
end Go.Proofs.Ytcfngdlgllanhaa
