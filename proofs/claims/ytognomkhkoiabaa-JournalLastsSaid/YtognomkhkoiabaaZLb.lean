/-
  Layer 7: pick, by three.
  Layer 7: a log with its disk, the lists of rows that may be found, and protected blocks, in new memory.
  Layer 7: the law JournalLasts' lists, and its function found.
  Layer 7: the law JournalLasts' relations.
-/
import Derived.Test.YtognomkhkoiabaaJ28
import Derived.Test.YtognomkhkoiabaaZLa
namespace Go.Proofs.Ytognomkhkoiabaa
set_option linter.unusedVariables false
set_option linter.unusedSimpArgs false
open Go.RowKit

theorem tmod3 (n : Int) : (0 ≤ n → n.tmod 3 = n % 3) ∧ (n < 0 → (n.tmod 3 < 0 → n.tmod 3 + 3 = n % 3) ∧ (¬ n.tmod 3 < 0 → n.tmod 3 = n % 3)) ∧ -3 < n.tmod 3 ∧ n.tmod 3 < 3 := by
  have h1 := Int.tmod_eq_emod (a := n) (b := 3)
  split at h1
  · omega
  · have : ¬ (3 : Int) = 0 := by omega
    simp at h1
    omega
set_option maxHeartbeats 1000000 in
theorem pick3P (n : Int) (h0 : -9223372036854775808 ≤ n) (h1 : n ≤ 9223372036854775807) (w : World) : Calls Try.prog 14 #[.int .i64 n, .int .i64 3] w fun e w' => e = .returned (.int .i64 (n % 3)) ∧ w = w' := by
  obtain ⟨t1, t2, t3, t4⟩ := tmod3 n
  have HT : Hid ((n.tmod 3 < 0 → n.tmod 3 + 3 = n % 3) ∧ (¬ n.tmod 3 < 0 → n.tmod 3 = n % 3)) := by
    show _ ∧ _
    by_cases hn : 0 ≤ n
    · have := t1 hn; omega
    · exact t2 (by omega)
  obtain ⟨R, hR⟩ : ∃ R, n % 3 = R := ⟨_, rfl⟩
  rw [hR] at HT ⊢
  obtain ⟨T, hT⟩ : ∃ T, n.tmod 3 = T := ⟨_, rfl⟩
  rw [hT] at HT t3 t4
  have e1 : IntKind.i64.wrap (n.tmod 3) = T := by rw [hT]; exact IntWalk.i64_in _ (by omega)
  have e2 : IntKind.i64.wrap T = T := IntWalk.i64_in _ (by omega)
  clear t1 t2 hR
  by_cases hn : T < 0
  all_goals
    go_enter Try.func14, Try.ntmps14
    go_wp2_with fail
    go_ret
    refine ⟨?_, rfl⟩
    first | (rw [← HT.out.1 hn]; first | rfl | go_num) | (rw [← HT.out.2 hn]; first | rfl | go_num)
end Go.Proofs.Ytognomkhkoiabaa

namespace Go.Proofs.Ytognomkhkoiabaa
set_option linter.unusedVariables false
set_option linter.unusedSimpArgs false
open Go.RowKit

theorem infoSS : (Try.prog.info? 33).map (fun i => (i.zero, i.size, i.bytes)) = some (some (.slice none 0 0), 1, 24) := by kernel_rfl
/-- A block that nothing changes. -/
abbrev Pb := Nat × TypeId × Array Value
structure LXB (B : Nat → Prop) (X : List Pb) (W w : World) (lb db : Nat) (vl : Value) (g : Lg) (s : Dk) (v : Value) (us : List Value) : Prop where
  ld : LD B w lb db vl g s
  lo : ∀ k, B k → W.heap.size ≤ k ∧ k < w.heap.size
  own : w.ownsRow W.heap.size 33 1 v us.length us
  nv : ∀ k, v.ownBlock = some k → ¬ B k
  px : ∀ x ∈ X, Blk w x.1 x.2.1 x.2.2 ∧ ¬ B x.1 ∧ v.ownBlock ≠ some x.1
  bel : Below W.heap.size W w
def LX (X : List Pb) (W w : World) (lb db : Nat) (vl : Value) (g : Lg) (s : Dk) (v : Value) (us : List Value) : Prop := ∃ B : Nat → Prop, LXB B X W w lb db vl g s v us
section
variable {B : Nat → Prop} {X Y : List Pb} {W w w2 : World} {lb db : Nat} {vl v vl2 v2 : Value} {g g2 : Lg} {s s2 : Dk} {us us2 : List Value}
theorem LXB.op (h : LXB B X W w lb db vl g s v us) {lb2 : Nat} (o1 : LD (Ext B w w2) w2 lb2 db vl2 g2 s2) (of : Fr B w w2) : LXB (Ext B w w2) X W w2 lb2 db vl2 g2 s2 v us := by
  have hs := of.size
  refine ⟨o1, fun k hk => ?_, own_heapJ h.own fun k hk hkl => of.block k hkl (h.nv k hk), fun k hk hb => ?_, fun x hx => ?_, h.bel.trans (of.to_below h.bel.size fun k hk hb => by have := (h.lo k hb).1; omega)⟩
  · rcases hk with hk | hk
    · exact ⟨(h.lo k hk).1, Nat.lt_of_lt_of_le (h.lo k hk).2 hs⟩
    · exact ⟨Nat.le_trans h.bel.size hk.1, hk.2⟩
  · rcases hb with hb | hb
    · exact h.nv k hk hb
    · have := (World.ownsRow.lt h.own k hk).2; omega
  · obtain ⟨h1, h2, h3⟩ := h.px x hx
    refine ⟨(of.block x.1 h1.lt h2).trans h1, fun hb => ?_, h3⟩
    rcases hb with hb | hb
    · exact h2 hb
    · have := h1.lt; omega
theorem LX.bel (h : LX X W w lb db vl g s v us) : Below W.heap.size W w := by obtain ⟨B, h⟩ := h; exact h.bel
theorem LX.below (h : LX X W w lb db vl g s v us) (b : Below w.heap.size w w2) : LX X W w2 lb db vl g s v us := by
  obtain ⟨B, h⟩ := h
  exact ⟨B, h.ld.below b, fun k hk => ⟨(h.lo k hk).1, Nat.lt_of_lt_of_le (h.lo k hk).2 b.size⟩, own_belowJ h.own b, h.nv, fun x hx => ⟨(h.px x hx).1.below b (h.px x hx).1.lt, (h.px x hx).2⟩, h.bel.trans (b.mono h.bel.size)⟩
theorem LX.ok (h : LX X W w lb db vl g s v us) : s.ok := by obtain ⟨B, h⟩ := h; exact h.ld.dsk.ok
theorem LX.own (h : LX X W w lb db vl g s v us) : w.ownsRow W.heap.size 33 1 v us.length us := by obtain ⟨B, h⟩ := h; exact h.own
theorem LX.form (h : LX X W w lb db vl g s v us) : ∃ A cap, v = .slice A us.length cap := own_formJ h.own
theorem LX.box {b : Nat} {T : TypeId} {cs : Array Value} (h : LX X W w lb db vl g s v us) (hx : (b, T, cs) ∈ X) : Blk w b T cs := by obtain ⟨B, h⟩ := h; exact (h.px _ hx).1
theorem LX.drop (h : LX X W w lb db vl g s v us) (hY : ∀ y ∈ Y, y ∈ X) : LX Y W w lb db vl g s v us := by
  obtain ⟨B, h⟩ := h
  exact ⟨B, h.ld, h.lo, h.own, h.nv, fun x hx => h.px x (hY x hx), h.bel⟩
/-- A block that is new is protected from now on. -/
theorem LX.prot (h : LX X W w lb db vl g s v us) (b : Below w.heap.size w w2) {n : Nat} {T : TypeId} {cs : Array Value} (hn : w.heap.size ≤ n) (hb : Blk w2 n T cs) : LX ((n, T, cs) :: X) W w2 lb db vl g s v us := by
  obtain ⟨B, h⟩ := h
  refine ⟨B, h.ld.below b, fun k hk => ⟨(h.lo k hk).1, Nat.lt_of_lt_of_le (h.lo k hk).2 b.size⟩, own_belowJ h.own b, h.nv, fun x hx => ?_, h.bel.trans (b.mono h.bel.size)⟩
  rcases List.mem_cons.1 hx with rfl | hx
  · exact ⟨hb, fun hB => by have := (h.lo _ hB).2; simp only at this; omega, fun e => by have := (World.ownsRow.lt h.own _ e).2; simp only at this; omega⟩
  · exact ⟨(h.px x hx).1.below b (h.px x hx).1.lt, (h.px x hx).2⟩
theorem LX.add (h : LX X W w lb db vl g s v us) (T : TypeId) (cs : Array Value) : LX ((w.heap.size, T, cs) :: X) W (w.alloc (.cells cs T)) lb db vl g s v us := h.prot (below_new w _) (Nat.le_refl _) (Blk.new w T cs)
/-- The lists have become others. -/
theorem LX.rows (h : LX X W w lb db vl g s v us) (hg : w.grownBy w2 v.ownBlock) (hown : w2.ownsRow W.heap.size 33 1 v2 us2.length us2) (hat : ∀ k, v2.ownBlock = some k → v.ownBlock = some k ∨ w.heap.size ≤ k) : LX X W w2 lb db vl g s v2 us2 := by
  obtain ⟨B, h⟩ := h
  have hf : Fr (fun k => v.ownBlock = some k) w w2 := ⟨hg.os, hg.tape, hg.output, hg.size, fun k hk hn => hg.block k hk (fun e => hn e.symm)⟩
  refine ⟨B, h.ld.fr hf fun k _ hb hv => h.nv k hv hb, fun k hk => ⟨(h.lo k hk).1, Nat.lt_of_lt_of_le (h.lo k hk).2 hg.size⟩, hown, fun k hk hb => ?_, fun x hx => ?_, h.bel.trans (hf.to_below h.bel.size fun k hk hv => by have := (World.ownsRow.lt h.own k hv).1; omega)⟩
  · rcases hat k hk with hk' | hk'
    · exact h.nv k hk' hb
    · have := (h.lo k hb).2; omega
  · obtain ⟨h1, h2, h3⟩ := h.px x hx
    refine ⟨(hf.block x.1 h1.lt h3).trans h1, h2, fun e => ?_⟩
    rcases hat _ e with e | e
    · exact h3 e
    · have := h1.lt; omega
theorem LX.nil7 (h : LX X W w lb db vl g s v us) : LX X W w lb db vl g s (.slice none 0 0) [] := by
  obtain ⟨B, h⟩ := h
  exact ⟨B, h.ld, h.lo, World.ownsRow_nil _ _ _ _, (fun k hk => by cases hk), (fun x hx => ⟨(h.px x hx).1, (h.px x hx).2.1, (fun e => by cases e)⟩), h.bel⟩
theorem own_one (w : World) (base : Nat) (u : Value) (hb : base ≤ w.heap.size) : (w.alloc (.cells #[u] 33)).ownsRow base 33 1 (.slice (some ⟨w.heap.size, 0, none⟩) 1 1) 1 [u] :=
  ⟨by simp, .inr ⟨w.heap.size, 1, #[u], rfl, hb, heap_alloc_new w _, Nat.le_refl _, by decide, by simp, by simp⟩⟩
/-- A list of one list. -/
theorem LX.one (h : LX X W w lb db vl g s v us) (u : Value) : LX X W (w.alloc (.cells #[u] 33)) lb db vl g s (.slice (some ⟨w.heap.size, 0, none⟩) 1 1) [u] :=
  h.rows (grown_below (below_new w _) _) (own_one w _ u h.bel.size) fun k hk => .inr (by simp [Value.ownBlock] at hk; omega)

def XP (X : List Pb) (W : World) (lb db : Nat) (v : Value) (us : List Value) (r : Int × Lg × Dk) (e : Ending) (w2 : World) : Prop := e = .returned (.int .i64 r.1) ∧ ∃ vl2, LX X W w2 lb db vl2 r.2.1 r.2.2 v us
def XU (X : List Pb) (W : World) (lb db : Nat) (vl : Value) (g : Lg) (v : Value) (us : List Value) (s : Dk) (e : Ending) (w2 : World) : Prop := e = .returned (.tuple #[]) ∧ LX X W w2 lb db vl g s v us
theorem call_lx {F : FuncId} {args : Array Value} {r : Int × Lg × Dk} (h : LX X W w lb db vl g s v us) (hc : ∀ B, LD B w lb db vl g s → (∀ k, B k → W.heap.size ≤ k ∧ k < w.heap.size) → Calls Try.prog F args w (LPost B w lb db r)) : Calls Try.prog F args w (XP X W lb db v us r) := by
  obtain ⟨B, h⟩ := h
  refine (hc B h.ld h.lo).mono ?_
  rintro e w2 ⟨he, vl', ho⟩
  exact ⟨he, vl', _, h.op ho.at_ ho.fr⟩
theorem call_xu {F : FuncId} {args : Array Value} {s2 : Dk} (h : LX X W w lb db vl g s v us) (hc : ∀ B, LD B w lb db vl g s → Calls Try.prog F args w fun e w2 => e = .returned (.tuple #[]) ∧ LOp B w w2 lb db vl g s2) : Calls Try.prog F args w (XU X W lb db vl g v us s2) := by
  obtain ⟨B, h⟩ := h
  refine (hc B h.ld).mono ?_
  rintro e w2 ⟨he, ho⟩
  exact ⟨he, _, h.op ho.at_ ho.fr⟩
theorem xAppend (h : LX X W w lb db vl g s v us) (row : ByteArray) (hx : ext (g.rows ++ [row]) ≤ 1000000000) (hn : s.pend.length + 8 + row.size ≤ 1000000) : Calls Try.prog 15 #[.pointer (some ⟨lb, 0, none⟩), .string row] w (XP X W lb db v us (g.append s row)) :=
  call_lx h fun B hB _ => appendP hB row hx hn
theorem xFlush (h : LX X W w lb db vl g s v us) (hx : ext g.rows ≤ 1000000000) (hp : s.pend.length + 16 ≤ 1000000) (hsu : g.sure ≤ 1000000000) : Calls Try.prog 10 #[.pointer (some ⟨lb, 0, none⟩)] w (XP X W lb db v us (g.flush s)) :=
  call_lx h fun B hB _ => (flushP' hB hx hp hsu).mono fun e w2 ⟨a, b⟩ => ⟨a, _, b⟩
theorem xRewrite (h : LX X W w lb db vl g s v us) (u : Value) (l : List ByteArray) (hr : Row W W.heap.size u (sv l)) (hf : 0 ≤ g.file ∧ g.file ≤ 6) (hx : ext l ≤ 900000) (hp : s.pend.length + ext l ≤ 1000000) : Calls Try.prog 11 #[.pointer (some ⟨lb, 0, none⟩), u] w (XP X W lb db v us (g.rewrite s l)) :=
  call_lx h fun B hB hlo => rewriteP hB u l (fun w' v' s' ho => row_fr hr h.bel ho.fr (fun k hk hx => by have := (hlo k hx.1).1; omega)) hf hx hp
theorem xArm (h : LX X W w lb db vl g s v us) (n : Int) (hn : n ≤ 9223372036854775807) (u : Value) (l : List Int) (hr : IRow w w.heap.size u l) (hl : l.length ≤ 1000000) : Calls Try.prog 8 #[.pointer (some ⟨db, 0, none⟩), .int .i64 n, u] w (XU X W lb db vl g v us (s.arm n l)) :=
  call_xu h fun B hB => gArm hB n hn u l hr hl
theorem xLose (h : LX X W w lb db vl g s v us) (n : Int) (hn : n ≤ 9223372036854775807) : Calls Try.prog 13 #[.pointer (some ⟨db, 0, none⟩), .int .i64 n] w (XU X W lb db vl g v us (s.lose n)) :=
  call_xu h fun B hB => call_ld hB fun Bd hd => loseP hd n hn
theorem xStart (h : LX X W w lb db vl g s v us) : Calls Try.prog 16 #[.pointer (some ⟨db, 0, none⟩)] w (XU X W lb db vl g v us s.start) :=
  call_xu h fun B hB => call_ld hB fun Bd hd => startP hd
theorem xCrash (h : LX X W w lb db vl g s v us) (u : Value) (keep : List Int) (hr : IRow w w.heap.size u keep) (hl : keep.length ≤ maxLen) : Calls Try.prog 12 #[.pointer (some ⟨db, 0, none⟩), u] w (XU X W lb db vl g v us (s.crash keep)) :=
  call_xu h fun B hB => call_ld hB fun Bd hd => crashP hd u keep hr hl
theorem xSure (h : LX X W w lb db vl g s v us) : Calls Try.prog 17 #[.pointer (some ⟨lb, 0, none⟩)] w fun e w2 => e = .returned (.int .i64 g.sure) ∧ w = w2 := by
  obtain ⟨B, h⟩ := h
  exact sureP h.ld.lg
/-- A slice of strings that lies in old memory, or in a protected block. -/
def Elm (W : World) (X : List Pb) (u : Value) (l : List ByteArray) : Prop := Row W W.heap.size u (sv l) ∨ ∃ b T cs cap, (b, T, cs) ∈ X ∧ u = .slice (some ⟨b, 0, none⟩) l.length cap ∧ ∀ k, k < l.length → cs[k]? = (sv l)[k]?
theorem Elm.row {u : Value} {l : List ByteArray} (h : Elm W X u l) (hx : LX X W w lb db vl g s v us) : Row w w.heap.size u (sv l) := by
  rcases h with h | ⟨b, T, cs, cap, hm, rfl, hc⟩
  · exact h.keep hx.bel
  · have hb := hx.box hm
    refine ⟨_, cap, by rw [sv_length], fun _ => ⟨b, 0, rfl, hb.lt, fun k hk => ?_⟩⟩
    rw [sv_length] at hk
    rw [Nat.zero_add, hb.cell k, hc k hk]
theorem Elm.mono {u : Value} {l : List ByteArray} (h : Elm W X u l) (hY : ∀ x ∈ X, x ∈ Y) : Elm W Y u l := by
  rcases h with h | ⟨b, T, cs, cap, hm, h1, h2⟩
  · exact .inl h
  · exact .inr ⟨b, T, cs, cap, hY _ hm, h1, h2⟩
def XA (X : List Pb) (W : World) (lb db : Nat) (vl : Value) (g : Lg) (s : Dk) (v : Value) (us : List Value) (e : Ending) (w2 : World) : Prop := ∃ A cap Y, e = .returned (.slice A g.rows.length cap) ∧ LX Y W w2 lb db vl g s v us ∧ (∀ x ∈ X, x ∈ Y) ∧ Elm W Y (.slice A g.rows.length cap) g.rows
theorem xAll (h : LX X W w lb db vl g s v us) : Calls Try.prog 9 #[.pointer (some ⟨lb, 0, none⟩)] w (XA X W lb db vl g s v us) := by
  have h0 := h
  obtain ⟨B, h⟩ := h
  refine (allP h.ld.lg).mono ?_
  rintro e w2 ⟨u, he, ho, hb⟩
  rcases ho.2 with ⟨rfl, hn⟩ | ⟨n, cap, cur, rfl, h1, h2, h3, h4, h5, h6⟩
  · refine ⟨Option.none, 0, X, by rw [he, hn], h0.below hb, fun x hx => hx, .inl ⟨Option.none, 0, by rw [sv_length], fun hlt => ?_⟩⟩
    rw [sv_length] at hlt; omega
  · refine ⟨_, cap, (n, 9, cur) :: X, he, h0.prot hb h1 h2, fun x hx => List.mem_cons_of_mem _ hx, .inr ⟨n, 9, cur, cap, by simp, rfl, fun k hk => ?_⟩⟩
    have hl : (sv g.rows).length = g.rows.length := sv_length _
    have e1 : cur[k]? = (cur.toList.take (g.rows.length * 1))[k]? := by
      rw [List.getElem?_take, if_pos (by omega), Array.getElem?_toList]
    rw [e1, h6]
def XO (X : List Pb) (W : World) (db : Nat) (R : List ByteArray) (s : Dk) (v : Value) (us : List Value) (e : Ending) (w2 : World) : Prop := ∃ lb2 vl2, e = .returned (.tuple #[.pointer (some ⟨lb2, 0, Option.none⟩), .int .i64 0]) ∧ LX X W w2 lb2 db vl2 ⟨3, R, R.length⟩ s v us
theorem xOpen (h : LX X W w lb db vl g s v us) (R : List ByteArray) (hr : Re s R) : Calls Try.prog 7 #[.pointer (some ⟨db, 0, Option.none⟩), .int .i64 3] w (XO X W db R s v us) := by
  obtain ⟨B, h⟩ := h
  have hz := hr.sz
  refine (openP h.ld.dsk 3 (by rw [hr.rd]; simp only; omega)).mono ?_
  rintro e w2 ⟨hb, ho⟩
  rw [if_neg (by decide), hr.rd, if_neg (fun h => h rfl)] at ho
  simp only [hr.pa] at ho
  obtain ⟨lb2, v2, h1, h2, he, h3⟩ := ho
  refine ⟨lb2, v2, he, _, h.op (lb2 := lb2) (vl2 := v2) (g2 := ⟨3, R, R.length⟩) (s2 := s) ⟨fun k => B k ∧ k < w.heap.size, (h.ld.dsk.mono fun k hk hx => ⟨hx, hk⟩).below hb, h3, fun hx => by have := hx.2; omega, fun k hk => ⟨fun hx => by have := h2 k hk; have := hx.2; omega, .inr ⟨h2 k hk, h3.vlt k hk⟩⟩, fun k _ hx => .inl hx.1, .inr ⟨h1, h3.bx.lt⟩⟩ (Fr.below hb)⟩
end
end Go.Proofs.Ytognomkhkoiabaa

namespace Go.Proofs.Ytognomkhkoiabaa
set_option linter.unusedVariables false
set_option linter.unusedSimpArgs false
open Go.RowKit

/-- The lists M in memory. -/
structure Lists (W : World) (X : List Pb) (us : List Value) (M : List (List ByteArray)) : Prop where
  len : us.length = M.length
  at_ : ∀ (i : Nat) (u : Value), us[i]? = some u → ∃ l, M[i]? = some l ∧ Elm W X u l
theorem Lists.mono {W : World} {X Y : List Pb} {us : List Value} {M : List (List ByteArray)} (h : Lists W X us M) (hY : ∀ x ∈ X, x ∈ Y) : Lists W Y us M :=
  ⟨h.len, fun i u hu => by obtain ⟨l, h1, h2⟩ := h.at_ i u hu; exact ⟨l, h1, h2.mono hY⟩⟩
theorem Lists.nil (W : World) (X : List Pb) : Lists W X [] [] := ⟨rfl, fun i u h => by simp at h⟩
theorem Lists.snoc {W : World} {X : List Pb} {us : List Value} {M : List (List ByteArray)} (h : Lists W X us M) {u : Value} {l : List ByteArray} (he : Elm W X u l) : Lists W X (us ++ [u]) (M ++ [l]) := by
  have hl := h.len
  refine ⟨by simp [hl], fun i y hy => ?_⟩
  by_cases hi : i < us.length
  · rw [List.getElem?_append_left hi] at hy
    obtain ⟨l', h1, h2⟩ := h.at_ i y hy
    exact ⟨l', by rw [List.getElem?_append_left (by omega)]; exact h1, h2⟩
  · rw [List.getElem?_append_right (by omega)] at hy
    have hi0 : i - us.length = 0 := by
      rcases Nat.eq_zero_or_pos (i - us.length) with h | h
      · exact h
      · rw [List.getElem?_eq_none (by simp; omega)] at hy; cases hy
    rw [hi0] at hy
    simp at hy
    subst hy
    refine ⟨l, ?_, he⟩
    rw [List.getElem?_append_right (by omega), show i - M.length = 0 by omega]
    rfl
theorem Lists.one {W : World} {X : List Pb} {u : Value} {l : List ByteArray} (he : Elm W X u l) : Lists W X [u] [l] := (Lists.nil W X).snoc he

def FdRel (w0 : World) (M : List (List ByteArray)) (R : List ByteArray) (i : Value) (wl : World) : Prop := ∃ k : Nat, i = .int .i64 k ∧ k ≤ M.length ∧ (∀ j, j < k → M[j]? ≠ some R) ∧ Below w0.heap.size w0 wl
set_option maxRecDepth 100000 in
set_option maxHeartbeats 4000000 in
theorem foundP (R : List ByteArray) (M : List (List ByteArray)) (us : List Value) (u v : Value) (w : World) (hu : Row w w.heap.size u (sv R)) (hv : Row w w.heap.size v us) (hl : us.length = M.length)
    (hM : ∀ (i : Nat) (y : Value), us[i]? = some y → ∃ l, M[i]? = some l ∧ Row w w.heap.size y (sv l)) (hR : R.length ≤ 1000000000000) (hb : ∀ l ∈ M, l.length ≤ 1000000000000) (hML : M.length ≤ 1000000) (hin : R ∈ M) :
    Calls Try.prog 18 #[u, v] w fun e w2 => e = .returned (.bool true) ∧ Below w.heap.size w w2 := by
  obtain ⟨A, cap, rfl, hA⟩ := hv
  rw [hl] at hA ⊢
  have HU := Lib.hid hu
  have HM := Lib.hid hM
  have HA := Lib.hid hA
  have HL := Lib.hid hl
  have HB := Lib.hid hb
  have HI := Lib.hid hin
  clear hu hM hA hl hb hin
  go_enter Try.func18, Try.ntmps18
  go_wp2_with fail
  go_loopw [5] (fun i wl => FdRel w M R i wl) (fun i _ => M.length - (intOf i).toNat)
  case atStart => exact ⟨0, rfl, Nat.zero_le _, fun j h => by omega, Below.refl _ _⟩
  case round =>
    obtain ⟨k, rfl, hk, hno, hbel⟩ := hrel
    have HNO := Lib.hid hno; clear hno
    by_cases hlt : k < M.length
    · obtain ⟨b, off, rfl, hb, hc⟩ := HA.out (by omega)
      have c0 := (hbel.cell (p := ⟨b, off + k, none⟩) hb).trans (hc k hlt)
      obtain ⟨y, hy⟩ : ∃ y, us[k]? = some y := ⟨_, List.getElem?_eq_getElem (by rw [HL.out]; exact hlt)⟩
      obtain ⟨l, hml, hr⟩ := HM.out k y hy
      rw [hy] at c0
      have q1 : (k : Int) < M.length := by omega
      have HC := Lib.hid (sameP R l u y wr (HU.out.keep hbel) (hr.keep hbel) hR (HB.out l (List.mem_of_getElem? hml)))
      have HBEL := Lib.hid hbel
      have HK := Lib.hid hml
      clear hc hy hr hbel hml
      by_cases he : R = l
      · rw [decide_eq_true he] at HC
        clear he
        go_wp2_with fail
        refine HC.out.mono ?_; rintro e w2 ⟨rfl, hb2⟩
        have HE := Lib.hid (HBEL.out.trans (hb2.mono HBEL.out.size))
        clear hb2 HC
        go_wp2_with fail
        go_ret
        exact ⟨rfl, HE.out⟩
      · rw [decide_eq_false he] at HC
        have HNE := Lib.hid he
        clear he
        go_wp2_with fail
        refine HC.out.mono ?_; rintro e w2 ⟨rfl, hb2⟩
        have HE := Lib.hid (HBEL.out.trans (hb2.mono HBEL.out.size))
        clear hb2 HC
        go_wp2_with fail
        go_roundw
        case rel => exact ⟨k + 1, by go_num, by omega, fun j hj => if e : j = k then by subst e; rw [HK.out]; intro h; injection h with h; exact HNE.out h.symm else HNO.out j (by omega), HE.out⟩
        case measure => simp [intOf]; omega
    · exfalso
      obtain ⟨j, hj, hjR⟩ := List.mem_iff_getElem.1 HI.out
      exact HNO.out j (by omega) (by rw [List.getElem?_eq_getElem hj, hjR])
end Go.Proofs.Ytognomkhkoiabaa

namespace Go.Proofs.Ytognomkhkoiabaa
set_option linter.unusedVariables false
set_option linter.unusedSimpArgs false
open Go.RowKit

theorem LX.start {W w : World} {lb db : Nat} {vl : Value} {g : Lg} {s : Dk} (h : LJ W w lb db vl g s) : LX [] W w lb db vl g s (.slice none 0 0) [] :=
  ⟨_, h.1.tight, fun k hk => hk, World.ownsRow_nil _ _ _ _, (fun k hk => by cases hk), (fun x hx => by cases hx), h.2⟩
theorem LX.drew {X : List Pb} {W w : World} {lb db : Nat} {vl v : Value} {g : Lg} {s : Dk} {us : List Value} (h : LX X W w lb db vl g s v us) : LX X W w.drew lb db vl g s v us := h.below ⟨rfl, rfl, rfl, Nat.le_refl _, fun _ _ => rfl⟩
/-- Before a deed. -/
structure Pu (W : World) (k : Nat) (X : List Pb) (us : List Value) (M : List (List ByteArray)) (g : Lg) (s : Dk) : Prop where
  li : Lists W X us M
  lv : ∃ R0 R1, R0 ∈ M ∧ R1 ∈ M ∧ Lv s g R0 R1
  gi : GI 3 k g s
  ml : ∀ r ∈ M, r.length ≤ 1000000000
  mn : M.length ≤ k + 1
/-- Behind a deed that answered E. -/
structure Aft (W : World) (k : Nat) (X : List Pb) (us : List Value) (M : List (List ByteArray)) (E : Int) (g : Lg) (s : Dk) : Prop where
  li : Lists W X us M
  cs : (E = 10 ∧ ∃ R, R ∈ M ∧ Dd s R) ∨ (E ≠ 10 ∧ ∃ R0 R1, R0 ∈ M ∧ R1 ∈ M ∧ Lv s g R0 R1)
  gi : GI 3 (k + 1) g s
  ml : ∀ r ∈ M, r.length ≤ 1000000000
  mn : M.length ≤ k + 2
section
variable {W : World} {k : Nat} {X Y : List Pb} {us : List Value} {M : List (List ByteArray)} {g : Lg} {s : Dk}
theorem Pu.mono (h : Pu W k X us M g s) (hY : ∀ x ∈ X, x ∈ Y) : Pu W k Y us M g s := ⟨h.li.mono hY, h.lv, h.gi, h.ml, h.mn⟩
theorem Pu.arm (h : Pu W k X us M g s) (n : Int) (q : List Int) : Pu W k X us M g (s.arm n q) := by
  obtain ⟨R0, R1, a, b, c⟩ := h.lv
  exact ⟨h.li, ⟨R0, R1, a, b, c.arm n q⟩, ⟨h.gi.fi, h.gi.ex, h.gi.su, h.gi.pe⟩, h.ml, h.mn⟩
theorem Pu.append (h : Pu W k X us M g s) (hk : k < 30) (row : ByteArray) (hr : row.size ≤ 200) : Aft W k X us M (g.append s row).1 (g.append s row).2.1 (g.append s row).2.2 := by
  obtain ⟨R0, R1, a, b, c⟩ := h.lv
  refine ⟨h.li, ?_, h.gi.append hr, h.ml, by have := h.mn; omega⟩
  rcases c.append a b row with h | ⟨h1, _, h⟩ | ⟨h1, h⟩
  · exact .inl h
  · exact .inr ⟨h1, h⟩
  · exact .inr ⟨by rw [h1]; decide, h⟩
theorem glen (h : GI 3 k g s) (hk : k < 100) : g.rows.length ≤ 1000000000 := by
  have := h.ex
  have := ext_len g.rows
  omega
theorem Pu.flush0 (h : Pu W k X us M g s) (hk : k < 30) {u : Value} (hu : Elm W X u g.rows) (h0 : (g.flush s).1 = 0) : Aft W k X ([] ++ [u]) [g.rows] 0 (g.flush s).2.1 (g.flush s).2.2 := by
  obtain ⟨R0, R1, a, b, c⟩ := h.lv
  refine ⟨Lists.one hu, ?_, h.gi.flush (by omega), fun r hr => ?_, by show 1 ≤ _; omega⟩
  · rcases c.flush a b with ⟨h1, _⟩ | ⟨_, h1, _⟩ | ⟨h1, h⟩
    · rw [h0] at h1; exact absurd h1 (by decide)
    · exact absurd h0 h1
    · exact .inr ⟨by decide, h⟩
  · rw [List.mem_singleton] at hr
    rw [hr]
    exact glen h.gi (by omega)
theorem Pu.flush1 (h : Pu W k X us M g s) (hk : k < 30) {u : Value} (hu : Elm W X u g.rows) (h0 : (g.flush s).1 ≠ 0) : Aft W k X (us ++ [u]) (M ++ [g.rows]) (g.flush s).1 (g.flush s).2.1 (g.flush s).2.2 := by
  obtain ⟨R0, R1, a, b, c⟩ := h.lv
  refine ⟨h.li.snoc hu, ?_, h.gi.flush (by omega), fun r hr => ?_, by rw [List.length_append]; have := h.mn; simp; omega⟩
  · rcases c.flush a b with h | ⟨h1, _, h⟩ | ⟨h1, h⟩
    · exact .inl h
    · exact .inr ⟨h1, h⟩
    · exact absurd h1 h0
  · rcases List.mem_append.1 hr with hr | hr
    · exact h.ml r hr
    · rw [List.mem_singleton] at hr
      rw [hr]
      exact glen h.gi (by omega)
theorem Pu.rewrite0 (h : Pu W k X us M g s) (hk : k < 30) {u : Value} (l : List ByteArray) (hx : ext l ≤ 1264) (hu : Elm W X u l) (h0 : (g.rewrite s l).1 = 0) : Aft W k X ([] ++ [u]) [l] 0 (g.rewrite s l).2.1 (g.rewrite s l).2.2 := by
  obtain ⟨R0, R1, a, b, c⟩ := h.lv
  refine ⟨Lists.one hu, ?_, h.gi.rewrite hx, fun r hr => ?_, by show 1 ≤ _; omega⟩
  · rcases c.rewrite a b l (by omega) with ⟨h1, _⟩ | ⟨_, h1, _⟩ | ⟨h1, h⟩
    · rw [h0] at h1; exact absurd h1 (by decide)
    · exact absurd h0 h1
    · exact .inr ⟨by decide, h⟩
  · rw [List.mem_singleton] at hr
    rw [hr]
    have := ext_len l
    omega
theorem Pu.rewrite1 (h : Pu W k X us M g s) (hk : k < 30) {u : Value} (l : List ByteArray) (hx : ext l ≤ 1264) (hu : Elm W X u l) (h0 : (g.rewrite s l).1 ≠ 0) : Aft W k X (us ++ [u]) (M ++ [l]) (g.rewrite s l).1 (g.rewrite s l).2.1 (g.rewrite s l).2.2 := by
  obtain ⟨R0, R1, a, b, c⟩ := h.lv
  refine ⟨h.li.snoc hu, ?_, h.gi.rewrite hx, fun r hr => ?_, by rw [List.length_append]; have := h.mn; simp; omega⟩
  · rcases c.rewrite a b l (by omega) with h | ⟨h1, _, h⟩ | ⟨h1, h⟩
    · exact .inl h
    · exact .inr ⟨h1, h⟩
    · exact absurd h1 h0
  · rcases List.mem_append.1 hr with hr | hr
    · exact h.ml r hr
    · rw [List.mem_singleton] at hr
      rw [hr]
      have := ext_len l
      omega
theorem Pu.crash (h : Pu W k X us M g s) (q : List Int) : Aft W k X us M 10 g (s.crash q) := by
  obtain ⟨R0, R1, a, b, c⟩ := h.lv
  have h1 := Dk.crash_pend s q
  exact ⟨h.li, .inl ⟨rfl, c.crash a b q⟩, ⟨h.gi.fi, Nat.le_trans h.gi.ex (by omega), h.gi.su, by have := h.gi.pe; omega⟩, h.ml, by have := h.mn; omega⟩
theorem Pu.lose (h : Pu W k X us M g s) (n : Int) : Aft W k X us M 0 g (s.lose n) := by
  obtain ⟨R0, R1, a, b, c⟩ := h.lv
  exact ⟨h.li, .inr ⟨by decide, R0, R1, a, b, c.lose n⟩, ⟨h.gi.fi, Nat.le_trans h.gi.ex (by omega), h.gi.su, Nat.le_trans h.gi.pe (by omega)⟩, h.ml, by have := h.mn; omega⟩
theorem Aft.next {E : Int} (h : Aft W k X us M E g s) (hE : E ≠ 10) : Pu W (k + 1) X us M g s := by
  rcases h.cs with ⟨h1, _⟩ | ⟨_, h1⟩
  · exact absurd h1 hE
  · exact ⟨h.li, h1, h.gi, h.ml, h.mn⟩
theorem Aft.dead {E : Int} (h : Aft W k X us M E g s) (hE : E = 10) (hok : s.ok) : ∃ R, R ∈ M ∧ Re (((s.arm 0 []).lose 0).start) R := by
  rcases h.cs with ⟨_, R, h1, h2⟩ | ⟨h1, _⟩
  · exact ⟨R, h1, h2.again hok⟩
  · exact absurd hE h1
/-- The log has been opened again. -/
theorem Re.next {R : List ByteArray} (h : Re s R) (k : Nat) {u : Value} (hu : Elm W X u R) : Pu W (k + 1) X [u] [R] ⟨3, R, R.length⟩ s := by
  refine ⟨Lists.one hu, ⟨R, R, by simp, by simp, h.lv⟩, h.gi _, fun r hr => ?_, by show 1 ≤ _; omega⟩
  rw [List.mem_singleton] at hr
  rw [hr]
  exact (h.gi 0).su
theorem pu0 : Pu W 0 [] [.slice none 0 0] [[]] ⟨3, [], ([] : List ByteArray).length⟩ dk0 := by
  refine ⟨Lists.one (.inl ⟨none, 0, rfl, fun h => by simp [sv] at h⟩), ⟨[], [], by simp, by simp, re_begin.lv⟩, re_begin.gi 0, fun r hr => ?_, Nat.le_refl _⟩
  rw [List.mem_singleton] at hr
  rw [hr]; decide
end
def JRel (W : World) (n : Nat) (l : List De) (db q : Nat) (lv mv av iv : Value) (wl : World) : Prop := ∃ (k A lb : Nat) (X : List Pb) (vl v : Value) (g : Lg) (s : Dk) (us : List Value) (M : List (List ByteArray)), lv = .pointer (some ⟨lb, 0, none⟩) ∧ mv = v ∧ av = .int .i64 A ∧ iv = .int .i64 k ∧ k ≤ l.length ∧ q = l.length - k ∧ A ≤ n ∧ LX X W wl lb db vl g s v us ∧ Pu W k X us M g s
def ArmRel (W : World) (n k : Nat) (X : List Pb) (lb db : Nat) (vl : Value) (g : Lg) (v : Value) (us : List Value) (M : List (List ByteArray)) (av : Value) (wl : World) : Prop := ∃ (A : Nat) (s : Dk), av = .int .i64 A ∧ A ≤ n ∧ LX X W wl lb db vl g s v us ∧ Pu W k X us M g s
def DoneRel (W : World) (k lb db : Nat) (ev mv : Value) (wl : World) : Prop := ∃ (E : Int) (X : List Pb) (vl v : Value) (g : Lg) (s : Dk) (us : List Value) (M : List (List ByteArray)), ev = .int .i64 E ∧ mv = v ∧ LX X W wl lb db vl g s v us ∧ Aft W k X us M E g s
def BRel (A n : Nat) (W1 : World) (bv : Value) (wl : World) : Prop := ∃ b : Bool, bv = .bool b ∧ (b = true → A < n) ∧ wl = W1
end Go.Proofs.Ytognomkhkoiabaa
