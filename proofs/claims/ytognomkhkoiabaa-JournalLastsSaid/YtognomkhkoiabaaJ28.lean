/-
  Layer 7: steps of the law JournalTurns.
-/
import Derived.Test.YtognomkhkoiabaaJ27
namespace Go.Proofs.Ytognomkhkoiabaa
set_option linter.unusedVariables false
set_option linter.unusedSimpArgs false
open Go.ChangeShapes Go.WideShapes Go.RowKit Go.Joins Go.Deep

section
variable {H : Type} {enc' : TypeId × Value → H} {W : World}
set_option maxRecDepth 100000 in
theorem open_rows7 {v : Value} {d : DataW H} {p : List MemPlace} {b0 : Nat} {r : Reach} (hv : Value.okWide Try.prog W r b0 33 v) (h : DataW.Trod enc' Try.prog W 0 (fun _ => true) true 33 v d p) :
    ∃ l : List ByteArray, Row W W.heap.size v (sv l) := by
  obtain ⟨A, len, cap, rfl⟩ := okWide_slice Try.underlying33 hv
  obtain ⟨fuel, hf⟩ := h
  obtain ⟨v, hcs, l, h1⟩ := strs_of7 hf
  have he : (Value.slice A len cap) = v := by simpa [Value.cells] using hcs
  rw [he]; exact ⟨l, h1⟩
end
theorem row_heap {W w2 w' : World} {u : Value} {xs : List Value} (h : Row W W.heap.size u xs) (hb : Below W.heap.size W w2) (hk : ∀ k, k < W.heap.size → w'.heap[k]? = w2.heap[k]?) (hs : w2.heap.size ≤ w'.heap.size) : Row w' w'.heap.size u xs := by
  obtain ⟨A, cap, hv, hA⟩ := h
  refine ⟨A, cap, hv, fun h0 => ?_⟩
  obtain ⟨b, off, ha, hB, hc⟩ := hA h0
  have := hb.size
  refine ⟨b, off, ha, by omega, fun k hk' => ?_⟩
  rw [← hc k hk', ← hb.cell (p := ⟨b, off + k, none⟩) hB]
  unfold World.cell?
  rw [hk b hB]
/-- Rewrite with rows that lie in old memory. -/
theorem jRewriteO {W w1 : World} {lb db : Nat} {v : Value} {g : Lg} {s : Dk} (h : LJ W w1 lb db v g s) (u : Value) (l : List ByteArray) (hr : Row W W.heap.size u (sv l)) (hf : 0 ≤ g.file ∧ g.file ≤ 6) (hx : ext l ≤ 900000) (hp : s.pend.length + ext l ≤ 1000000) :
    Calls Try.prog 11 #[.pointer (some ⟨lb, 0, none⟩), u] w1 (JP W lb db (g.rewrite s l)) :=
  jRewrite h (Below.refl _ _) u l (fun w' hk hs => row_heap hr h.2 (fun k hk' => hk k (.inl hk') (by have := h.2.size; omega)) hs) hf hx hp
theorem gArm {B : Nat → Prop} {w : World} {lb db : Nat} {v : Value} {g : Lg} {s : Dk} (h : LD B w lb db v g s) (n : Int) (hn : n ≤ 9223372036854775807) (u : Value) (l : List Int) (hr : IRow w w.heap.size u l) (hl : l.length ≤ 1000000) : Calls Try.prog 8 #[.pointer (some ⟨db, 0, none⟩), .int .i64 n, u] w fun e w' => e = .returned (.tuple #[]) ∧ LOp B w w' lb db v g (s.arm n l) := call_ld h fun Bd hB => armP hB n hn u l hr hl
theorem jArm {W w1 : World} {lb db : Nat} {v : Value} {g : Lg} {s : Dk} (h : LJ W w1 lb db v g s) (n : Int) (hn : n ≤ 9223372036854775807) (u : Value) (l : List Int) (hr : IRow w1 w1.heap.size u l) (hl : l.length ≤ 1000000) : Calls Try.prog 8 #[.pointer (some ⟨db, 0, none⟩), .int .i64 n, u] w1 fun e w' => e = .returned (.tuple #[]) ∧ LJ W w' lb db v g (s.arm n l) := (gArm h.1 n hn u l hr hl).mono fun e w' ⟨a, b⟩ => ⟨a, h.op b⟩
theorem tmod5 (n : Int) : (0 ≤ n → n.tmod 5 = n % 5) ∧ (n < 0 → (n.tmod 5 < 0 → n.tmod 5 + 5 = n % 5) ∧ (¬ n.tmod 5 < 0 → n.tmod 5 = n % 5)) ∧ -5 < n.tmod 5 ∧ n.tmod 5 < 5 := by
  have h1 := Int.tmod_eq_emod (a := n) (b := 5)
  split at h1
  · omega
  · have : ¬ (5 : Int) = 0 := by omega
    simp at h1
    omega
set_option maxHeartbeats 1000000 in
theorem pick5P (n : Int) (h0 : -9223372036854775808 ≤ n) (h1 : n ≤ 9223372036854775807) (w : World) : Calls Try.prog 14 #[.int .i64 n, .int .i64 5] w fun e w' => e = .returned (.int .i64 (n % 5)) ∧ w = w' := by
  obtain ⟨t1, t2, t3, t4⟩ := tmod5 n
  have HT : Hid ((n.tmod 5 < 0 → n.tmod 5 + 5 = n % 5) ∧ (¬ n.tmod 5 < 0 → n.tmod 5 = n % 5)) := by
    show _ ∧ _
    by_cases hn : 0 ≤ n
    · have := t1 hn; omega
    · exact t2 (by omega)
  obtain ⟨R, hR⟩ : ∃ R, n % 5 = R := ⟨_, rfl⟩
  rw [hR] at HT ⊢
  obtain ⟨T, hT⟩ : ∃ T, n.tmod 5 = T := ⟨_, rfl⟩
  rw [hT] at HT t3 t4
  have e1 : IntKind.i64.wrap (n.tmod 5) = T := by rw [hT]; exact IntWalk.i64_in _ (by omega)
  have e2 : IntKind.i64.wrap T = T := IntWalk.i64_in _ (by omega)
  clear t1 t2 hR
  by_cases hn : T < 0
  all_goals
    go_enter Try.func14, Try.ntmps14
    go_wp2_with fail
    go_ret
    refine ⟨?_, rfl⟩
    first | (rw [← HT.out.1 hn]; first | rfl | go_num) | (rw [← HT.out.2 hn]; first | rfl | go_num)
/-- The two deeds that few is asked of. -/
theorem erow2 {w : World} {v0 v1 v3 : Value} {old rows : List ByteArray} {keep : List Int} (h0 : Row w w.heap.size v0 (sv old)) (h1 : Row w w.heap.size v1 (sv rows)) (h3 : IRow w w.heap.size v3 keep) :
    ERow (w.alloc (.cells #[.int .i64 0, .string (bs []), v0, v3, .int .i64 0, .int .i64 0, .string (bs []), v1, .slice none 0 0, .int .i64 0] 35)) (w.alloc (.cells #[.int .i64 0, .string (bs []), v0, v3, .int .i64 0, .int .i64 0, .string (bs []), v1, .slice none 0 0, .int .i64 0] 35)).heap.size (.slice (some ⟨w.heap.size, 0, none⟩) 2 2) [⟨0, bs [], old, keep, 0⟩, ⟨0, bs [], rows, [], 0⟩] := by
  have hb := Blk.new w 35 #[.int .i64 0, .string (bs []), v0, v3, .int .i64 0, .int .i64 0, .string (bs []), v1, .slice none 0 0, .int .i64 0]
  have hbl := below_new w (.cells #[.int .i64 0, .string (bs []), v0, v3, .int .i64 0, .int .i64 0, .string (bs []), v1, .slice none 0 0, .int .i64 0] 35)
  refine ⟨some ⟨w.heap.size, 0, none⟩, 2, rfl, fun _ => ⟨w.heap.size, 0, rfl, hb.lt, fun k hk => ?_⟩⟩
  match k, hk with
  | 0, _ => exact ⟨v0, v3, h0.keep hbl, h3.keep hbl, hb.cell 0, hb.cell 1, hb.cell 2, hb.cell 3, hb.cell 4⟩
  | 1, _ => exact ⟨v1, .slice none 0 0, h1.keep hbl, irow_nil _ _, hb.cell 5, hb.cell 6, hb.cell 7, hb.cell 8, hb.cell 9⟩
theorem Dn.start {s : Dk} {f : Nat} {x : ByteArray} (h : Dn s f x) : Up s.start f x s.calls := ⟨rfl, h.lo, rfl, h.dl, h.d5⟩
theorem rw_ok {f : Nat} {l : List ByteArray} {x : ByteArray} {r : Int × Lg × Dk} (h : RwOut f l x 0 r) : ∃ s', r = (0, ⟨f, l, l.length⟩, s') ∧ Up s' f (whl l) 0 ∧ s'.pend = [] := by
  obtain ⟨E, g, s⟩ := r
  rcases h.cases_ with ⟨_, h0, _⟩ | ⟨h1, h2, h3, h4⟩
  · exact absurd rfl h0
  · simp only at h1 h2 h3 h4
    subst h1; subst h2
    exact ⟨s, rfl, h3, h4⟩
end Go.Proofs.Ytognomkhkoiabaa
