/-
  Package journal: a log in memory.
-/
import Derived.Test.YtognomkhkoiabaaJ4
import Derived.Test.YtognomkhkoiabaaDm
namespace Go.Proofs.Ytognomkhkoiabaa
set_option linter.unusedVariables false
set_option linter.unusedSimpArgs false
open Go.RowKit

/-- A log in plain words: the end is the extent of its rows. -/
structure Lg where
  file : Int
  rows : List ByteArray
  sure : Nat
/-- The log g of the disk at db lies at lb; v is its slice of rows. -/
structure LgAt (w : World) (lb db : Nat) (v : Value) (g : Lg) : Prop where
  bx : Blk w lb 59 #[.pointer (some ⟨db, 0, none⟩), .int .i64 g.file, v, .int .i64 g.sure, .int .i64 (ext g.rows)]
  own : w.ownsRow 0 9 1 v g.rows.length (sv g.rows)
  ne : v.ownBlock ≠ some lb
  big : ext g.rows ≤ 1000000000000

theorem LgAt.form {w : World} {lb db : Nat} {v : Value} {g : Lg} (h : LgAt w lb db v g) : ∃ A cap, v = .slice A g.rows.length cap := by
  obtain ⟨A, cap, e, _⟩ := Row.of_own h.own
  rw [sv_length] at e
  exact ⟨A, cap, e⟩
theorem LgAt.heap {w w' : World} {lb db : Nat} {v : Value} {g : Lg} (h : LgAt w lb db v g) (hb : ∀ k, k < w.heap.size → (k = lb ∨ v.ownBlock = some k) → w'.heap[k]? = w.heap[k]?) : LgAt w' lb db v g := by
  refine ⟨(hb lb h.bx.lt (.inl rfl)).trans h.bx, ⟨h.own.1, ?_⟩, h.ne, h.big⟩
  rcases h.own.2 with h | ⟨k, cap, cur, rfl, h2, h3, r⟩
  · exact .inl h
  · exact .inr ⟨k, cap, cur, rfl, h2, (hb k (Array.getElem?_eq_some_iff.1 h3).1 (.inr rfl)).trans h3, r⟩

theorem sureP {w : World} {lb db : Nat} {v : Value} {g : Lg} (h : LgAt w lb db v g) :
    Calls Try.prog 17 #[.pointer (some ⟨lb, 0, none⟩)] w fun e w' => e = .returned (.int .i64 g.sure) ∧ w = w' := by
  have hx := h.bx
  have c3 := hx.cell 3
  obtain ⟨n, hn⟩ : ∃ n, g.sure = n := ⟨_, rfl⟩
  rw [hn] at c3 ⊢
  clear hn hx h
  simp at c3
  go_enter Try.func17, Try.ntmps17
  go_wp2_with fail
  go_ret
  exact ⟨rfl, rfl⟩

theorem allP {w : World} {lb db : Nat} {v : Value} {g : Lg} (h : LgAt w lb db v g) :
    Calls Try.prog 9 #[.pointer (some ⟨lb, 0, none⟩)] w fun e w' => ∃ u, e = .returned u ∧ w'.ownsRow w.heap.size 9 1 u g.rows.length (sv g.rows) ∧ Below w.heap.size w w' := by
  have hx := h.bx
  have c2 := hx.cell 2
  have hll : g.rows.length ≤ 1000000000000 := Nat.le_trans (ext_len _) h.big
  obtain ⟨A, cap, he, hA⟩ := Row.of_own h.own
  rw [sv_length] at he hA
  subst he
  obtain ⟨l, hl⟩ : ∃ l, g.rows = l := ⟨_, rfl⟩
  rw [hl] at c2 hA hll ⊢
  clear hl hx
  have HC : Hid (Calls Try.prog 24 #[.slice A l.length cap] w fun e w' => ∃ u, e = .returned u ∧ w'.ownsRow w.heap.size 9 1 u l.length (sv l) ∧ Below w.heap.size w w') := Lib.hid (by
    rcases A with _ | a
    · rcases Nat.eq_zero_or_pos l.length with h0 | h0
      · obtain rfl : l = [] := List.eq_nil_of_length_eq_zero h0
        refine (Try.slices_Clone_string_nil _ _ w).mono ?_
        rintro e w' ⟨rfl, rfl⟩
        exact ⟨_, rfl, World.ownsRow_nil _ _ _ _, Below.refl _ _⟩
      · obtain ⟨b, off, e, _⟩ := hA h0
        cases e
    · rcases Nat.eq_zero_or_pos l.length with h0 | h0
      · obtain rfl : l = [] := List.eq_nil_of_length_eq_zero h0
        refine (Try.slices_Clone_string_zero a _ w).mono ?_
        rintro e w' ⟨u, rfl, h1, _, h2⟩
        exact ⟨u, rfl, h1, h2⟩
      · obtain ⟨b, off, e, _, hc⟩ := hA h0
        cases e
        refine (Try.slices_Clone_string b off l.length cap l w (Nat.le_refl _) (by omega) (fun j hj => ?_)).mono ?_
        · rw [hc j hj, sv_get l j hj, List.getD_eq_getElem?_getD, List.getElem?_eq_getElem hj]; rfl
        · rintro e w' ⟨u, rfl, h1, _, h2⟩
          rw [List.take_length] at h1
          exact ⟨u, rfl, h1, h2⟩)
  simp at c2
  clear hA h
  go_enter Try.func9, Try.ntmps9
  go_wp2_with fail
  refine HC.out.mono ?_; rintro e w2 ⟨u, rfl, h1, h2⟩
  have H1 := Lib.hid h1
  have H2 := Lib.hid h2
  clear h1 h2
  go_wp2_with fail
  go_ret
  exact ⟨u, rfl, H1.out, H2.out⟩
end Go.Proofs.Ytognomkhkoiabaa
