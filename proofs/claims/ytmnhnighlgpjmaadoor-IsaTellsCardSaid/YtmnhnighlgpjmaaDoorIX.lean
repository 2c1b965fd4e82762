/-
  Parsing, and blanks laid in front, behind, and around commas: plain mathematics.
-/
import Derived.Test.YtmnhnighlgpjmaaDoorIO
namespace Go.Proofs.YtmnhnighlgpjmaaDoor
set_option linter.unusedVariables false
set_option linter.unusedSimpArgs false
open Go.RowKit

theorem mem_tw {p : UInt8 → Bool} : ∀ {l : List UInt8} {b : UInt8}, b ∈ l.takeWhile p → p b = true
  | [], b, h => absurd h (List.not_mem_nil)
  | x :: l, b, h => by
    rw [List.takeWhile_cons] at h
    cases hp : p x
    · rw [hp, if_neg (by decide)] at h; exact absurd h (List.not_mem_nil)
    · rw [hp, if_pos rfl] at h
      rcases List.mem_cons.1 h with rfl | h
      · exact hp
      · exact mem_tw h
/-- All bytes of a list are blanks. -/
def Bls (l : List UInt8) : Prop := ∀ b ∈ l, isBl b = true
theorem Bls.nil : Bls [] := fun b h => absurd h (List.not_mem_nil)
theorem Bls.one {c : UInt8} (h : isBl c = true) : Bls [c] := fun b hb => by rw [List.mem_singleton.1 hb]; exact h
theorem Bls.app {a b : List UInt8} (h : Bls a) (h2 : Bls b) : Bls (a ++ b) := fun x hx => (List.mem_append.1 hx).elim (h x) (h2 x)

def tR (l : List UInt8) : List UInt8 := (l.reverse.dropWhile isBl).reverse
theorem trim_eq (l : List UInt8) : Lib.trimS l blk = (tR l).dropWhile isBl := rfl

theorem drop_nil_of {l : List UInt8} (h : Bls l) : l.dropWhile isBl = [] := by
  have := List.dropWhile_append_of_pos (p := isBl) (l₁ := l) (l₂ := []) h
  rwa [List.append_nil] at this
theorem Bls.rev {l : List UInt8} (h : Bls l) : Bls l.reverse := fun b hb => h b (List.mem_reverse.1 hb)
theorem tR_bls {l : List UInt8} (h : Bls l) : tR l = [] := by
  unfold tR; rw [drop_nil_of h.rev]; rfl
theorem tR_app {l y : List UInt8} (h : Bls y) : tR (l ++ y) = tR l := by
  unfold tR; rw [List.reverse_append, List.dropWhile_append_of_pos h.rev]
/-- What stands before what stays. -/
theorem tR_pre (a l : List UInt8) : tR (a ++ l) = if tR l = [] then tR a else a ++ tR l := by
  unfold tR
  rw [List.reverse_append, List.dropWhile_append]
  cases h : l.reverse.dropWhile isBl with
  | nil => rfl
  | cons x t => 
    rw [if_neg (by simp), if_neg (by simp)]
    simp
theorem tR_mid (a q : List UInt8) {z : UInt8} (hz : isBl z = false) : tR (a ++ z :: q) = a ++ z :: tR q := by
  have h1 : tR (z :: q) = z :: tR q := by
    have := tR_pre [z] q
    rw [List.singleton_append] at this
    rw [this]
    have e : tR [z] = [z] := by unfold tR; simp [List.dropWhile_cons, hz]
    by_cases h : tR q = []
    · rw [if_pos h, h, e]
    · rw [if_neg h]; rfl
  rw [tR_pre, h1, if_neg (by simp)]
theorem tR_split (l : List UInt8) : ∃ b, Bls b ∧ l = tR l ++ b := by
  refine ⟨(l.reverse.takeWhile isBl).reverse, fun x hx => ?_, ?_⟩
  · have := List.mem_reverse.1 hx
    exact (mem_tw this)
  · unfold tR
    rw [← List.reverse_append, List.takeWhile_append_dropWhile, List.reverse_reverse]
theorem bls_of_tR {l : List UInt8} (h : tR l = []) : Bls l := by
  obtain ⟨b, hb, e⟩ := tR_split l
  rw [h, List.nil_append] at e
  rwa [e]
theorem trim_app {a b : List UInt8} (l : List UInt8) (ha : Bls a) (hb : Bls b) : Lib.trimS (a ++ l ++ b) blk = Lib.trimS l blk := by
  rw [trim_eq, trim_eq, tR_app hb, tR_pre]
  by_cases h : tR l = []
  · rw [if_pos h, tR_bls ha, h]
  · rw [if_neg h, List.dropWhile_append_of_pos ha]
theorem trim_tR (l : List UInt8) : Lib.trimS (tR l) blk = Lib.trimS l blk := by
  obtain ⟨b, hb, e⟩ := tR_split l
  have := trim_app (tR l) Bls.nil hb
  rw [List.nil_append, ← e] at this
  exact this.symm
theorem trim_split (l : List UInt8) : ∃ a b, Bls a ∧ Bls b ∧ l = a ++ Lib.trimS l blk ++ b := by
  obtain ⟨b, hb, e⟩ := tR_split l
  refine ⟨(tR l).takeWhile isBl, b, fun x hx => mem_tw hx, hb, ?_⟩
  rw [trim_eq, List.takeWhile_append_dropWhile]
  exact e
theorem trim_head {l t : List UInt8} {h : UInt8} (e : Lib.trimS l blk = h :: t) : isBl h = false := by
  rw [trim_eq] at e
  have := List.head?_dropWhile_not isBl (tR l)
  rw [e] at this
  simpa using this
theorem tR_last {l : List UInt8} {z : UInt8} (e : (tR l).getLast? = some z) : isBl z = false := by
  unfold tR at e
  rw [List.getLast?_reverse] at e
  have := List.head?_dropWhile_not isBl l.reverse
  rw [e] at this
  simpa using this
theorem trim_last {l : List UInt8} {z : UInt8} (e : (Lib.trimS l blk).getLast? = some z) : isBl z = false := by
  refine tR_last (l := l) ?_
  have h := List.takeWhile_append_dropWhile (p := isBl) (l := tR l)
  rw [trim_eq] at e
  rw [← h, List.getLast?_append, e]
  rfl

/-- A blank on both sides of every comma. -/
def pad (c : UInt8) (l : List UInt8) : List UInt8 := l.flatMap fun b => if b = 44 then [c, 44, c] else [b]
theorem pad_app (c : UInt8) (a b : List UInt8) : pad c (a ++ b) = pad c a ++ pad c b := List.flatMap_append
theorem pad_cons (c b : UInt8) (l : List UInt8) (h : b ≠ 44) : pad c (b :: l) = b :: pad c l := by
  unfold pad; rw [List.flatMap_cons, if_neg h]; rfl
theorem pad_comma (c : UInt8) (l : List UInt8) : pad c (44 :: l) = c :: 44 :: c :: pad c l := by
  unfold pad; rw [List.flatMap_cons, if_pos rfl]; rfl
theorem pad_no (c : UInt8) : ∀ {l : List UInt8}, (∀ b ∈ l, b ≠ 44) → pad c l = l
  | [], _ => rfl
  | b :: l, h => by rw [pad_cons c b l (h b (List.mem_cons_self ..)), pad_no c fun x hx => h x (List.mem_cons_of_mem _ hx)]
theorem bl_no {b : UInt8} (h : isBl b = true) : b ≠ 44 := by
  intro e; subst e; revert h; decide
theorem pad_bls (c : UInt8) {l : List UInt8} (h : Bls l) : pad c l = l := pad_no c fun b hb => bl_no (h b hb)
theorem pad_mem (c : UInt8) {l : List UInt8} {b : UInt8} (h : b ∈ l) : b ∈ pad c l := by
  unfold pad
  rw [List.mem_flatMap]
  refine ⟨b, h, ?_⟩
  by_cases e : b = 44
  · rw [if_pos e, e]; simp
  · rw [if_neg e]; simp
theorem pad_len (c : UInt8) : ∀ l : List UInt8, (pad c l).length ≤ 3 * l.length
  | [] => Nat.le_refl _
  | b :: l => by
    have := pad_len c l
    by_cases e : b = 44
    · subst e; rw [pad_comma]; simp only [List.length_cons]; omega
    · rw [pad_cons c b l e]; simp only [List.length_cons]; omega

/-- Two lists whose parts between commas are the same but for blanks at their ends. -/
inductive Eqv : List UInt8 → List UInt8 → Prop
  | one {x y : List UInt8} (hx : ∀ b ∈ x, b ≠ 44) (hy : ∀ b ∈ y, b ≠ 44) (h : Lib.trimS x blk = Lib.trimS y blk) : Eqv x y
  | cons {x y l l' : List UInt8} (hx : ∀ b ∈ x, b ≠ 44) (hy : ∀ b ∈ y, b ≠ 44) (h : Lib.trimS x blk = Lib.trimS y blk) (ht : Eqv l l') : Eqv (x ++ 44 :: l) (y ++ 44 :: l')

theorem Eqv.right {l l' : List UInt8} (h : Eqv l l') : Eqv l (tR l') := by
  induction h with
  | @one x y hx hy h =>
    refine .one hx (fun b hb => ?_) (h.trans (trim_tR _).symm)
    obtain ⟨z, _, e⟩ := tR_split y
    exact hy b (by rw [e]; exact List.mem_append_left _ hb)
  | @cons x y l l' hx hy h ht ih =>
    rw [tR_mid _ _ (by decide)]
    exact .cons hx hy h ih

theorem no_app {a b : List UInt8} (h : ∀ x ∈ a, x ≠ (44 : UInt8)) (h2 : ∀ x ∈ b, x ≠ (44 : UInt8)) : ∀ x ∈ a ++ b, x ≠ 44 := fun x hx => (List.mem_append.1 hx).elim (h x) (h2 x)
theorem bls_no {a : List UInt8} (h : Bls a) : ∀ x ∈ a, x ≠ (44 : UInt8) := fun x hx => bl_no (h x hx)
/-- A list is one part, or a part, a comma and a list. -/
theorem parts_of (l : List UInt8) : (∀ b ∈ l, b ≠ 44) ∨ ∃ x r, (∀ b ∈ x, b ≠ 44) ∧ l = x ++ 44 :: r ∧ r.length < l.length := by
  induction l with
  | nil => exact .inl fun b h => absurd h (List.not_mem_nil)
  | cons b l ih =>
    by_cases e : b = 44
    · subst e
      exact .inr ⟨[], l, fun b h => absurd h (List.not_mem_nil), rfl, by simp⟩
    · rcases ih with h | ⟨x, r, hx, he, hr⟩
      · refine .inl fun y hy => ?_
        rcases List.mem_cons.1 hy with rfl | hy
        · exact e
        · exact h y hy
      · refine .inr ⟨b :: x, r, fun y hy => ?_, by rw [he]; rfl, by simp only [List.length_cons]; omega⟩
        rcases List.mem_cons.1 hy with rfl | hy
        · exact e
        · exact hx y hy

theorem eqv_pad {c : UInt8} (hc : isBl c = true) : ∀ (n : Nat) (l a b : List UInt8), l.length ≤ n → Bls a → Bls b → Eqv l (a ++ pad c l ++ b)
  | 0, l, a, b, hn, ha, hb => by
    obtain rfl : l = [] := List.length_eq_zero_iff.1 (by omega)
    have hp : pad c [] = [] := rfl
    rw [hp]
    exact .one (fun b h => absurd h (List.not_mem_nil)) (no_app (no_app (bls_no ha) (bls_no Bls.nil)) (bls_no hb)) (trim_app [] ha hb).symm
  | n + 1, l, a, b, hn, ha, hb => by
    rcases parts_of l with h | ⟨x, r, hx, he, hr⟩
    · rw [pad_no c h]
      exact .one h (no_app (no_app (bls_no ha) h) (bls_no hb)) (trim_app l ha hb).symm
    · have ih := eqv_pad hc n r [c] b (by omega) (Bls.one hc) hb
      have e : a ++ pad c l ++ b = (a ++ x ++ [c]) ++ 44 :: ([c] ++ pad c r ++ b) := by
        rw [he, pad_app, pad_comma, pad_no c hx]
        simp
      rw [e, he]
      exact .cons hx (no_app (no_app (bls_no ha) hx) (bls_no (Bls.one hc))) (trim_app x ha (Bls.one hc)).symm ih

def Rel (a b : Option PSt) : Prop := (a = none ∧ b = none) ∨ ∃ v l l' more, a = some (v, l, more) ∧ b = some (v, l', more) ∧ Eqv l l'
theorem rel_step (m k : Nat) (v : Ins) {l l' : List UInt8} (more : Bool) (h : Eqv l l') : Rel (pStep m k (v, l, more)) (pStep m k (v, l', more)) := by
  cases hk : hasB m k
  · have e : ∀ st, pStep m k st = some st := fun st => by unfold pStep; rw [hk]; rfl
    rw [e, e]
    exact .inr ⟨v, l, l', more, rfl, rfl, h⟩
  · have key : ∀ {x y q q' : List UInt8} {mo : Bool}, Lib.cut l [44] = (x, q, mo) → Lib.cut l' [44] = (y, q', mo) → Lib.trimS x blk = Lib.trimS y blk → Eqv q q' → Rel (pStep m k (v, l, more)) (pStep m k (v, l', more)) := by
      intro x y q q' mo h1 h2 h3 h4
      unfold pStep
      rw [hk, if_pos rfl, if_pos rfl, h1, h2]
      simp only
      rw [h3]
      cases ho : (pOpd k (Lib.trimS y blk)).2
      · exact .inl ⟨if_neg (by decide), if_neg (by decide)⟩
      · exact .inr ⟨_, q, q', mo, if_pos rfl, if_pos rfl, h4⟩
    cases h with
    | one hx hy h => exact key (cut_end hx) (cut_end hy) h (.one (fun b h => absurd h (List.not_mem_nil)) (fun b h => absurd h (List.not_mem_nil)) rfl)
    | cons hx hy h ht => exact key (cut_at hx) (cut_at hy) h ht
theorem rel_run (m : Nat) {l l' : List UInt8} (h : Eqv l l') (he : l.isEmpty = l'.isEmpty) : ∀ k, Rel (pRun m l k) (pRun m l' k)
  | 0 => .inr ⟨Ins.zero, l, l', !l.isEmpty, rfl, by rw [he]; rfl, h⟩
  | k + 1 => by
    show Rel ((pRun m l k).bind (pStep m k)) ((pRun m l' k).bind (pStep m k))
    rcases rel_run m h he k with ⟨h1, h2⟩ | ⟨v, q, q', more, h1, h2, h3⟩
    · rw [h1, h2]; exact .inl ⟨rfl, rfl⟩
    · rw [h1, h2]; exact rel_step m k v more h3
theorem pOps_eqv (m : Nat) {l l' : List UInt8} (h : Eqv l l') (he : l.isEmpty = l'.isEmpty) : pOps m l = pOps m l' := by
  rcases rel_run m h he 4 with ⟨h1, h2⟩ | ⟨v, q, q', more, h1, h2, h3⟩
  · rw [pOps_none (Nat.le_refl _) h1, pOps_none (Nat.le_refl _) h2]
  · rw [pOps_some h1, pOps_some h2]

/-- An empty first operand is an error of form. -/
theorem opd_nil (k : Nat) : (pOpd k []).2 = false := by
  unfold pOpd
  split <;> rfl
theorem ops_comma (m : Nat) {c : UInt8} (hc : isBl c = true) (q : List UInt8) : (pOps m (c :: 44 :: q)).2 = false := by
  have hcut : Lib.cut (c :: 44 :: q) [44] = ([c], q, true) := cut_at (x := [c]) (bls_no (Bls.one hc))
  have htr : Lib.trimS [c] blk = [] := by
    have h : Lib.trimS ([c] ++ [] ++ []) blk = Lib.trimS [] blk := trim_app [] (Bls.one hc) Bls.nil
    exact h
  have : ∀ k, pRun m (c :: 44 :: q) k = none ∨ pRun m (c :: 44 :: q) k = some (Ins.zero, c :: 44 :: q, true) := by
    intro k
    induction k with
    | zero => exact .inr rfl
    | succ k ih =>
      show (pRun m (c :: 44 :: q) k).bind (pStep m k) = none ∨ (pRun m (c :: 44 :: q) k).bind (pStep m k) = _
      rcases ih with h | h
      · rw [h]; exact .inl rfl
      · rw [h]
        show pStep m k _ = none ∨ pStep m k _ = _
        unfold pStep
        cases hasB m k
        · exact .inr rfl
        · refine .inl ?_
          rw [if_pos rfl]
          simp only
          rw [hcut]
          simp only
          rw [htr, opd_nil]
          rfl
  rcases this 4 with h | h
  · rw [pOps_none (Nat.le_refl _) h]
  · rw [pOps_some h]; rfl
theorem op_comma {l : List UInt8} (h : 44 ∈ l) : opOf l = 0 := by
  refine opOf_none fun o h1 h2 e => ?_
  have := all_mem (names_low o h2).1 44 (by rw [e]; exact h)
  revert this; decide

theorem take_w (w r : List UInt8) (h : ∀ b ∈ w, isBl b = false) (hr : ∀ b, r.head? = some b → isBl b = true) : (w ++ r).takeWhile (!isBl ·) = w ∧ (w ++ r).dropWhile (!isBl ·) = r := by
  have hp : ∀ a ∈ w, (!isBl a) = true := fun a ha => by rw [h a ha]; rfl
  rw [List.takeWhile_append_of_pos hp, List.dropWhile_append_of_pos hp]
  cases r with
  | nil => simp
  | cons b r =>
    have hb := hr b rfl
    simp [List.takeWhile_cons, List.dropWhile_cons, hb]
theorem all_last {w : List UInt8} (h : w ≠ []) : ∃ v z, w = v ++ [z] := ⟨w.dropLast, w.getLast h, (List.dropLast_concat_getLast h).symm⟩
theorem tR_word {w : List UInt8} (h : ∀ b ∈ w, isBl b = false) (hw : w ≠ []) (q : List UInt8) : tR (w ++ q) = w ++ tR q := by
  obtain ⟨v, z, rfl⟩ := all_last hw
  have hz := h z (by simp)
  rw [List.append_assoc, List.singleton_append, tR_mid _ _ hz]
  simp
theorem drop_word1 {w : List UInt8} (h : ∀ b ∈ w, isBl b = false) (hw : w ≠ []) (q : List UInt8) : (w ++ q).dropWhile isBl = w ++ q := by
  cases w with
  | nil => exact absurd rfl hw
  | cons b w =>
    have hb := h b (List.mem_cons_self ..)
    rw [List.cons_append, List.dropWhile_cons_of_neg (by rw [hb]; decide)]

/-- THE MATHEMATICS: blanks in front, behind and around commas change nothing. -/
theorem parse_pad {c : UInt8} (hc : isBl c = true) (s : List UInt8) : parsN ([c] ++ pad c s ++ [c] ++ [c]) = parsN s := by
  obtain ⟨a, b, ha, hb, e⟩ := trim_split s
  have hlast := fun z => trim_last (l := s) (z := z)
  have hhead := fun h t => trim_head (l := s) (t := t) (h := h)
  obtain ⟨t, ht⟩ : ∃ t, Lib.trimS s blk = t := ⟨_, rfl⟩
  rw [ht] at e
  have h1 : Lib.trimS ([c] ++ pad c s ++ [c] ++ [c]) blk = Lib.trimS (pad c t) blk := by
    have e2 : [c] ++ pad c s ++ [c] ++ [c] = ([c] ++ a) ++ pad c t ++ (b ++ [c, c]) := by
      rw [e, pad_app, pad_app, pad_bls c ha, pad_bls c hb]; simp
    rw [e2]
    exact trim_app _ ((Bls.one hc).app ha) (hb.app ((Bls.one hc).app (Bls.one hc)))
  have goal : ∀ w r w2 r2, Lib.trimS s blk = w ++ r → (∀ b ∈ w, isBl b = false) → (∀ b, r.head? = some b → isBl b = true) →
      Lib.trimS (pad c t) blk = w2 ++ r2 → (∀ b ∈ w2, isBl b = false) → (∀ b, r2.head? = some b → isBl b = true) →
      parsOp (opOf w2) r2 = parsOp (opOf w) r → parsN ([c] ++ pad c s ++ [c] ++ [c]) = parsN s := by
    intro w r w2 r2 e1 g1 g2 e2 g3 g4 g5
    unfold parsN wordOf restOf
    rw [h1, e1, e2, (take_w w r g1 g2).1, (take_w w r g1 g2).2, (take_w w2 r2 g3 g4).1, (take_w w2 r2 g3 g4).2]
    exact g5
  have hw : ∃ w r, t = w ++ r ∧ (∀ b ∈ w, isBl b = false) ∧ (∀ b, r.head? = some b → isBl b = true) := by
    refine ⟨t.takeWhile (!isBl ·), t.dropWhile (!isBl ·), (List.takeWhile_append_dropWhile).symm, fun b hb => ?_, fun b hb => ?_⟩
    · have := mem_tw hb
      simpa using this
    · have := List.head?_dropWhile_not (!isBl ·) t
      rw [hb] at this
      simpa using this
  obtain ⟨w, r, hwr, g1, g2⟩ := hw
  by_cases hne : t = []
  · subst hne
    have hp : pad c [] = [] := rfl
    have : Lib.trimS (pad c []) blk = [] := rfl
    exact goal [] [] [] [] ht (fun b h => absurd h (List.not_mem_nil)) (fun b h => by cases h) this (fun b h => absurd h (List.not_mem_nil)) (fun b h => by cases h) rfl
  have hw0 : w ≠ [] := by
    intro h0
    subst h0
    rw [List.nil_append] at hwr
    cases r with
    | nil => exact hne hwr
    | cons x y =>
      have := hhead x y (by rw [ht, hwr])
      rw [g2 x rfl] at this
      exact Bool.noConfusion this
  rcases parts_of w with hno | ⟨u, v, hu, hwe, _⟩
  · have e3 : Lib.trimS (pad c t) blk = w ++ tR (pad c r) := by
      rw [trim_eq, hwr, pad_app, pad_no c hno, tR_word g1 hw0, drop_word1 g1 hw0]
    refine goal w r w (tR (pad c r)) (by rw [ht, hwr]) g1 g2 e3 g1 (fun z hz => ?_) ?_
    · cases r with
      | nil => cases hz
      | cons x y =>
        have hx := g2 x rfl
        rw [pad_cons c x y (bl_no hx)] at hz
        have := tR_pre [x] (pad c y)
        rw [List.singleton_append] at this
        rw [this] at hz
        by_cases h : tR (pad c y) = []
        · rw [if_pos h, tR_bls (Bls.one hx)] at hz; cases hz
        · rw [if_neg h] at hz
          have : x = z := by simpa using hz
          rw [← this]; exact hx
    · have hE : Eqv r (tR (pad c r)) := by
        have := (eqv_pad hc r.length r [] [] (Nat.le_refl _) Bls.nil Bls.nil).right
        rwa [List.nil_append, List.append_nil] at this
      have hem : r.isEmpty = (tR (pad c r)).isEmpty := by
        cases hr : r with
        | nil => rfl
        | cons x y =>
          obtain ⟨q, z, hq⟩ := all_last (w := r) (by rw [hr]; simp)
          have hz : isBl z = false := hlast z (by rw [ht, hwr, hq, ← List.append_assoc, List.getLast?_concat])
          have hn : tR (pad c r) ≠ [] := fun h => by
            have := bls_of_tR h z (pad_mem c (by rw [hq]; simp))
            rw [hz] at this; exact Bool.noConfusion this
          rw [← hr]
          cases hh : tR (pad c r) with
          | nil => exact absurd hh hn
          | cons _ _ => rw [hr]; rfl
      unfold parsOp
      rw [pOps_eqv _ hE hem]
  · have hop : opOf w = 0 := op_comma (by rw [hwe]; simp)
    have e0 : parsOp (opOf w) r = (Ins.zero, 2) := by rw [hop]; rfl
    have hpt : pad c t = u ++ c :: 44 :: c :: pad c (v ++ r) := by
      rw [hwr, hwe, List.append_assoc, List.cons_append, pad_app, pad_no c hu, pad_comma]
    have hu1 : ∀ b ∈ u, isBl b = false := fun b hb => g1 b (by rw [hwe]; simp [hb])
    have e4 : tR (pad c t) = u ++ c :: 44 :: tR (c :: pad c (v ++ r)) := by
      rw [hpt]
      have := tR_mid (u ++ [c]) (c :: pad c (v ++ r)) (z := 44) (by decide)
      simpa using this
    obtain ⟨q, hq⟩ : ∃ q, tR (c :: pad c (v ++ r)) = q := ⟨_, rfl⟩
    rw [hq] at e4
    by_cases hu0 : u = []
    · subst hu0
      have e5 : Lib.trimS (pad c t) blk = 44 :: q := by
        rw [trim_eq, e4, List.nil_append, List.dropWhile_cons_of_pos hc, List.dropWhile_cons_of_neg (by decide)]
      refine goal w r ((44 :: q).takeWhile (!isBl ·)) ((44 :: q).dropWhile (!isBl ·)) (by rw [ht, hwr]) g1 g2 (by rw [e5, List.takeWhile_append_dropWhile]) (fun b hb => ?_) (fun b hb => ?_) ?_
      · have := mem_tw hb
        simpa using this
      · have := List.head?_dropWhile_not (!isBl ·) (44 :: q)
        rw [hb] at this
        simpa using this
      · rw [e0, op_comma (by rw [List.takeWhile_cons_of_pos (by decide)]; simp)]
        rfl
    · have e5 : Lib.trimS (pad c t) blk = u ++ c :: 44 :: q := by
        rw [trim_eq, e4, drop_word1 hu1 hu0]
      refine goal w r u (c :: 44 :: q) (by rw [ht, hwr]) g1 g2 e5 hu1 (fun b hb => ?_) ?_
      · have : c = b := by simpa using hb
        rw [← this]; exact hc
      · rw [e0]
        unfold parsOp
        by_cases h0 : opOf u = 0
        · rw [if_pos h0]
        · rw [if_neg h0, ops_comma _ hc]
          rfl
end Go.Proofs.YtmnhnighlgpjmaaDoor
