/-
  The reference's parser and the program's: plain mathematics.
-/
import Derived.Test.YtmnhnighlgpjmaaDoorJ6
import Derived.Test.YtmnhnighlgpjmaaDoorJ3
namespace Go.Proofs.YtmnhnighlgpjmaaDoor
set_option linter.unusedVariables false
set_option linter.unusedSimpArgs false
open Go.RowKit

/-- What stands behind the blanks in front. -/
def dB (l : List UInt8) : List UInt8 := l.dropWhile isBl
/-- The digits in front. -/
def dG (l : List UInt8) : List UInt8 := l.takeWhile isDig
def NoDig (y : List UInt8) : Prop := ∀ b, y.head? = some b → isDig b = false
theorem dG_all (r : List UInt8) : (dG r).all isDig = true := List.all_eq_true.2 fun b hb => mem_tw hb
theorem tw_none {y : List UInt8} {p : UInt8 → Bool} (h : ∀ b, y.head? = some b → p b = false) : y.takeWhile p = [] := by
  cases y with
  | nil => rfl
  | cons b y => rw [List.takeWhile_cons_of_neg (by rw [h b rfl]; decide)]
theorem dG_app {d y : List UInt8} (hd : d.all isDig = true) (hy : NoDig y) : dG (d ++ y) = d := by
  unfold dG
  rw [List.takeWhile_append_of_pos (fun a ha => List.all_eq_true.1 hd a ha), tw_none hy, List.append_nil]
theorem dG_take (r : List UInt8) : r.take (dG r).length = dG r := take_word r isDig
theorem dG_le (r : List UInt8) : (dG r).length ≤ r.length := by
  have := congrArg List.length (dG_take r)
  rw [List.length_take] at this; omega
theorem dig_opd {b : UInt8} (h : isDig b = true) : opdB b = true := by unfold opdB; rw [h]; simp
theorem bl_nodig {b : UInt8} (h : isBl b = true) : isDig b = false := by
  rcases (isBl_iff b).1 h with rfl | rfl <;> decide
/-- What the reference takes for the text of an operand in front of a list, and how many bytes. -/
def rNum (r : List UInt8) : Option (Int × Nat) := if 1 ≤ (dG r).length ∧ (dG r).length ≤ 10 then some (((digV 0 (dG r) : Nat) : Int), (dG r).length) else none
def rImm (r : List UInt8) : Option (Int × Nat) := if r.head? = some 45 then (rNum r.tail).map (fun p => (-p.1, p.2 + 1)) else rNum r
def rReg (r : List UInt8) : Option (Int × Nat) :=
  if r.head? = some 114 then (if (1 ≤ (dG r.tail).length ∧ (dG r.tail).length ≤ 2) ∧ ¬ ((dG r.tail).length = 2 ∧ r.tail.head? = some 48) then some (((digV 0 (dG r.tail) : Nat) : Int), (dG r.tail).length + 1) else none) else none
def rOpd (f : Nat) (r : List UInt8) : Option (Int × Nat) := if f = 3 then rImm r else rReg r

theorem pDig_ok {l : List UInt8} {most : Nat} {n : Int} (h : pDig l most = (n, true)) : l.all isDig = true ∧ 1 ≤ l.length ∧ l.length ≤ most ∧ n = ((digV 0 l : Nat) : Int) := by
  cases hd : digsB l most
  · rw [pDig_no hd] at h; injection h with _ h; cases h
  · rw [pDig_yes hd] at h
    unfold digsB at hd
    rw [Bool.and_eq_true, decide_eq_true_eq] at hd
    injection h with h _
    exact ⟨hd.2, hd.1.1, hd.1.2, h.symm⟩
theorem pfx_cons (c : UInt8) (t : List UInt8) : Lib.hasPrefix (c :: t) [c] = true ∧ Lib.trimPrefix (c :: t) [c] = t := by
  have h : Lib.hasPrefix (c :: t) [c] = true := by simp [Lib.hasPrefix]
  refine ⟨h, ?_⟩
  unfold Lib.trimPrefix
  rw [h]; rfl
theorem pfx_head {c : UInt8} {x : List UInt8} (h : Lib.hasPrefix x [c] = true) : ∃ t, x = c :: t := by
  cases x with
  | nil => simp [Lib.hasPrefix] at h
  | cons b t =>
    have : c = b := by simpa [Lib.hasPrefix] using h
    exact ⟨t, by rw [this]⟩
theorem pfx_no {c : UInt8} {x : List UInt8} (h : Lib.hasPrefix x [c] = false) : x.head? ≠ some c := by
  intro e
  cases x with
  | nil => cases e
  | cons b t =>
    have : b = c := by simpa using e
    subst this
    rw [(pfx_cons b t).1] at h; cases h
theorem no_pfx {c : UInt8} {x : List UInt8} (h : x.head? ≠ some c) : Lib.hasPrefix x [c] = false := by
  cases e : Lib.hasPrefix x [c]
  · rfl
  · obtain ⟨t, rfl⟩ := pfx_head e
    exact absurd rfl h
theorem dig_head {l : List UInt8} (h : l.all isDig = true) (h1 : 1 ≤ l.length) : ∃ b t, l = b :: t ∧ isDig b = true := by
  cases l with
  | nil => simp at h1
  | cons b t => exact ⟨b, t, rfl, by rw [List.all_cons, Bool.and_eq_true] at h; exact h.1⟩
theorem rNum_of {l y : List UInt8} {n : Int} (h : pDig l 10 = (n, true)) (hy : NoDig y) : rNum (l ++ y) = some (n, l.length) := by
  obtain ⟨h1, h2, h3, rfl⟩ := pDig_ok h
  unfold rNum
  rw [dG_app h1 hy, if_pos ⟨h2, h3⟩]
theorem pReg_some {x : List UInt8} {n : Int} (h : pReg x = (n, true)) : ∃ t, x = 114 :: t ∧ (decide (1 < t.length) && t.getD 0 0 == 48) = false ∧ pDig t 2 = (n, true) := by
  unfold pReg at h
  cases hp : Lib.hasPrefix x [114]
  · rw [hp, if_neg (by decide)] at h; injection h with _ h; cases h
  · obtain ⟨t, rfl⟩ := pfx_head hp
    rw [hp, if_pos rfl, (pfx_cons 114 t).2] at h
    cases hq : (decide (1 < t.length) && t.getD 0 0 == 48)
    · rw [hq, if_neg (by decide)] at h
      exact ⟨t, rfl, hq, h⟩
    · rw [hq, if_pos rfl] at h; injection h with _ h; cases h
theorem opd_some {f : Nat} {x y : List UInt8} {n : Int} (h : pOpd f x = (n, true)) (hy : NoDig y) : rOpd f (x ++ y) = some (n, x.length) := by
  unfold pOpd at h
  unfold rOpd
  by_cases h3 : f = 3
  · rw [if_pos h3] at h ⊢
    unfold pImm at h
    unfold rImm
    cases hp : Lib.hasPrefix x [45]
    · rw [hp, if_neg (by decide)] at h
      obtain ⟨k1, k2, k3, k4⟩ := pDig_ok h
      obtain ⟨b, t, rfl, hb⟩ := dig_head k1 k2
      rw [if_neg (by
        intro e
        have : b = 45 := by simpa using e
        subst this
        exact absurd hb (by decide)), rNum_of h hy]
    · obtain ⟨t, rfl⟩ := pfx_head hp
      rw [hp, if_pos rfl, (pfx_cons 45 t).2] at h
      rw [List.cons_append, if_pos (show (45 :: (t ++ y)).head? = some 45 from rfl)]
      obtain ⟨q, hq⟩ : ∃ q, pDig t 10 = q := ⟨_, rfl⟩
      rw [hq] at h
      obtain ⟨m, ok⟩ := q
      simp only [Prod.mk.injEq] at h
      obtain ⟨rfl, rfl⟩ := h
      rw [List.tail_cons, rNum_of hq hy]
      rfl
  · rw [if_neg h3] at h ⊢
    obtain ⟨t, rfl, hq, hd⟩ := pReg_some h
    obtain ⟨k1, k2, k3, rfl⟩ := pDig_ok hd
    unfold rReg
    rw [List.cons_append, if_pos (show (114 :: (t ++ y)).head? = some 114 from rfl), List.tail_cons, dG_app k1 hy]
    have hnc : ¬ (t.length = 2 ∧ (t ++ y).head? = some 48) := by
      rintro ⟨e2, e48⟩
      obtain ⟨b, u, rfl, _⟩ := dig_head k1 k2
      have : b = 48 := by simpa using e48
      subst this
      rw [decide_eq_true (by omega)] at hq
      simp at hq
    exact (if_pos ⟨⟨k2, k3⟩, hnc⟩).trans rfl
theorem rNum_some {r : List UInt8} {n : Int} {q : Nat} (h : rNum r = some (n, q)) : q = (dG r).length ∧ 1 ≤ q ∧ q ≤ 10 ∧ n = ((digV 0 (dG r) : Nat) : Int) ∧ pDig (dG r) 10 = (n, true) := by
  unfold rNum at h
  split at h
  · rename_i hc
    simp only [Option.some.injEq, Prod.mk.injEq] at h
    obtain ⟨rfl, rfl⟩ := h
    exact ⟨rfl, hc.1, hc.2, rfl, pDig_yes (digsB_good (dG_all r) hc.1 hc.2)⟩
  · cases h
theorem opd_back {f : Nat} {r : List UInt8} {n : Int} {q : Nat} (h : rOpd f r = some (n, q)) : q ≤ r.length ∧ 1 ≤ q ∧ pOpd f (r.take q) = (n, true) ∧ ∀ b ∈ r.take q, opdB b = true := by
  unfold rOpd at h
  unfold pOpd
  by_cases h3 : f = 3
  · rw [if_pos h3] at h ⊢
    unfold rImm at h
    by_cases hh : r.head? = some 45
    · rw [if_pos hh] at h
      cases r with
      | nil => cases hh
      | cons b t =>
        have : b = 45 := by simpa using hh
        subst this
        rw [List.tail_cons] at h
        cases e : rNum t with
        | none => rw [e] at h; cases h
        | some p =>
          obtain ⟨m, k⟩ := p
          rw [e] at h
          simp only [Option.map_some, Option.some.injEq, Prod.mk.injEq] at h
          obtain ⟨rfl, rfl⟩ := h
          obtain ⟨rfl, h1, h2, h4, h5⟩ := rNum_some e
          have hl := dG_le t
          refine ⟨by simp only [List.length_cons]; omega, by omega, ?_, ?_⟩
          · rw [List.take_succ_cons, dG_take]
            unfold pImm
            rw [(pfx_cons 45 _).1, if_pos rfl, (pfx_cons 45 _).2, h5]
          · rw [List.take_succ_cons, dG_take]
            intro b hb
            rcases List.mem_cons.1 hb with rfl | hb
            · decide
            · exact dig_opd (mem_tw hb)
    · rw [if_neg hh] at h
      obtain ⟨rfl, h1, h2, h4, h5⟩ := rNum_some h
      refine ⟨dG_le r, h1, ?_, ?_⟩
      · rw [dG_take]
        unfold pImm
        rw [no_pfx, if_neg (by decide), h5]
        intro e
        obtain ⟨b, t, e2, hb⟩ := dig_head (dG_all r) h1
        rw [e2] at e
        have : b = 45 := by simpa using e
        subst this
        exact absurd hb (by decide)
      · rw [dG_take]
        exact fun b hb => dig_opd (mem_tw hb)
  · rw [if_neg h3] at h ⊢
    unfold rReg at h
    by_cases hh : r.head? = some 114
    · rw [if_pos hh] at h
      cases r with
      | nil => cases hh
      | cons b t =>
        have : b = 114 := by simpa using hh
        subst this
        rw [List.tail_cons] at h
        split at h
        · rename_i hc
          obtain ⟨⟨c1, c2⟩, c3⟩ := hc
          simp only [Option.some.injEq, Prod.mk.injEq] at h
          obtain ⟨rfl, rfl⟩ := h
          have hl := dG_le t
          refine ⟨by simp only [List.length_cons]; omega, by omega, ?_, ?_⟩
          · rw [List.take_succ_cons, dG_take]
            unfold pReg
            rw [(pfx_cons 114 _).1, if_pos rfl, (pfx_cons 114 _).2, if_neg, pDig_yes (digsB_good (dG_all t) c1 c2)]
            intro hb
            rw [Bool.and_eq_true, decide_eq_true_eq] at hb
            obtain ⟨b, u, e2, _⟩ := dig_head (dG_all t) c1
            have he := dG_take t
            rw [e2] at he hb
            have h48 : b = 48 := by simpa using hb.2
            cases t with
            | nil => simp at he
            | cons b2 t2 =>
              have : b2 = b := by
                have := congrArg List.head? he
                simpa using this
              exact c3 ⟨by rw [e2]; have := hb.1; rw [e2] at c2; omega, by rw [this, h48]; rfl⟩
          · rw [List.take_succ_cons, dG_take]
            intro b hb
            rcases List.mem_cons.1 hb with rfl | hb
            · decide
            · exact dig_opd (mem_tw hb)
        · cases h
    · rw [if_neg hh] at h; cases h

theorem dB_bls {a : List UInt8} (h : Bls a) (l : List UInt8) : dB (a ++ l) = dB l := List.dropWhile_append_of_pos h
theorem dB_id {l : List UInt8} (h : ∀ b, l.head? = some b → isBl b = false) : dB l = l := by
  unfold dB
  cases l with
  | nil => rfl
  | cons b t => rw [List.dropWhile_cons_of_neg (by rw [h b rfl]; decide)]
/-- What stands behind a piece: nothing, or a comma. -/
def Tail (y : List UInt8) : Prop := ∀ b, y.head? = some b → b = 44
theorem Tail.id {y : List UInt8} (h : Tail y) : dB y = y := dB_id fun b hb => by rw [h b hb]; decide
theorem rOpd_tail (f : Nat) {y : List UInt8} (h : Tail y) : rOpd f y = none := by
  unfold rOpd rImm rReg rNum
  cases y with
  | nil =>
    split <;> simp [dG]
  | cons b t =>
    have := h b rfl
    subst this
    have e : dG (44 :: t) = [] := by unfold dG; rw [List.takeWhile_cons_of_neg (by decide)]
    rw [e]
    split <;> simp
theorem piece_ok (f : Nat) {P y : List UInt8} {n : Int} (hy : Tail y) (h : pOpd f (Lib.trimS P blk) = (n, true)) : ∃ q, rOpd f (dB (P ++ y)) = some (n, q) ∧ dB ((dB (P ++ y)).drop q) = y := by
  obtain ⟨a, b, ha, hb, e⟩ := trim_split P
  have hhead := fun h t => trim_head (l := P) (t := t) (h := h)
  obtain ⟨x, hx⟩ : ∃ x, Lib.trimS P blk = x := ⟨_, rfl⟩
  rw [hx] at e h
  have e2 : dB (P ++ y) = x ++ (b ++ y) := by
    rw [e, List.append_assoc, List.append_assoc, dB_bls ha]
    refine dB_id fun c hc => ?_
    cases x with
    | nil => rw [← Bool.not_eq_true]; intro _; have := opd_nil f; rw [h] at this; cases this
    | cons c2 x =>
      have : c2 = c := by simpa using hc
      subst this
      exact hhead _ _ hx
  have hnd : NoDig (b ++ y) := by
    intro c hc
    cases b with
    | nil => rw [List.nil_append] at hc; rw [hy c hc]; decide
    | cons c2 b =>
      have : c2 = c := by simpa using hc
      subst this
      exact bl_nodig (hb _ (List.mem_cons_self ..))
  refine ⟨x.length, by rw [e2]; exact opd_some h hnd, ?_⟩
  rw [e2, List.drop_left, dB_bls hb]
  exact hy.id
theorem dB_split (l : List UInt8) : ∃ a, Bls a ∧ l = a ++ dB l := ⟨l.takeWhile isBl, fun x hx => mem_tw hx, (List.takeWhile_append_dropWhile).symm⟩
theorem dB_head (l : List UInt8) : ∀ b, (dB l).head? = some b → isBl b = false := fun b hb => by
  have := List.head?_dropWhile_not isBl l
  unfold dB at hb
  rw [hb] at this
  simpa using this
theorem dB_nil {l : List UInt8} (h : dB l = []) : Bls l := by
  obtain ⟨a, ha, e⟩ := dB_split l
  rw [h, List.append_nil] at e
  rwa [e]
theorem dB_app {e y : List UInt8} (h : dB e ≠ []) : dB (e ++ y) = dB e ++ y := by
  unfold dB at h ⊢
  rw [List.dropWhile_append]
  cases hh : e.dropWhile isBl with
  | nil => exact absurd hh h
  | cons b t => simp
theorem opd_trim {t : List UInt8} (h : ∀ b ∈ t, opdB b = true) : Lib.trimS t blk = t :=
  trim_id (fun b hb => (opd_clean (h b (List.mem_of_mem_head? hb))).2) (fun b hb => (opd_clean (h b (List.mem_of_getLast? hb))).2)
theorem trim_dB (l : List UInt8) : Lib.trimS (dB l) blk = Lib.trimS l blk := by
  obtain ⟨a, ha, e⟩ := dB_split l
  have := trim_app (dB l) ha Bls.nil
  rw [List.append_nil, ← e] at this
  exact this.symm
theorem piece_bad (f : Nat) {P y : List UInt8} (hP : ∀ b ∈ P, b ≠ 44) (hy : Tail y) (h : (pOpd f (Lib.trimS P blk)).2 = false) {n : Int} {q : Nat} (ho : rOpd f (dB (P ++ y)) = some (n, q)) :
    dB ((dB (P ++ y)).drop q) ≠ [] ∧ (dB ((dB (P ++ y)).drop q)).head? ≠ some 44 := by
  by_cases hn : dB P = []
  · rw [dB_bls (dB_nil hn), hy.id, rOpd_tail f hy] at ho; cases ho
  rw [dB_app hn] at ho ⊢
  rw [← trim_dB] at h
  have hp : ∀ b ∈ dB P, b ≠ 44 := fun b hb => hP b (List.dropWhile_suffix _ |>.mem hb)
  obtain ⟨x, hx⟩ : ∃ x, dB P = x := ⟨_, rfl⟩
  rw [hx] at ho h hp ⊢
  obtain ⟨hq, hq1, hok, hall⟩ := opd_back ho
  have hle : q ≤ x.length := by
    apply Decidable.byContradiction
    intro hc
    have hlt : x.length < (x ++ y).length := by omega
    rw [List.length_append] at hlt
    cases y with
    | nil => simp at hlt
    | cons c y =>
      have hc44 := hy c rfl
      subst hc44
      have hm : (44 : UInt8) ∈ (x ++ 44 :: y).take q := by
        have : ((x ++ 44 :: y).take q)[x.length]? = some 44 := by
          rw [List.getElem?_take, if_pos (by omega)]; simp
        exact List.mem_of_getElem? this
      exact (opd_clean (hall _ hm)).1 rfl
  rw [List.take_append_of_le_length hle] at hok hall
  rw [List.drop_append_of_le_length hle]
  by_cases he : dB (x.drop q) = []
  · exfalso
    have hb := dB_nil he
    have e : Lib.trimS x blk = x.take q := by
      have := trim_app (x.take q) Bls.nil hb
      rw [List.nil_append, List.take_append_drop, opd_trim hall] at this
      exact this
    rw [e, hok] at h; cases h
  · rw [dB_app he]
    obtain ⟨b, t, hbt⟩ : ∃ b t, dB (x.drop q) = b :: t := by
      cases hd : dB (x.drop q) with
      | nil => exact absurd hd he
      | cons b t => exact ⟨b, t, rfl⟩
    have hb : b ∈ x := by
      have h1 : b ∈ dB (x.drop q) := by rw [hbt]; simp
      exact List.mem_of_mem_drop (List.dropWhile_suffix _ |>.mem h1)
    rw [hbt]
    refine ⟨by simp, ?_⟩
    intro e
    have : b = 44 := by simpa using e
    exact hp b hb this

/-- The reference's way along the operands f of the fields. -/
def rGo : List Nat → List UInt8 → Ins → Option Ins
  | [], r, v => if r = [] then some v else none
  | f :: fs, r, v => match rOpd f r with
    | none => none
    | some (n, q) => if fs = [] then (if dB (r.drop q) = [] then some (setF v f n) else none) else if (dB (r.drop q)).head? = some 44 then rGo fs (dB (dB (r.drop q)).tail) (setF v f n) else none
/-- The program's. -/
def pF (f : Nat) (st : PSt) : Option PSt := if (pOpd f (Lib.trimS (Lib.cut st.2.1 [44]).1 blk)).2 then some (setF st.1 f (pOpd f (Lib.trimS (Lib.cut st.2.1 [44]).1 blk)).1, (Lib.cut st.2.1 [44]).2.1, (Lib.cut st.2.1 [44]).2.2) else none
def pGo : List Nat → PSt → Option PSt
  | [], st => some st
  | f :: fs, st => (pF f st).bind (pGo fs)
def fin (st : PSt) : Option Ins := if st.2.2 then none else some st.1
def fields (m : Nat) : List Nat := (List.range 4).filter (hasB m)
theorem pRun_go (m : Nat) (l : List UInt8) : pRun m l 4 = pGo (fields m) (Ins.zero, l, !l.isEmpty) := by
  have hs : ∀ k st, pStep m k st = if hasB m k then pF k st else some st := fun k st => rfl
  have e : pRun m l 4 = ((((some (Ins.zero, l, !l.isEmpty)).bind (pStep m 0)).bind (pStep m 1)).bind (pStep m 2)).bind (pStep m 3) := rfl
  rw [e]
  have hf : fields m = (if hasB m 0 then [0] else []) ++ (if hasB m 1 then [1] else []) ++ (if hasB m 2 then [2] else []) ++ (if hasB m 3 then [3] else []) := by
    unfold fields
    rw [show List.range 4 = [0, 1, 2, 3] from rfl]
    simp only [List.filter_cons, List.filter_nil]
    cases hasB m 0 <;> cases hasB m 1 <;> cases hasB m 2 <;> cases hasB m 3 <;> rfl
  rw [hf]
  have b1 : ∀ (o : Option PSt), o.bind (fun st => some st) = o := fun o => by cases o <;> rfl
  have h0 := funext (hs 0)
  have h1 := funext (hs 1)
  have h2 := funext (hs 2)
  have h3 := funext (hs 3)
  rw [h0, h1, h2, h3]
  have pg : ∀ fs st, pGo fs st = List.foldl (fun o f => o.bind (pF f)) (some st) fs := by
    have gen : ∀ (fs : List Nat) (o : Option PSt), List.foldl (fun o f => o.bind (pF f)) o fs = o.bind (pGo fs) := by
      intro fs
      induction fs with
      | nil => intro o; cases o <;> rfl
      | cons f fs ih =>
        intro o
        rw [List.foldl_cons, ih]
        cases o <;> rfl
    intro fs st
    rw [gen]; rfl
  rw [pg]
  cases hasB m 0 <;> cases hasB m 1 <;> cases hasB m 2 <;> cases hasB m 3 <;> simp [b1]
theorem go_same (z : List UInt8) (hz : Bls z) : ∀ (fs : List Nat), fs ≠ [] → ∀ (l : List UInt8) (v : Ins) (mo : Bool), (pGo fs (v, l, mo)).bind fin = rGo fs (dB (l ++ z)) v
  | [], h, _, _, _ => absurd rfl h
  | f :: fs, _, l, v, mo => by
    have key : ∀ (Pc P r : List UInt8) (y : List UInt8) (mo2 : Bool), (∀ b ∈ P, b ≠ 44) → Tail y → Lib.cut l [44] = (Pc, r, mo2) → Lib.trimS Pc blk = Lib.trimS P blk → dB (l ++ z) = dB (P ++ y) → (mo2 = false → r = [] ∧ y = []) → (mo2 = true → y = 44 :: (r ++ z)) →
        (pGo (f :: fs) (v, l, mo)).bind fin = rGo (f :: fs) (dB (l ++ z)) v := by
      intro Pc P r y mo2 hP hy hcut htr hdb h1 h2
      have e1 : pF f (v, l, mo) = if (pOpd f (Lib.trimS P blk)).2 then some (setF v f (pOpd f (Lib.trimS P blk)).1, r, mo2) else none := by
        unfold pF; simp only [hcut, htr]
      show ((pF f (v, l, mo)).bind (pGo fs)).bind fin = _
      rw [e1, hdb]
      unfold rGo
      cases hok : (pOpd f (Lib.trimS P blk)).2
      · rw [if_neg (by decide)]
        cases ho : rOpd f (dB (P ++ y)) with
        | none => rfl
        | some nq =>
          obtain ⟨n, q⟩ := nq
          obtain ⟨k1, k2⟩ := piece_bad f hP hy hok ho
          simp only
          rw [if_neg k1, if_neg k2]
          split <;> rfl
      · rw [if_pos rfl]
        obtain ⟨n, hn⟩ : ∃ n, (pOpd f (Lib.trimS P blk)).1 = n := ⟨_, rfl⟩
        obtain ⟨q, ho, hd⟩ := piece_ok f (P := P) (n := n) hy (by rw [← hn, ← hok])
        rw [ho, hn]
        simp only
        rw [hd]
        cases hfs : fs with
        | nil =>
          rw [if_pos rfl]
          show fin (setF v f n, r, mo2) = _
          unfold fin
          cases mo2
          · rw [if_neg (by simp), if_pos (h1 rfl).2]
          · rw [if_pos rfl, if_neg (by rw [h2 rfl]; simp)]
        | cons g gs =>
          rw [if_neg (by simp)]
          cases mo2
          · obtain ⟨rfl, rfl⟩ := h1 rfl
            rw [if_neg (by simp)]
            show ((pF g (setF v f n, [], false)).bind (pGo gs)).bind fin = none
            have : pF g (setF v f n, [], false) = none := by
              unfold pF
              have hc : Lib.cut [] [44] = ([], [], false) := cut_end (fun b hb => absurd hb (List.not_mem_nil))
              simp only [hc]
              rw [if_neg]
              rw [show Lib.trimS [] blk = [] from rfl, opd_nil]; decide
            rw [this]; rfl
          · rw [h2 rfl, if_pos (show (44 :: (r ++ z)).head? = some 44 from rfl)]
            have ih := go_same z hz fs (by rw [hfs]; simp) r (setF v f n) true
            rw [hfs] at ih
            exact ih
    rcases parts_of l with h | ⟨x, r, hx, he, _⟩
    · have htr : Lib.trimS l blk = Lib.trimS (l ++ z) blk := by
        have := trim_app l Bls.nil hz
        rw [List.nil_append] at this
        exact this.symm
      exact key l (l ++ z) [] [] false (no_app h (bls_no hz)) (fun b h => by cases h) (cut_end h) htr (by rw [List.append_nil]) (fun _ => ⟨rfl, rfl⟩) (fun h => by cases h)
    · exact key x x r (44 :: (r ++ z)) true hx (fun b h => by simpa using h.symm) (by rw [he]; exact cut_at hx) rfl (by rw [he]; simp) (fun h => by cases h) (fun _ => rfl)

theorem setF_op (v : Ins) (k : Nat) (n o : Int) : setF { v with op := o } k n = { setF v k n with op := o } := by
  unfold setF
  split
  · rfl
  · split
    · rfl
    · split <;> rfl
theorem rGo_op (o : Int) : ∀ (fs : List Nat) (r : List UInt8) (v : Ins), rGo fs r { v with op := o } = (rGo fs r v).map fun u => { u with op := o }
  | [], r, v => by
    unfold rGo
    split <;> rfl
  | f :: fs, r, v => by
    unfold rGo
    cases rOpd f r with
    | none => rfl
    | some nq =>
      obtain ⟨n, q⟩ := nq
      simp only
      rw [setF_op]
      by_cases h : fs = []
      · rw [if_pos h, if_pos h]
        split <;> rfl
      · rw [if_neg h, if_neg h]
        split
        · exact rGo_op o fs _ _
        · rfl
/-- What the reference's Parse answers. -/
def refN (l : List UInt8) : Ins × Int :=
  if opOf ((dB l).takeWhile (!isBl ·)) = 0 then (Ins.zero, 2) else
    match rGo (fields (opsN (opOf ((dB l).takeWhile (!isBl ·))))) (dB ((dB l).dropWhile (!isBl ·))) { Ins.zero with op := (opOf ((dB l).takeWhile (!isBl ·)) : Nat) } with
    | none => (Ins.zero, 2)
    | some v => if rightB v then (v, 0) else (Ins.zero, 6)
theorem opOf_nil : opOf [] = 0 := by decide +kernel
theorem ref_pars (l : List UInt8) : refN l = parsN l := by
  obtain ⟨a, b, ha, hb, e⟩ := trim_split l
  have hhead := fun h t => trim_head (l := l) (t := t) (h := h)
  have hlast := fun z => trim_last (l := l) (z := z)
  obtain ⟨t, ht⟩ : ∃ t, Lib.trimS l blk = t := ⟨_, rfl⟩
  rw [ht] at e
  unfold refN parsN wordOf restOf
  rw [ht]
  cases t with
  | nil =>
    have : dB l = [] := by
      rw [e, List.append_nil, dB_bls ha]
      exact drop_nil_of hb
    rw [this]
    show (if opOf [] = 0 then _ else _) = parsOp (opOf []) []
    rw [opOf_nil, if_pos rfl]; rfl
  | cons c t =>
    have hc := hhead c t ht
    have hdb : dB l = (c :: t) ++ b := by
      rw [e, List.append_assoc, dB_bls ha]
      refine dB_id fun d hd => ?_
      have : c = d := by simpa using hd
      rw [← this]; exact hc
    obtain ⟨w, r, hwr, hw1, hw2⟩ : ∃ w r, c :: t = w ++ r ∧ (∀ b ∈ w, isBl b = false) ∧ (∀ b, r.head? = some b → isBl b = true) := by
      refine ⟨(c :: t).takeWhile (!isBl ·), (c :: t).dropWhile (!isBl ·), (List.takeWhile_append_dropWhile).symm, fun b hb => ?_, fun b hb => ?_⟩
      · have := mem_tw hb
        simpa using this
      · have := List.head?_dropWhile_not (!isBl ·) (c :: t)
        rw [hb] at this
        simpa using this
    have hrb : ∀ d, (r ++ b).head? = some d → isBl d = true := by
      intro d hd
      cases r with
      | nil =>
        rw [List.nil_append] at hd
        exact hb d (List.mem_of_mem_head? hd)
      | cons x y =>
        have : x = d := by simpa using hd
        rw [← this]; exact hw2 x rfl
    rw [hdb, hwr, (take_w w r hw1 hw2).1, (take_w w r hw1 hw2).2, List.append_assoc, (take_w w (r ++ b) hw1 hrb).1, (take_w w (r ++ b) hw1 hrb).2]
    obtain ⟨o, ho⟩ : ∃ o, opOf w = o := ⟨_, rfl⟩
    rw [ho]
    unfold parsOp
    by_cases h0 : o = 0
    · rw [if_pos h0, if_pos h0]
    rw [if_neg h0, if_neg h0, rGo_op]
    have hrg : rGo (fields (opsN o)) (dB (r ++ b)) Ins.zero = (pRun (opsN o) r 4).bind fin := by
      rw [pRun_go]
      by_cases hf : fields (opsN o) = []
      · rw [hf]
        show (if dB (r ++ b) = [] then some Ins.zero else none) = fin (Ins.zero, r, !r.isEmpty)
        unfold fin
        cases hr : r with
        | nil => 
          rw [if_pos (by rw [List.nil_append]; exact drop_nil_of hb), if_neg (by simp)]
        | cons x y =>
          obtain ⟨q, z, hq⟩ := all_last (w := r) (by rw [hr]; simp)
          have hz : isBl z = false := hlast z (by rw [ht, hwr, hq, ← List.append_assoc, List.getLast?_concat])
          rw [if_neg, if_pos (by simp)]
          intro hn
          rw [← hr] at hn
          have := dB_nil hn z (by rw [hq]; simp)
          rw [hz] at this; cases this
      · exact (go_same b hb _ hf r Ins.zero _).symm
    rw [hrg]
    cases hp : pRun (opsN o) r 4 with
    | none =>
      rw [pOps_none (Nat.le_refl _) hp]
      rfl
    | some st =>
      obtain ⟨v, r2, mo⟩ := st
      rw [pOps_some hp]
      have e : (some (v, r2, mo)).bind fin = (if mo then none else some v) := rfl
      rw [e]
      cases mo
      · rfl
      · rfl
end Go.Proofs.YtmnhnighlgpjmaaDoor
