/-
  How many addresses a right list has, and what that says of adding, cutting, having and meeting; finding a place.
-/
import Derived.Test.YtfeiapkifoakoaaSet
namespace Go.Proofs.Ytfeiapkifoakoaa
set_option linter.unusedVariables false
set_option linter.unusedSimpArgs false

def memN (l : List Sp) (a : Nat) : Bool := decide (inn l (a : Int))
def spN (s : Sp) (a : Nat) : Bool := decide (s.has (a : Int))
theorem memN_iff (l : List Sp) (a : Nat) : memN l a = true ↔ inn l (a : Int) := decide_eq_true_iff
theorem spN_iff (s : Sp) (a : Nat) : spN s a = true ↔ s.has (a : Int) := decide_eq_true_iff
theorem sp_cnt {s : Sp} {N : Nat} (h : s.ok) (hN : N = 1099511627776) : (cnt (spN s) N : Int) = s.n := by
  have e : cnt (spN s) N = cnt (fun a => decide (s.p.toNat ≤ a ∧ a < s.e.toNat)) N := cnt_congr fun a _ => by
    unfold spN
    congr 1
    unfold Sp.has Sp.ok Sp.e at *
    apply propext
    omega
  rw [e, cnt_interval _ _ (by unfold Sp.ok Sp.e at *; omega)]
  unfold Sp.ok Sp.e at *
  omega
theorem tot_cnt {N : Nat} (hN : N = 1099511627776) : ∀ {l : List Sp}, right l → tot l = (cnt (memN l) N : Int)
  | [], _ => by
    rw [cnt_none fun a _ => by unfold memN; rw [decide_eq_false_iff_not]; exact inn_nil _]
    rfl
  | x :: l, h => by
    obtain ⟨x1, x2, x3, x4⟩ := (right_cons x l).1 h
    have e : cnt (memN (x :: l)) N = cnt (fun a => spN x a || memN l a) N := cnt_congr fun a _ => by
      rw [Bool.eq_iff_iff, Bool.or_eq_true, memN_iff, memN_iff, spN_iff, inn_cons]
    rw [tot_cons, tot_cnt hN x4, e, cnt_or, Int.natCast_add, sp_cnt x1 hN]
    rintro a _ ⟨h1, h2⟩
    have h3 := (spN_iff x a).1 h1
    have h4 := inn_behind h ((memN_iff l a).1 h2)
    have := h3.2
    omega
theorem tot_bound {l : List Sp} (h : right l) : 0 ≤ tot l ∧ tot l ≤ 1099511627776 := by
  obtain ⟨N, hN⟩ : ∃ N : Nat, N = 1099511627776 := ⟨_, rfl⟩
  rw [tot_cnt hN h]
  have h1 : cnt (memN l) N ≤ cnt (fun _ => true) N := cnt_le fun _ _ _ => rfl
  have h2 : ∀ n : Nat, cnt (fun _ => true) n = n := by
    intro n
    induction n with
    | zero => rfl
    | succ n ih => rw [cnt, ih]; rfl
  rw [h2] at h1
  omega
theorem right_take {l : List Sp} (h : right l) (k : Nat) : right (l.take k) := by
  intro i hi
  have hil : i < l.length := by rw [List.length_take] at hi; omega
  have hik : i < k := by rw [List.length_take] at hi; omega
  have e : ∀ j, j < k → gt (l.take k) j = gt l j := fun j hj => by simp [gt, List.getD_eq_getElem?_getD, List.getElem?_take, hj]
  have h1 := h i hil
  refine ⟨by rw [e i hik]; exact h1.1, by rw [e i hik]; exact h1.2.1, fun h0 => ?_⟩
  rw [e i hik, e (i - 1) (by omega)]
  exact h1.2.2 h0
theorem tot_take (l : List Sp) (k : Nat) (h : k < l.length) : tot (l.take (k + 1)) = tot (l.take k) + (gt l k).n := by
  rw [List.take_succ_eq_append_getElem h, gt_get l k h]
  unfold tot
  rw [List.map_append, List.sum_append]
  simp

/-- What adding and cutting leave differ by the span. -/
theorem add_cut {l : List Sp} {s : Sp} (h : right l) (hs : s.ok) : tot (addL l s) = tot (cutL l s) + s.n := by
  obtain ⟨N, hN⟩ : ∃ N : Nat, N = 1099511627776 := ⟨_, rfl⟩
  rw [tot_cnt hN (addL_right s h), tot_cnt hN (cutL_right s h), ← sp_cnt hs hN]
  have e : cnt (memN (addL l s)) N = cnt (fun a => memN (cutL l s) a || spN s a) N := cnt_congr fun a _ => by
    rw [Bool.eq_iff_iff, Bool.or_eq_true, memN_iff, memN_iff, spN_iff, addL_mem h hs, cutL_mem h hs]
    by_cases h1 : s.has (a : Int)
    · simp [h1]
    · simp [h1]
  rw [e, cnt_or, Int.natCast_add]
  rintro a _ ⟨h1, h2⟩
  exact ((cutL_mem h hs _).1 ((memN_iff _ _).1 h1)).2 ((spN_iff _ _).1 h2)
theorem add_ge {l : List Sp} {s : Sp} (h : right l) (hs : s.ok) : tot l ≤ tot (addL l s) := by
  obtain ⟨N, hN⟩ : ∃ N : Nat, N = 1099511627776 := ⟨_, rfl⟩
  rw [tot_cnt hN (addL_right s h), tot_cnt hN h]
  have : cnt (memN l) N ≤ cnt (memN (addL l s)) N := cnt_le fun a _ h1 => by
    rw [memN_iff] at *
    exact (addL_mem h hs _).2 (.inl h1)
  omega
theorem cut_le {l : List Sp} {s : Sp} (h : right l) (hs : s.ok) : tot (cutL l s) ≤ tot l := by
  obtain ⟨N, hN⟩ : ∃ N : Nat, N = 1099511627776 := ⟨_, rfl⟩
  rw [tot_cnt hN (cutL_right s h), tot_cnt hN h]
  have : cnt (memN (cutL l s)) N ≤ cnt (memN l) N := cnt_le fun a _ h1 => by
    rw [memN_iff] at *
    exact ((cutL_mem h hs _).1 h1).1
  omega
/-- A list has a span if adding it brings nothing. -/
theorem has_iff {l : List Sp} {s : Sp} (h : right l) (hs : s.ok) : (∀ a, s.has a → inn l a) ↔ tot (addL l s) = tot l := by
  constructor
  · intro hsub
    have : addL l s = l := right_unique (addL_right s h) h fun a => by
      rw [addL_mem h hs]
      exact ⟨fun h1 => h1.elim id (hsub a), .inl⟩
    rw [this]
  · intro he a ha
    obtain ⟨N, hN⟩ : ∃ N : Nat, N = 1099511627776 := ⟨_, rfl⟩
    rw [tot_cnt hN (addL_right s h), tot_cnt hN h] at he
    have hin : inn (addL l s) a := (addL_mem h hs a).2 (.inr ha)
    have hb := inn_bound (addL_right s h) hin
    have h1 := cnt_eq (P := memN l) (Q := memN (addL l s)) (n := N) (fun a _ h1 => by
      rw [memN_iff] at *
      exact (addL_mem h hs _).2 (.inl h1)) (by omega) a.toNat (by omega) (by rw [memN_iff, show ((a.toNat : Nat) : Int) = a by omega]; exact hin)
    rw [memN_iff, show ((a.toNat : Nat) : Int) = a by omega] at h1
    exact h1
/-- A list meets a span if cutting it takes something. -/
theorem meets_iff {l : List Sp} {s : Sp} (h : right l) (hs : s.ok) : (∃ a, s.has a ∧ inn l a) ↔ tot (cutL l s) < tot l := by
  constructor
  · rintro ⟨a, ha, hl⟩
    have hle := cut_le h hs
    by_cases he : tot (cutL l s) = tot l
    · exfalso
      obtain ⟨N, hN⟩ : ∃ N : Nat, N = 1099511627776 := ⟨_, rfl⟩
      rw [tot_cnt hN (cutL_right s h), tot_cnt hN h] at he
      have hb := inn_bound h hl
      have h1 := cnt_eq (P := memN (cutL l s)) (Q := memN l) (n := N) (fun a _ h1 => by
        rw [memN_iff] at *
        exact ((cutL_mem h hs _).1 h1).1) (by omega) a.toNat (by omega) (by rw [memN_iff, show ((a.toNat : Nat) : Int) = a by omega]; exact hl)
      rw [memN_iff, show ((a.toNat : Nat) : Int) = a by omega] at h1
      exact ((cutL_mem h hs _).1 h1).2 ha
    · omega
  · intro hlt
    by_cases hex : ∃ a, s.has a ∧ inn l a
    · exact hex
    · exfalso
      have : cutL l s = l := right_unique (cutL_right s h) h fun a => by
        rw [cutL_mem h hs]
        exact ⟨fun h1 => h1.1, fun h1 => ⟨h1, fun h2 => hex ⟨a, h2, h1⟩⟩⟩
      rw [this] at hlt
      omega
def totalL (l : List Sp) : Int := if right l then tot l else 0
def hasL (l : List Sp) (s : Sp) : Bool := decide (right l ∧ s.ok ∧ tot (addL l s) = tot l)
def meetsL (l : List Sp) (s : Sp) : Bool := decide (right l ∧ s.ok ∧ tot (cutL l s) < tot l)
theorem hasL_iff {l : List Sp} {s : Sp} (h : right l) (hs : s.ok) : hasL l s = true ↔ ∀ a, s.has a → inn l a := by
  unfold hasL; rw [decide_eq_true_iff, has_iff h hs]
  exact ⟨fun h1 => h1.2.2, fun h1 => ⟨h, hs, h1⟩⟩
theorem meetsL_iff {l : List Sp} {s : Sp} (h : right l) (hs : s.ok) : meetsL l s = true ↔ ∃ a, s.has a ∧ inn l a := by
  unfold meetsL; rw [decide_eq_true_iff, meets_iff h hs]
  exact ⟨fun h1 => h1.2.2, fun h1 => ⟨h, hs, h1⟩⟩

/-! Finding a place -/
def roundUp (a d : Int) : Int := if a % d = 0 then a else a - a % d + d
theorem roundUp_spec {a d : Int} (hd : 1 ≤ d) : a ≤ roundUp a d ∧ roundUp a d % d = 0 ∧ roundUp a d < a + d ∧ ∀ b, a ≤ b → b % d = 0 → roundUp a d ≤ b := by
  have h1 := Int.emod_nonneg a (show d ≠ 0 by omega)
  have h2 := Int.emod_lt_of_pos a (show 0 < d by omega)
  have h3 := Int.mul_ediv_add_emod a d
  unfold roundUp
  by_cases h0 : a % d = 0
  · rw [if_pos h0]
    exact ⟨Int.le_refl _, h0, by omega, fun b hb _ => hb⟩
  · rw [if_neg h0]
    have e : a - a % d + d = d * (a / d + 1) := by rw [Int.mul_add, Int.mul_one]; omega
    refine ⟨by omega, by rw [e]; exact Int.mul_emod_right _ _, by omega, fun b hb hbd => ?_⟩
    have h4 := Int.mul_ediv_add_emod b d
    rw [hbd, Int.add_zero] at h4
    rw [e, ← h4]
    refine Int.mul_le_mul_of_nonneg_left ?_ (by omega)
    have h5 : d * (a / d) < d * (b / d) := by omega
    have := Int.lt_of_mul_lt_mul_left h5 (by omega)
    omega
def fitS : List Sp → Int → Int → Int → Int → Option Int
  | [], _, _, _, _ => none
  | x :: l, size, d, from_, until_ =>
    if roundUp (max x.p from_) d + size ≤ x.e ∧ roundUp (max x.p from_) d + size ≤ until_ then some (roundUp (max x.p from_) d) else fitS l size d from_ until_
/-- A place, as the document says it. -/
structure Place (l : List Sp) (size d from_ until_ a : Int) : Prop where
  pos : 0 ≤ a
  mul : a % d = 0
  low : from_ ≤ a
  high : a + size ≤ until_
  has : ∀ b, a ≤ b → b < a + size → inn l b
theorem end_out {l : List Sp} (h : right l) {x : Sp} (hx : x ∈ l) : ¬ inn l x.e := by
  induction l with
  | nil => simp at hx
  | cons y l ih =>
    intro hc
    rcases (inn_cons _ _ _).1 hc with h1 | h1
    · rcases List.mem_cons.1 hx with rfl | hx
      · have := h1.2; omega
      · have h2 := right_behind h x hx
        have h3 := (right_ok h x (by simp [hx])).2
        have := h1.2
        unfold Sp.e at *; omega
    · rcases List.mem_cons.1 hx with rfl | hx
      · have := inn_behind h h1; omega
      · exact ih (right_tail h) hx h1
/-- Addresses one behind the other lie in one span. -/
theorem in_one {l : List Sp} (h : right l) {a size : Int} (hs : 1 ≤ size) (hin : ∀ b, a ≤ b → b < a + size → inn l b) : ∃ x ∈ l, x.p ≤ a ∧ a + size ≤ x.e := by
  obtain ⟨x, hx, h1, h2⟩ := hin a (Int.le_refl _) (by omega)
  refine ⟨x, hx, h1, ?_⟩
  by_cases hc : a + size ≤ x.e
  · exact hc
  · exact absurd (hin x.e (by omega) (by omega)) (end_out h hx)
theorem fitS_some : ∀ {l : List Sp} {size d from_ until_ a : Int}, right l → 1 ≤ size → 1 ≤ d → fitS l size d from_ until_ = some a → Place l size d from_ until_ a ∧ ∀ b, Place l size d from_ until_ b → a ≤ b
  | [], _, _, _, _, _, _, _, _, h => by simp [fitS] at h
  | x :: l, size, d, from_, until_, a, hr, hs, hd, h => by
    obtain ⟨x1, x2, x3, x4⟩ := (right_cons x l).1 hr
    obtain ⟨r1, r2, r3, r4⟩ := roundUp_spec (a := max x.p from_) hd
    rw [fitS] at h
    by_cases hc : roundUp (max x.p from_) d + size ≤ x.e ∧ roundUp (max x.p from_) d + size ≤ until_
    · rw [if_pos hc] at h
      injection h with h
      subst h
      refine ⟨⟨by unfold Sp.ok at x1; omega, r2, by omega, hc.2, fun b h1 h2 => (inn_cons _ _ _).2 (.inl ⟨by omega, by omega⟩)⟩, fun b hb => r4 b ?_ hb.mul⟩
      have hl := hb.low
      rcases (inn_cons _ _ _).1 (hb.has b (Int.le_refl _) (by omega)) with h1 | h1
      · have := h1.1; omega
      · have := inn_behind hr h1
        unfold Sp.e at this; omega
    · rw [if_neg hc] at h
      obtain ⟨hp, hmin⟩ := fitS_some x4 hs hd h
      refine ⟨⟨hp.pos, hp.mul, hp.low, hp.high, fun b h1 h2 => (inn_cons _ _ _).2 (.inr (hp.has b h1 h2))⟩, fun b hb => ?_⟩
      obtain ⟨y, hy, y1, y2⟩ := in_one hr hs hb.has
      rcases List.mem_cons.1 hy with rfl | hy
      · exfalso
        have h4 := r4 b (by have := hb.low; omega) hb.mul
        exact hc ⟨by omega, by have := hb.high; omega⟩
      · exact hmin b ⟨hb.pos, hb.mul, hb.low, hb.high, fun c h1 h2 => ⟨y, hy, by omega, by omega⟩⟩
theorem fitS_none : ∀ {l : List Sp} {size d from_ until_ : Int}, right l → 1 ≤ size → 1 ≤ d → fitS l size d from_ until_ = none → ∀ b, ¬ Place l size d from_ until_ b
  | [], _, _, _, _, _, hs, _, _, b, hb => inn_nil b (hb.has b (Int.le_refl _) (by omega))
  | x :: l, size, d, from_, until_, hr, hs, hd, h, b, hb => by
    obtain ⟨x1, x2, x3, x4⟩ := (right_cons x l).1 hr
    obtain ⟨r1, r2, r3, r4⟩ := roundUp_spec (a := max x.p from_) hd
    rw [fitS] at h
    by_cases hc : roundUp (max x.p from_) d + size ≤ x.e ∧ roundUp (max x.p from_) d + size ≤ until_
    · rw [if_pos hc] at h; cases h
    · rw [if_neg hc] at h
      obtain ⟨y, hy, y1, y2⟩ := in_one hr hs hb.has
      rcases List.mem_cons.1 hy with rfl | hy
      · have h4 := r4 b (by have := hb.low; omega) hb.mul
        exact hc ⟨by omega, by have := hb.high; omega⟩
      · exact fitS_none x4 hs hd h b ⟨hb.pos, hb.mul, hb.low, hb.high, fun c h1 h2 => ⟨y, hy, by omega, by omega⟩⟩
/-- Fit, as the document says it. -/
def fitL (l : List Sp) (size d from_ until_ : Int) : Option Int := if right l ∧ 1 ≤ size ∧ size ≤ 1099511627776 ∧ 1 ≤ d ∧ d ≤ 1099511627776 ∧ from_ ≤ 1099511627776 then fitS l size d from_ until_ else none
theorem fitL_some {l : List Sp} {size d from_ until_ a : Int} (h : fitL l size d from_ until_ = some a) : Place l size d from_ until_ a ∧ ∀ b, Place l size d from_ until_ b → a ≤ b := by
  unfold fitL at h
  split at h
  · rename_i hc; exact fitS_some hc.1 hc.2.1 hc.2.2.2.1 h
  · cases h
theorem fitL_none {l : List Sp} {size d from_ until_ : Int} (hr : right l) (h1 : 1 ≤ size) (h2 : size ≤ 1099511627776) (h3 : 1 ≤ d) (h4 : d ≤ 1099511627776) (h : fitL l size d from_ until_ = none) : ∀ b, ¬ Place l size d from_ until_ b := by
  unfold fitL at h
  by_cases hf : from_ ≤ 1099511627776
  · rw [if_pos ⟨hr, h1, h2, h3, h4, hf⟩] at h
    exact fitS_none hr h1 h3 h
  · intro b hb
    have := inn_bound hr (hb.has b (Int.le_refl _) (by omega))
    have := hb.low
    omega
/-- Only one answer is right. -/
theorem fitL_unique {l : List Sp} {size d from_ until_ a : Int} (hr : right l) (h1 : 1 ≤ size) (h2 : size ≤ 1099511627776) (h3 : 1 ≤ d) (h4 : d ≤ 1099511627776) (hp : Place l size d from_ until_ a) (hm : ∀ b, Place l size d from_ until_ b → a ≤ b) : fitL l size d from_ until_ = some a := by
  rcases h : fitL l size d from_ until_ with _ | b
  · exact absurd hp (fitL_none hr h1 h2 h3 h4 h a)
  · obtain ⟨h5, h6⟩ := fitL_some h
    have := hm b h5
    have := h6 a hp
    congr 1; omega

/-! One address -/
theorem one_ok {a : Int} (h0 : 0 ≤ a) (h1 : a < 1099511627776) : Sp.ok ⟨a, 1⟩ := by unfold Sp.ok; simp only; omega
theorem has_one {l : List Sp} (h : right l) {a : Int} (h0 : 0 ≤ a) (h1 : a < 1099511627776) : hasL l ⟨a, 1⟩ = decide (inn l a) := by
  rw [Bool.eq_iff_iff, decide_eq_true_iff, hasL_iff h (one_ok h0 h1)]
  constructor
  · intro hh; exact hh a ⟨Int.le_refl _, by unfold Sp.e; simp only; omega⟩
  · intro hi b hb
    have : b = a := by unfold Sp.has Sp.e at hb; simp only at hb; omega
    rw [this]; exact hi
theorem meets_one {l : List Sp} (h : right l) {a : Int} (h0 : 0 ≤ a) (h1 : a < 1099511627776) : meetsL l ⟨a, 1⟩ = decide (inn l a) := by
  rw [Bool.eq_iff_iff, decide_eq_true_iff, meetsL_iff h (one_ok h0 h1)]
  constructor
  · rintro ⟨b, hb, hi⟩
    have : b = a := by unfold Sp.has Sp.e at hb; simp only at hb; omega
    rw [← this]; exact hi
  · intro hi; exact ⟨a, ⟨Int.le_refl _, by unfold Sp.e; simp only; omega⟩, hi⟩

/-! Lengths -/
theorem addS_length : ∀ (l : List Sp) (s : Sp), (addS l s).length ≤ l.length + 1
  | [], s => by simp [addS]
  | x :: l, s => by
    rw [addS]
    by_cases h1 : x.e < s.p
    · rw [if_pos h1]; have := addS_length l s; simp; omega
    · rw [if_neg h1]
      by_cases h2 : s.e < x.p
      · rw [if_pos h2]; simp
      · rw [if_neg h2]; have := addS_length l (hull x s); simp; omega
theorem addL_length (l : List Sp) (s : Sp) : (addL l s).length ≤ l.length + 1 := by
  unfold addL
  split
  · exact addS_length l s
  · omega
theorem cut1_le (x s : Sp) : (cut1 x s).length ≤ 2 := by unfold cut1; split <;> split <;> simp
theorem cut1_one {x s : Sp} (h : ¬ (x.p < s.p ∧ s.e < x.e)) : (cut1 x s).length ≤ 1 := by
  unfold cut1
  by_cases h1 : x.p < s.p
  · rw [if_pos h1, if_neg (fun h2 => h ⟨h1, h2⟩)]; simp
  · rw [if_neg h1]; split <;> simp
theorem cutS_cons (x : Sp) (l : List Sp) (s : Sp) : (cutS (x :: l) s).length = (cut1 x s).length + (cutS l s).length := by
  have e : cutS (x :: l) s = cut1 x s ++ cutS l s := rfl
  rw [e, List.length_append]
/-- Behind the span nothing is cut. -/
theorem cutS_after : ∀ (l : List Sp) (s : Sp), (∀ y ∈ l, s.p ≤ y.p) → (cutS l s).length ≤ l.length
  | [], s, _ => Nat.le_refl _
  | y :: l, s, h => by
    have h1 := cut1_one (x := y) (s := s) (fun hc => by have := h y (by simp); omega)
    have h2 := cutS_after l s fun z hz => h z (by simp [hz])
    rw [cutS_cons]; simp; omega
theorem cutS_length {l : List Sp} {s : Sp} (h : right l) (h0 : 0 ≤ s.n) : (cutS l s).length ≤ l.length + 1 := by
  induction l with
  | nil => simp [cutS]
  | cons x l ih =>
    rw [cutS_cons]
    by_cases hc : x.p < s.p ∧ s.e < x.e
    · have h1 := cut1_le x s
      have h2 := cutS_after l s fun y hy => by
        have := right_behind h y hy
        unfold Sp.e at *; omega
      simp; omega
    · have h1 := cut1_one hc
      have h2 := ih (right_tail h)
      simp; omega
theorem cutL_length {l : List Sp} {s : Sp} (h : right l) (hs : s.ok) : (cutL l s).length ≤ l.length + 1 := by
  unfold cutL
  split
  · exact cutS_length h (by unfold Sp.ok at hs; omega)
  · omega
end Go.Proofs.Ytfeiapkifoakoaa
