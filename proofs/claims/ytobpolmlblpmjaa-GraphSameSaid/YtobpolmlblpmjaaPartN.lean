/-
  What the rounds of Parts keep.
-/
import Derived.Test.YtobpolmlblpmjaaPartM
namespace Go.Proofs.Ytobpolmlblpmjaa
set_option linter.unusedVariables false
set_option linter.unusedSimpArgs false

def hdL (A : Arcs) (n : Nat) : List Nat := (List.range n).map (hd A n)
def backA (A : Arcs) (n : Nat) : List (List Nat) := addA n ((pairs (nextOf n A)).map swp)
theorem sx_mem {A : Arcs} {n m x : Nat} (hA : ∀ a ∈ A, a.1 < n ∧ a.2 < n) : x ∈ SX (hdL A n) (backA A n) (partOf A n m) → ∃ a b, (a, b) ∈ A ∧ b ∈ partOf A n m ∧ hd A n a = x := by
  intro h
  unfold SX at h
  obtain ⟨b, hb, h2⟩ := List.mem_flatMap.1 h
  obtain ⟨a, ha, h3⟩ := List.mem_map.1 h2
  have hbn := (mem_partOf.1 hb).1
  have h4 : (a, b) ∈ A := by
    rw [backA, addA_mem n _ b a hbn] at ha
    obtain ⟨c, hc, he⟩ := List.mem_map.1 ha
    obtain ⟨c1, c2⟩ := c
    unfold swp at he
    injection he with e1 e2
    simp only at e1 e2
    subst e1; subst e2
    exact (pairs_perm hA).mem_iff.1 hc
  refine ⟨a, b, h4, hb, ?_⟩
  rw [← h3]; exact (getD_hd A n a (hA _ h4).1).symm
/-- The state of Parts between two rounds. -/
structure Rdy (A : Arcs) (n : Nat) (D h O : List Nat) : Prop where
  lis : Listed A n D
  nd : h.Nodup
  iff : ∀ x, x ∈ h ↔ Next A n D x
  op : ∀ x, x < n → x ∉ D → O.getD x 0 = openOf A n D x
theorem part_out {A : Arcs} {n m : Nat} {D : List Nat} (hL : Listed A n D) (hm : m < n) (hmD : m ∉ D) : ∀ y ∈ partOf A n m, y ∉ D := fun y hy hd => hmD (hL.down y m hd hm (mem_partOf.1 hy).2.2)
theorem sx_out {A : Arcs} {n m x : Nat} {D : List Nat} (hA : ∀ a ∈ A, a.1 < n ∧ a.2 < n) (hL : Listed A n D) (hm : m < n) (hmD : m ∉ D) (hx : x ∈ SX (hdL A n) (backA A n) (partOf A n m)) : x < n ∧ x ∉ D ∧ hd A n x = x := by
  obtain ⟨a, b, h1, h2, h3⟩ := sx_mem hA hx
  have ha := (hA _ h1).1
  have hb := (hA _ h1).2
  have h4 := hd_mem (A := A) ha
  rw [h3] at h4
  refine ⟨h4.1, fun hd => ?_, by rw [← h3]; exact hd_idem ha⟩
  exact part_out hL hm hmD b h2 (hL.down x b hd hb (h4.2.2.trans (.one h1)))
theorem Rdy.cnt {A : Arcs} {n m : Nat} {D h O : List Nat} (R : Rdy A n D h O) (hA : ∀ a ∈ A, a.1 < n ∧ a.2 < n) (hm : Next A n D m) : ∀ x, x ≠ m → (SX (hdL A n) (backA A n) (partOf A n m)).count x ≤ O.getD x 0 := fun x hx => by
  by_cases hs : x ∈ SX (hdL A n) (backA A n) (partOf A n m)
  · have h1 := sx_out hA R.lis hm.1 hm.2.2.1 hs
    rw [R.op x h1.1 h1.2.1, open_settle hA hm.1 hm.2.1 hx (part_out R.lis hm.1 hm.2.2.1)]
    unfold hdL backA
    omega
  · rw [List.count_eq_zero.2 hs]; omega
/-- The least of the heap is listed: what settle leaves is the next state. -/
theorem Rdy.next {A : Arcs} {n m : Nat} {D h h' O : List Nat} (R : Rdy A n D h O) (hA : ∀ a ∈ A, a.1 < n ∧ a.2 < n) (hp : (m :: h').Perm h) :
    Rdy A n (D ++ partOf A n m) (h' ++ (foldS m O (SX (hdL A n) (backA A n) (partOf A n m))).2) (foldS m O (SX (hdL A n) (backA A n) (partOf A n m))).1 := by
  have hmh : m ∈ h := hp.mem_iff.1 (by simp)
  have hm := (R.iff m).1 hmh
  have hnd := List.nodup_cons.1 (hp.nodup_iff.2 R.nd)
  have F := foldS_free m O _ (R.cnt hA hm)
  have hout := part_out R.lis hm.1 hm.2.2.1
  have hos : ∀ x, x ≠ m → openOf A n D x = openOf A n (D ++ partOf A n m) x + (SX (hdL A n) (backA A n) (partOf A n m)).count x := fun x hx => open_settle hA hm.1 hm.2.1 hx hout
  have hself : m ∈ partOf A n m := mem_partOf.2 ⟨hm.1, eqv.refl A m⟩
  have hpart : ∀ x, x < n → hd A n x = x → x ∈ partOf A n m → x = m := fun x hx he hx2 => by
    have := (hd_iff hx hm.1).2 ⟨(mem_partOf.1 hx2).2.2, (mem_partOf.1 hx2).2.1⟩
    rw [he, hm.2.1] at this; exact this
  have hrest : ∀ x, x ∈ h' → x ≠ m ∧ Next A n D x := fun x hx => ⟨fun e => hnd.1 (e ▸ hx), (R.iff x).1 (hp.mem_iff.1 (List.mem_cons_of_mem _ hx))⟩
  refine ⟨R.lis.snoc hm.1 (find_next hA R.lis hm), ?_, fun x => ?_, fun x hx hxD => ?_⟩
  · rw [List.nodup_append]
    refine ⟨hnd.2, F.nd, fun a ha b hb e => ?_⟩
    subst e
    have h1 := (hrest a ha).2
    have h2 := (F.iff a).1 hb
    rw [R.op a h1.1 h1.2.2.1] at h2
    have h3 : 0 < (SX (hdL A n) (backA A n) (partOf A n m)).count a := List.count_pos_iff.2 h2.2.1
    have h4 := hos a h2.1
    have h5 := h1.2.2.2
    omega
  · rw [List.mem_append]
    constructor
    · rintro (hx | hx)
      · obtain ⟨h1, h2⟩ := hrest x hx
        refine ⟨h2.1, h2.2.1, ?_, ?_⟩
        · rw [List.mem_append]
          rintro (h3 | h3)
          · exact h2.2.2.1 h3
          · exact h1 (hpart x h2.1 h2.2.1 h3)
        · have h3 := hos x h1
          have h4 := h2.2.2.2
          omega
      · have h1 := (F.iff x).1 hx
        have h2 := sx_out hA R.lis hm.1 hm.2.2.1 h1.2.1
        refine ⟨h2.1, h2.2.2, ?_, ?_⟩
        · rw [List.mem_append]
          rintro (h3 | h3)
          · exact h2.2.1 h3
          · exact h1.1 (hpart x h2.1 h2.2.2 h3)
        · have h3 := hos x h1.1
          have h4 := h1.2.2
          rw [R.op x h2.1 h2.2.1] at h4
          omega
    · intro hx
      have hxm : x ≠ m := fun e => hx.2.2.1 (by rw [e, List.mem_append]; exact .inr hself)
      have hxD : x ∉ D := fun h => hx.2.2.1 (List.mem_append_left _ h)
      have h3 := hos x hxm
      have h4 := hx.2.2.2
      by_cases h5 : openOf A n D x = 0
      · have h6 : x ∈ h := (R.iff x).2 ⟨hx.1, hx.2.1, hxD, h5⟩
        rcases List.mem_cons.1 (hp.mem_iff.2 h6) with h7 | h7
        · exact absurd h7 hxm
        · exact .inl h7
      · refine .inr ((F.iff x).2 ⟨hxm, ?_, ?_⟩)
        · exact List.count_pos_iff.1 (by omega)
        · rw [R.op x hx.1 hxD]; omega
  · have hxm : x ≠ m := fun e => hxD (by rw [e, List.mem_append]; exact .inr hself)
    rw [foldS_get, if_neg hxm, R.op x hx (fun h => hxD (List.mem_append_left _ h)), hos x hxm]
    omega
/-- What is still to come. -/
structure ToCome (A : Arcs) (n : Nat) (D : List Nat) (L : List (List Nat)) : Prop where
  ex : ∃ k, partsOf A n = L ++ partsGo A n k D ∧ n ≤ D.length + k
theorem ToCome.start (A : Arcs) (n : Nat) : ToCome A n [] [] := ⟨⟨n, rfl, by simp⟩⟩
theorem ToCome.next {A : Arcs} {n m : Nat} {D h h' O : List Nat} {L : List (List Nat)} (T : ToCome A n D L) (R : Rdy A n D h O) (hA : ∀ a ∈ A, a.1 < n ∧ a.2 < n) (hp : (m :: h').Perm h) (hmin : ∀ x ∈ h, m ≤ x) : ToCome A n (D ++ partOf A n m) (L ++ [partOf A n m]) := by
  obtain ⟨k, h1, h2⟩ := T.ex
  have hm := (R.iff m).1 (hp.mem_iff.1 (by simp))
  have hf := next_find hA R.lis hm (fun x hx => hmin x ((R.iff x).2 hx))
  have hself : m ∈ partOf A n m := mem_partOf.2 ⟨hm.1, eqv.refl A m⟩
  have hlen := List.length_pos_of_mem hself
  cases k with
  | zero => exact absurd (R.lis.full (by omega) hm.1) hm.2.2.1
  | succ k =>
    refine ⟨⟨k, ?_, by rw [List.length_append]; omega⟩⟩
    rw [h1]
    show L ++ partsGo A n (k + 1) D = _
    rw [partsGo, hf]
    simp
theorem ToCome.done {A : Arcs} {n : Nat} {D O : List Nat} {L : List (List Nat)} (T : ToCome A n D L) (R : Rdy A n D [] O) (hA : ∀ a ∈ A, a.1 < n ∧ a.2 < n) : L = partsOf A n := by
  obtain ⟨k, h1, h2⟩ := T.ex
  have hf := next_none hA R.lis (fun x hx => by have := (R.iff x).2 hx; simp at this)
  rw [h1]
  cases k with
  | zero => simp [partsGo]
  | succ k => rw [partsGo, hf]; simp
end Go.Proofs.Ytobpolmlblpmjaa
