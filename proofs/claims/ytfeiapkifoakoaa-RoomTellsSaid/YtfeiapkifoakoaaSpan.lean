/-
  Adding and cutting, as the program does it: what is touched, and what stands in its place.
-/
import Derived.Test.YtfeiapkifoakoaaBs
namespace Go.Proofs.Ytfeiapkifoakoaa
set_option linter.unusedVariables false
set_option linter.unusedSimpArgs false

/-- The spans L and s in one. -/
def hf (L : List Sp) (s : Sp) : Sp := L.foldl (fun h x => hull x h) s
theorem hf_nil (s : Sp) : hf [] s = s := rfl
theorem hf_cons (x : Sp) (L : List Sp) (s : Sp) : hf (x :: L) s = hf L (hull x s) := rfl
theorem hf_snoc (L : List Sp) (x s : Sp) : hf (L ++ [x]) s = hull x (hf L s) := by unfold hf; rw [List.foldl_append]; rfl
theorem hull_p (x s : Sp) : (hull x s).p = min x.p s.p := rfl

theorem addS_eq : ∀ (l : List Sp) (s : Sp) (i j : Nat), right l → i ≤ j → j ≤ l.length → (∀ c, c < i → (gt l c).e < s.p) → (∀ c, i ≤ c → c < l.length → s.p ≤ (gt l c).e) →
    (∀ c, c < j → (gt l c).p < s.e + 1) → (∀ c, j ≤ c → c < l.length → s.e + 1 ≤ (gt l c).p) → addS l s = l.take i ++ [hf ((l.take j).drop i) s] ++ l.drop j
  | [], s, i, j, _, hij, hj, _, _, _, _ => by
    have : j = 0 := by simpa using hj
    have : i = 0 := by omega
    subst i; subst j; rfl
  | x :: l, s, i, j, hr, hij, hj, h1, h2, h3, h4 => by
    rw [addS]
    rcases i with _ | i
    · have g2 := h2 0 (Nat.le_refl _) (by simp)
      rw [show gt (x :: l) 0 = x from rfl] at g2
      rw [if_neg (by omega)]
      rcases j with _ | j
      · have g4 := h4 0 (Nat.le_refl _) (by simp)
        rw [show gt (x :: l) 0 = x from rfl] at g4
        rw [if_pos (by omega)]
        rfl
      · have g3 := h3 0 (by omega)
        rw [show gt (x :: l) 0 = x from rfl] at g3
        rw [if_neg (by omega)]
        have hxe := hull_e x s
        have hxp := hull_p x s
        rw [addS_eq l (hull x s) 0 j (right_tail hr) (by omega) (by simpa using hj) (fun c hc => by omega)
          (fun c hc hcl => by have := h2 (c + 1) (by omega) (by simpa using hcl); rw [show gt (x :: l) (c + 1) = gt l c from rfl] at this; omega)
          (fun c hc => by have := h3 (c + 1) (by omega); rw [show gt (x :: l) (c + 1) = gt l c from rfl] at this; omega)
          (fun c hc hcl => by
            have h5 := h4 (c + 1) (by omega) (by simpa using hcl)
            have h6 := right_lt hr 0 (c + 1) (by omega) (by simpa using hcl)
            rw [show gt (x :: l) (c + 1) = gt l c from rfl] at h5 h6
            rw [show gt (x :: l) 0 = x from rfl] at h6
            omega)]
        rfl
    · have g1 := h1 0 (by omega)
      rw [show gt (x :: l) 0 = x from rfl] at g1
      rw [if_pos g1]
      obtain ⟨j, rfl⟩ : ∃ k, j = k + 1 := ⟨j - 1, by omega⟩
      rw [addS_eq l s i j (right_tail hr) (by omega) (by simpa using hj) (fun c hc => h1 (c + 1) (by omega))
        (fun c hc hcl => h2 (c + 1) (by omega) (by simpa using hcl)) (fun c hc => h3 (c + 1) (by omega)) (fun c hc hcl => h4 (c + 1) (by omega) (by simpa using hcl))]
      rfl
/-- What is left of x without s, where the two touch. -/
def cutP (x s : Sp) : List Sp := (if x.p < s.p then [⟨x.p, s.p - x.p⟩] else []) ++ (if s.e < x.e then [⟨s.e, x.e - s.e⟩] else [])
def cutM (L : List Sp) (s : Sp) : List Sp := L.flatMap fun x => cutP x s
theorem cutM_nil (s : Sp) : cutM [] s = [] := rfl
theorem cutM_snoc (L : List Sp) (x s : Sp) : cutM (L ++ [x]) s = cutM L s ++ cutP x s := by unfold cutM; rw [List.flatMap_append]; simp
theorem cutM_length : ∀ (L : List Sp) (s : Sp), (cutM L s).length ≤ 2 * L.length
  | [], s => by simp [cutM]
  | x :: L, s => by
    have h := cutM_length L s
    have e : cutM (x :: L) s = cutP x s ++ cutM L s := rfl
    rw [e, List.length_append, List.length_cons]
    have : (cutP x s).length ≤ 2 := by unfold cutP; split <;> split <;> simp
    omega
theorem cut1_before {x s : Sp} (hn : 0 < x.n) (hs : 0 < s.n) (h : x.e < s.p) : cut1 x s = [x] := by
  unfold cut1
  rw [if_pos (by unfold Sp.e at *; omega), if_neg (by unfold Sp.e at *; omega), List.append_nil]
  congr 1
  cases x with
  | mk p n => unfold Sp.e at *; simp only at *; congr 1; omega
theorem cut1_after {x s : Sp} (hn : 0 < x.n) (hs : 0 < s.n) (h : s.e < x.p) : cut1 x s = [x] := by
  unfold cut1
  rw [if_neg (by unfold Sp.e at *; omega), if_pos (by unfold Sp.e at *; omega), List.nil_append]
  congr 1
  cases x with
  | mk p n => unfold Sp.e at *; simp only at *; congr 1 <;> omega
theorem cut1_touch {x s : Sp} (h1 : s.p ≤ x.e) (h2 : x.p ≤ s.e) : cut1 x s = cutP x s := by
  unfold cut1 cutP
  rw [show min x.e s.p = s.p by omega, show max x.p s.e = s.e by omega]
theorem cutS_eq : ∀ (l : List Sp) (s : Sp) (i j : Nat), right l → 0 < s.n → i ≤ j → j ≤ l.length → (∀ c, c < i → (gt l c).e < s.p) → (∀ c, i ≤ c → c < l.length → s.p ≤ (gt l c).e) →
    (∀ c, c < j → (gt l c).p < s.e + 1) → (∀ c, j ≤ c → c < l.length → s.e + 1 ≤ (gt l c).p) → cutS l s = l.take i ++ cutM ((l.take j).drop i) s ++ l.drop j
  | [], s, i, j, _, _, hij, hj, _, _, _, _ => by
    have : j = 0 := by simpa using hj
    have : i = 0 := by omega
    subst i; subst j; rfl
  | x :: l, s, i, j, hr, hs, hij, hj, h1, h2, h3, h4 => by
    have hx := (right_ok hr x (by simp)).2
    rw [show cutS (x :: l) s = cut1 x s ++ cutS l s from rfl]
    rcases i with _ | i
    · have g2 := h2 0 (Nat.le_refl _) (by simp)
      rw [show gt (x :: l) 0 = x from rfl] at g2
      rcases j with _ | j
      · have g4 := h4 0 (Nat.le_refl _) (by simp)
        rw [show gt (x :: l) 0 = x from rfl] at g4
        rw [cut1_after hx hs (by omega), cutS_eq l s 0 0 (right_tail hr) hs (by omega) (by omega) (fun c hc => by omega) (fun c hc hcl => h2 (c + 1) (by omega) (by simpa using hcl)) (fun c hc => by omega) (fun c hc hcl => h4 (c + 1) (by omega) (by simpa using hcl))]
        rfl
      · have g3 := h3 0 (by omega)
        rw [show gt (x :: l) 0 = x from rfl] at g3
        rw [cut1_touch g2 (by omega), cutS_eq l s 0 j (right_tail hr) hs (by omega) (by simpa using hj) (fun c hc => by omega) (fun c hc hcl => h2 (c + 1) (by omega) (by simpa using hcl)) (fun c hc => h3 (c + 1) (by omega)) (fun c hc hcl => h4 (c + 1) (by omega) (by simpa using hcl))]
        simp [cutM]
    · have g1 := h1 0 (by omega)
      rw [show gt (x :: l) 0 = x from rfl] at g1
      obtain ⟨j, rfl⟩ : ∃ k, j = k + 1 := ⟨j - 1, by omega⟩
      rw [cut1_before hx hs g1, cutS_eq l s i j (right_tail hr) hs (by omega) (by simpa using hj) (fun c hc => h1 (c + 1) (by omega))
        (fun c hc hcl => h2 (c + 1) (by omega) (by simpa using hcl)) (fun c hc => h3 (c + 1) (by omega)) (fun c hc hcl => h4 (c + 1) (by omega) (by simpa using hcl))]
      rfl
end Go.Proofs.Ytfeiapkifoakoaa
