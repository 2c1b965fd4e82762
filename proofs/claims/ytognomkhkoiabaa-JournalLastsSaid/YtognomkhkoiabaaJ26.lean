/-
  Layer 7: steps of the law JournalLists.
-/
import Derived.Test.YtognomkhkoiabaaJ25
import Derived.Lib.SlFresh
namespace Go.Proofs.Ytognomkhkoiabaa
set_option linter.unusedVariables false
set_option linter.unusedSimpArgs false
open Go.RowKit

/-- A slice value that reads as news, wherever it lies. -/
structure Src (w : World) (u : Value) (m sz : Nat) (news : List Value) : Prop where
  ex : ∃ A cap, u = .slice A m cap ∧ news.length = m * sz ∧ (A = none → m = 0) ∧ ∀ ad, A = some ad → ∀ j y, news[j]? = some y → w.cell? (ad.add j) = some y
theorem Src.below {w w' : World} {u : Value} {m sz : Nat} {news : List Value} (h : Src w u m sz news) (hb : Below w.heap.size w w') : Src w' u m sz news := by
  obtain ⟨A, cap, hv, h0, h1, h2⟩ := h
  exact ⟨A, cap, hv, h0, h1, fun ad ha j y hy => (hb.cell (World.block_lt_of_cell? w _ (h2 ad ha j y hy))).trans (h2 ad ha j y hy)⟩
set_option maxRecDepth 100000 in
/-- What append to an empty new slice does: nothing that was there changes. -/
theorem app_new {w : World} {t e : TypeId} {i : TypeInfo} {z : Value} {sz bytes : Nat} (ht : Try.prog.underlying t = some (.slice e)) (hi : Try.prog.info? e = some i) (hz : i.zero = some z)
    (hsize : i.size = sz) (hby : i.bytes = bytes) (hzs : z.cells.size = sz) (hsz : 0 < sz) (g : Nat) (hg : w.ownsRow 0 e sz (.slice (some ⟨g, 0, none⟩) 0 0) 0 []) (u : Value) (m : Nat) (news : List Value) (hu : Src w u m sz news) (h1 : ∀ y ∈ news, y.oneCell' = true) (hm : m ≤ 1000000) (hb : bytes ≤ 64) :
    ∃ v' w', (Builtin.append_ #[t, t] t #[.slice (some ⟨g, 0, none⟩) 0 0, u]).run Try.prog w = .ok v' w' ∧ w'.ownsRow 0 e sz v' m news ∧ Below w.heap.size w w' ∧ (v'.ownBlock = some g ∨ v'.ownBlock = some w.heap.size) := by
  obtain ⟨A, cap, rfl, h0, h3, hc⟩ := hu
  rcases A with _ | ad
  · obtain rfl : m = 0 := h3 rfl
    obtain rfl : news = [] := List.eq_nil_of_length_eq_zero (by omega)
    have hun := run_underlying (P := Try.prog) ht
    refine ⟨.slice (some ⟨g, 0, none⟩) 0 0, w, ?_, hg, Below.refl _ _, .inl rfl⟩
    simp [Builtin.append_, hun, Builtin.lenOf, Builtin.firstCells, sizeOf, typeInfo, hi, storeCells]
  · by_cases hm0 : m = 0
    · subst hm0
      obtain rfl : news = [] := List.eq_nil_of_length_eq_zero (by omega)
      have hun := run_underlying (P := Try.prog) ht
      refine ⟨.slice (some ⟨g, 0, none⟩) 0 0, w, ?_, hg, Below.refl _ _, .inl rfl⟩
      simp [Builtin.append_, hun, Builtin.lenOf, Builtin.firstCells, sizeOf, typeInfo, hi, storeCells, loadCells, loadCellsFrom]
    · have hmb : m * bytes ≤ 64000000 := by
        have := Nat.mul_le_mul hm hb; omega
      have hr := run_append_grow (P := Try.prog) w t t e i z ht hi hz ⟨g, 0, none⟩ 0 0 [] (by simp) (fun j v h => by simp at h) ad m cap news (by rw [hsize]; exact h0) (hc ad rfl) (by omega) (by omega) (growslice_fits (by omega) (by rw [hby, Nat.zero_add]; omega))
      have hge := grownCap_ge w (0 + m) 0 e
      have hle := grownCap_le_maxLen w (0 + m) 0 e (by unfold maxLen; omega)
      simp only [Nat.zero_add] at hr hge hle
      refine ⟨_, _, hr, ?_, ((Below.refl w.heap.size w).drew).alloc (Nat.le_refl _) _, .inr rfl⟩
      refine ⟨h0, .inr ⟨w.heap.size, _, _, rfl, Nat.zero_le _, heap_alloc_new w.drew _, by omega, hle, ?_, ?_⟩⟩
      · simp only [Array.size_append, List.size_toArray, size_zeroCells, hzs, h0, List.length_nil, Nat.zero_add]
        rw [← Nat.add_mul]
        congr 1
        omega
      · simp only [Array.toList_append, List.append_assoc, List.nil_append]
        rw [← h0]
        exact List.take_left
theorem own_made (w : World) (e : TypeId) (sz : Nat) : (w.alloc (.cells #[] e)).ownsRow 0 e sz (.slice (some ⟨w.heap.size, 0, none⟩) 0 0) 0 [] :=
  ⟨by simp, .inr ⟨w.heap.size, 0, #[], rfl, Nat.zero_le _, heap_alloc_new w _, Nat.le_refl _, by decide, by simp, by simp⟩⟩
theorem Src.row {w : World} {B : Nat} {u : Value} {l : List ByteArray} (h : Row w B u (sv l)) : Src w u l.length 1 (sv l) ∨ (l = [] ∧ ∃ A cap, u = .slice A 0 cap) := by
  obtain ⟨A, cap, rfl, hA⟩ := h
  rw [sv_length] at hA ⊢
  by_cases h0 : 0 < l.length
  · obtain ⟨b, off, rfl, _, hc⟩ := hA h0
    refine .inl ⟨_, cap, rfl, by rw [sv_length, Nat.mul_one], (fun h => by cases h), fun ad ha j y hy => ?_⟩
    injection ha with ha
    subst ha
    have hj : j < l.length := by
      have := (List.getElem?_eq_some_iff.1 hy).1
      rwa [sv_length] at this
    rw [Go.WideShapes.add_plain, hc j hj, hy]
  · obtain rfl : l = [] := List.eq_nil_of_length_eq_zero (by omega)
    exact .inr ⟨rfl, A, cap, rfl⟩
set_option maxRecDepth 100000 in
/-- append([]string{}, rows...). -/
theorem app_rows {w : World} {B : Nat} {u : Value} {l : List ByteArray} (h : Row w B u (sv l)) (hl : l.length ≤ 1000000) :
    ∃ vA vcap w', (Builtin.append_ #[33, 33] 33 #[.slice (some ⟨w.heap.size, 0, none⟩) 0 0, u]).run Try.prog (w.alloc (.cells #[] 9)) = .ok (.slice vA l.length vcap) w' ∧ w'.ownsRow w.heap.size 9 1 (.slice vA l.length vcap) l.length (sv l) ∧ Below w.heap.size w w' := by
  obtain ⟨i0, hi, hz0, hz1, hz2⟩ := info_parts infoSt
  have hb := below_new w (.cells #[] 9)
  rcases Src.row h with hs | ⟨rfl, A, cap, rfl⟩
  · obtain ⟨v', w', h1, h2, h3, h4⟩ := app_new (w := w.alloc (.cells #[] 9)) (t := 33) (bytes := 16) Try.underlying33 hi hz0 hz1 hz2 rfl (by decide) w.heap.size (own_made w _ _) u l.length (sv l) (hs.below hb) (sv_one _) hl (by decide)
    have hlo : ∀ k, v'.ownBlock = some k → w.heap.size ≤ k := fun k hk => by
      rcases h4 with h4 | h4
      · rw [h4] at hk; injection hk with hk; omega
      · rw [h4] at hk; injection hk with hk; simp at hk; omega
    have h5 : w'.ownsRow w.heap.size 9 1 v' l.length (sv l) := by
      refine ⟨h2.1, ?_⟩
      rcases h2.2 with h | ⟨g, cap, cur, hv, _, r⟩
      · exact .inl h
      · exact .inr ⟨g, cap, cur, hv, hlo g (by rw [hv]; rfl), r⟩
    obtain ⟨vA, vcap, rfl⟩ : ∃ A cap, v' = .slice A l.length cap := by
      obtain ⟨A, cap, e, _⟩ := Row.of_own h2
      rw [sv_length] at e
      exact ⟨A, cap, e⟩
    exact ⟨vA, vcap, w', h1, h5, hb.trans (h3.mono (by simp))⟩
  · have hun := run_underlying (P := Try.prog) Try.underlying33
    refine ⟨some ⟨w.heap.size, 0, none⟩, 0, w.alloc (.cells #[] 9), ?_, ⟨by simp [sv], .inr ⟨w.heap.size, 0, #[], rfl, Nat.le_refl _, heap_alloc_new w _, Nat.le_refl _, by decide, by simp, by simp [sv]⟩⟩, hb⟩
    cases A <;> simp [Builtin.append_, hun, Builtin.lenOf, Builtin.firstCells, sizeOf, typeInfo, hi, storeCells, loadCells, loadCellsFrom]
theorem row_fr {W w w' : World} {C : Nat → Prop} {u : Value} {xs : List Value} (h : Row W W.heap.size u xs) (hb : Below W.heap.size W w) (hf : Fr C w w') (hC : ∀ k, k < W.heap.size → ¬ C k) : Row w' w'.heap.size u xs := h.keep (hb.trans (hf.to_below hb.size hC))
/-- A round's beginning: the deed is copied into a box. -/
theorem LR7.step {W w : World} {lb db : Nat} {vl v : Value} {g : Lg} {s : Dk} {rows : List ByteArray} (h : LR7 W w lb db vl g s v rows) (t : TypeId) (cs : Array Value) :
    ∃ B : Nat → Prop, LD B (w.alloc (.cells cs t)) lb db vl g s ∧ (∀ k, B k → W.heap.size ≤ k ∧ k < w.heap.size) ∧ Below W.heap.size W (w.alloc (.cells cs t)) ∧ ∀ w2 vl' g' s', LOp B (w.alloc (.cells cs t)) w2 lb db vl' g' s' → LR7 W w2 lb db vl' g' s' v rows ∧ Blk w2 w.heap.size t cs := by
  obtain ⟨B, h1, h2, h3, h4, h5⟩ := h
  have hb := below_new w (.cells cs t)
  refine ⟨B, h1.below hb, h2, h5.trans (hb.mono h5.size), fun w2 vl' g' s' ho => ⟨?_, ho.keep (Blk.new w t cs) fun hx => by have := (h2 _ hx).2; omega⟩⟩
  have hs := ho.fr.size
  have hs1 : (w.alloc (.cells cs t)).heap.size = w.heap.size + 1 := by simp
  refine ⟨_, ho.at_, fun k hk => ?_, own_heapJ (own_belowJ h3 hb) fun k hk hkl => ho.fr.block k hkl (h4 k hk), fun k hk hx => ?_, (h5.trans (hb.mono h5.size)).trans (ho.fr.to_below (by have := h5.size; omega) fun k hk hx => by have := (h2 k hx).1; omega)⟩
  · rcases hk with hk | hk
    · exact ⟨(h2 k hk).1, by have := (h2 k hk).2; omega⟩
    · exact ⟨by have := h5.size; omega, hk.2⟩
  · rcases hx with hx | hx
    · exact h4 k hk hx
    · have := (World.ownsRow.lt h3 k hk).2; omega
theorem own_formJ {w : World} {base sz n : Nat} {e : TypeId} {v : Value} {xs : List Value} (h : w.ownsRow base e sz v n xs) : ∃ A cap, v = .slice A n cap := by
  rcases h.2 with ⟨rfl, h0⟩ | ⟨g, cap, cur, hv, _⟩
  · exact ⟨none, 0, by rw [h0]⟩
  · exact ⟨_, cap, hv⟩
end Go.Proofs.Ytognomkhkoiabaa
