/-
  Contracts of wire's lists: the generic function at int and at string, Nums and Texts.
-/
import Derived.Test.YtebepofbngdccaaRead
import Derived.Maps.Range
namespace Go.Proofs.Ytebepofbngdccaa
set_option linter.unusedVariables false
set_option linter.unusedSimpArgs false
open Go.RowKit

theorem info3 : (Try.prog.info? 3).map (fun i => (i.zero, i.size, i.bytes)) = some (some (.int .i64 0), 1, 8) := by kernel_rfl
theorem info9 : (Try.prog.info? 9).map (fun i => (i.zero, i.size, i.bytes)) = some (some (.string ByteArray.empty), 1, 16) := by kernel_rfl

/-- A new row that reads as xs is the answer; besides new blocks only the reader's block has changed. -/
def LsPost (g : Nat) (t e0 : TypeId) (xs : List Value) (st : St) (w : World) (e : Ending) (w' : World) : Prop :=
  ∃ v, e = .returned v ∧ w'.ownsRow w.heap.size e0 1 v xs.length xs ∧ Rd w' g t st ∧ w.grownBy w' (some g)

theorem own_keep {w w' : World} {base g : Nat} {e : TypeId} {v : Value} {n : Nat} {xs : List Value} (h : w.ownsRow base e 1 v n xs) (hg : w.grownBy w' (some g)) (hb : g < base) : w'.ownsRow base e 1 v n xs := by
  refine h.kept hg ?_
  rcases hv : v.ownBlock with _ | k
  · exact .inl rfl
  · right
    intro e
    injection e with e
    have := (h.lt k hv).1
    omega
theorem own_ne {w : World} {base g : Nat} {e : TypeId} {v : Value} {n : Nat} {xs : List Value} (h : w.ownsRow base e 1 v n xs) (hb : g < base) : some g ≠ v.ownBlock := by
  intro hv
  have := (h.lt g hv.symm).1
  omega

/-- Behind one round that did not fail. -/
structure LsAt {α : Type} (vals : List α → List Value) (item : St → α × St) (e0 : TypeId) (g : Nat) (t : TypeId) (n : Nat) (st0 : St) (w wr : World) (k : Nat) (v : Value) (acc : List α) (st : St) : Prop where
  le : k ≤ n
  len : acc.length = k
  rep : fRep item (n - k) acc st = fRep item n [] st0
  own : wr.ownsRow w.heap.size e0 1 v k (vals acc)
  rd : Rd wr g t st
  grown : w.grownBy wr (some g)
  small : st.l.length ≤ st0.l.length

theorem LsAt.next {α : Type} {vals : List α → List Value} {item : St → α × St} {e0 : TypeId} {g : Nat} {t : TypeId} {n : Nat} {st0 : St} {w wr : World} {k : Nat} {v : Value} {acc : List α} {st : St}
    (h : LsAt vals item e0 g t n st0 w wr k v acc st) (hk : k < n) (hg : g < w.heap.size) (hb : (item st).2.bad = false) (hl : (item st).2.l.length ≤ st.l.length) {w2 w3 : World} {o : Obj} {v' : Value}
    (hr2 : Rd w2 g t (item st).2) (hg2 : wr.grownBy w2 (some g)) (x : Value) (hx : vals (acc ++ [(item st).1]) = vals acc ++ [x])
    (hown3 : w3.ownsRow w.heap.size e0 1 v' (k + 1) (vals acc ++ [x])) (hg3 : (w2.alloc o).grownBy w3 v.ownBlock) :
    LsAt vals item e0 g t n st0 w w3 (k + 1) v' (acc ++ [(item st).1]) (item st).2 := by
  have hne := own_ne h.own hg
  refine ⟨hk, by simp [h.len], ?_, by rw [hx]; exact hown3, ?_, ?_, Nat.le_trans hl h.small⟩
  · rw [← h.rep]
    have e : n - k = (n - (k + 1)) + 1 := by omega
    conv => rhs; rw [e, fRep, if_neg (by rw [hb]; simp)]
  · exact (hr2.grown (World.grownBy_alloc w2 o none) (by simp)).grown hg3 hne
  · exact ((h.grown.trans hg2).trans (World.grownBy_alloc w2 o _)).andThen hg3 (fun j hj => .inl (h.own.lt j hj).1)

set_option maxRecDepth 100000 in
set_option maxHeartbeats 400000 in
theorem wlistI (g : Nat) (st : St) (w : World) (h : Rd w g 59 st) (hs : st.l.length ≤ 100000000) :
    Calls Try.prog 52 #[.pointer (some ⟨g, 0, none⟩), .func (Fn.func 26) #[.pointer (some ⟨g, 0, none⟩)] #[]] w (LsPost g 59 3 (iv (fList fInt st).1) (fList fInt st).2 w) := by
  obtain ⟨i0, hi0, hz0, hz1, hz2⟩ := info_parts info3
  have hgs := h.lt
  have hc := wlength g st w h hs
  have hn := fLen_le st
  have hn2 := fLen_len st
  unfold fList
  obtain ⟨⟨n, st1⟩, hM⟩ : ∃ m, fLen st = m := ⟨_, rfl⟩
  rw [hM] at hc hn hn2
  rw [hM]
  have HM := Lib.hid hM; clear hM
  have HC := Lib.hid hc; clear hc
  simp only at hn hn2
  go_enter Try.func52, Try.ntmps52
  go_wp2_with fail
  refine HC.out.mono ?_; rintro e w1 ⟨rfl, hr1, hg1⟩
  go_wp2_with fail
  go_loopw [5, 8] (fun v i wr => ∃ (k : Nat) (acc : List Int) (st' : St), i = .int .i64 k ∧ LsAt iv fInt 3 g 59 n st1 w wr k v acc st') (fun _ i _ => n - (intOf i).toNat)
  case atStart => exact ⟨0, [], st1, rfl, by omega, rfl, rfl, World.ownsRow_nil _ _ _ _, hr1, hg1, Nat.le_refl _⟩
  case round =>
    obtain ⟨k, acc, st', rfl, hat⟩ := hrel
    have hk := hat.le
    have hsm := hat.small
    by_cases hlt : k < n
    · by_cases hb : (fInt st').2.bad = true
      · have hc2 := wInt g st' wr hat.rd (by omega)
        have HF : Hid (fRep fInt n [] st1 = ([], (fInt st').2)) := by
          show _ = _
          rw [← hat.rep, show n - k = (n - (k + 1)) + 1 by omega, fRep, if_pos hb]
        rw [HF.out]
        obtain ⟨⟨x, st2⟩, hX⟩ : ∃ m, fInt st' = m := ⟨_, rfl⟩
        rw [hX] at hc2 hb
        rw [hX]
        have HX := Lib.hid hX; clear hX
        have HC2 := Lib.hid hc2; clear hc2
        simp only at hb
        go_wp2_with fail
        refine HC2.out.mono ?_; rintro e w2 ⟨rfl, hr2, hg2⟩
        have hown2 := own_keep hat.own hg2 hgs
        have hbs := Nat.le_trans hat.grown.size hg2.size
        go_wp2_with (at_builtin; refine wpList_append_own _ rfl _ _ 22 rfl w.heap.size 3 i0 (.int .i64 0) 1 8 Try.underlying22 hi0 hz0 hz1 hz2 rfl (by decide) _ _ _ rfl (hown2.alloc _) ⟨w2.heap.size, 0, none⟩ 1 1 [.int .i64 x] rfl rfl (cell_one_new _ _ _) (fun x hx => by simp at hx; subst hx; rfl) (by unfold maxLen; omega) (by omega) (by simp; omega) ?_; intro v' w3 hown3 hgrow3 hnil3; have hr3 := (hr2.grown (World.grownBy_alloc w2 _ none) (by simp)).grown hgrow3 (own_ne hat.own hgs); have h1 := hr3.c1; rw [hb] at h1)
        go_ret
        exact ⟨_, rfl, World.ownsRow_nil _ _ _ _, hr3, ((hat.grown.trans hg2).trans (World.grownBy_alloc w2 _ _)).andThen hgrow3 (fun j hj => .inl (hat.own.lt j hj).1)⟩
      · have hc2 := wInt g st' wr hat.rd (by omega)
        have hb' : (fInt st').2.bad = false := by simpa using hb
        have HN := Lib.hid (fun w2 w3 o v' => hat.next (w2 := w2) (w3 := w3) (o := o) (v' := v') hlt hgs hb' (fInt_len st'))
        clear hb
        obtain ⟨⟨x, st2⟩, hX⟩ : ∃ m, fInt st' = m := ⟨_, rfl⟩
        rw [hX] at hc2 hb' HN
        have HX := Lib.hid hX; clear hX
        have HC2 := Lib.hid hc2; clear hc2
        simp only at hb' HN
        go_wp2_with fail
        refine HC2.out.mono ?_; rintro e w2 ⟨rfl, hr2, hg2⟩
        have hown2 := own_keep hat.own hg2 hgs
        have hbs := Nat.le_trans hat.grown.size hg2.size
        go_wp2_with (at_builtin; refine wpList_append_own _ rfl _ _ 22 rfl w.heap.size 3 i0 (.int .i64 0) 1 8 Try.underlying22 hi0 hz0 hz1 hz2 rfl (by decide) _ _ _ rfl (hown2.alloc _) ⟨w2.heap.size, 0, none⟩ 1 1 [.int .i64 x] rfl rfl (cell_one_new _ _ _) (fun x hx => by simp at hx; subst hx; rfl) (by unfold maxLen; omega) (by omega) (by simp; omega) ?_; intro v' w3 hown3 hgrow3 hnil3; have HNx := Lib.hid (HN.out _ _ _ _ hr2 hg2 _ (by simp [iv]) hown3 hgrow3); have hr3 := (hr2.grown (World.grownBy_alloc w2 _ none) (by simp)).grown hgrow3 (own_ne hat.own hgs); have h1 := hr3.c1; rw [hb'] at h1)
        go_roundw
        case rel => exact ⟨k + 1, _, _, by go_num, HNx.out⟩
        case measure => simp [intOf]; omega
    · have hkn : k = n := by omega
      have HF : Hid (fRep fInt n [] st1 = (acc, st')) := by
        show _ = _
        rw [← hat.rep, show n - k = 0 by omega, fRep]
      have hown := hat.own
      rw [← hat.len] at hown
      clear hkn
      go_wp2_with fail
      go_ret
      refine ⟨_, rfl, ?_, ?_, hat.grown⟩
      · rw [HF.out, iv_length]; exact hown
      · rw [HF.out]; exact hat.rd

set_option maxRecDepth 100000 in
theorem wNums (g : Nat) (st : St) (w : World) (h : Rd w g 59 st) (hs : st.l.length ≤ 100000000) :
    Calls Try.prog 31 #[.pointer (some ⟨g, 0, none⟩)] w (LsPost g 59 3 (iv (fList fInt st).1) (fList fInt st).2 w) := by
  go_enter Try.func31, Try.ntmps31
  go_wp2_with fail
  refine (wlistI g st w h hs).mono ?_; rintro e w2 ⟨v, rfl, ho, hr, hg⟩
  go_wp2_with fail
  go_ret
  exact ⟨_, rfl, ho, hr, hg⟩

set_option maxRecDepth 100000 in
set_option maxHeartbeats 400000 in
theorem wlistT (g : Nat) (st : St) (w : World) (h : Rd w g 59 st) (hs : st.l.length ≤ 100000000) :
    Calls Try.prog 53 #[.pointer (some ⟨g, 0, none⟩), .func (Fn.func 28) #[.pointer (some ⟨g, 0, none⟩)] #[]] w (LsPost g 59 9 (sv (fList fText st).1) (fList fText st).2 w) := by
  obtain ⟨i0, hi0, hz0, hz1, hz2⟩ := info_parts info9
  have hgs := h.lt
  have hc := wlength g st w h hs
  have hn := fLen_le st
  have hn2 := fLen_len st
  unfold fList
  obtain ⟨⟨n, st1⟩, hM⟩ : ∃ m, fLen st = m := ⟨_, rfl⟩
  rw [hM] at hc hn hn2
  rw [hM]
  have HM := Lib.hid hM; clear hM
  have HC := Lib.hid hc; clear hc
  simp only at hn hn2
  go_enter Try.func53, Try.ntmps53
  go_wp2_with fail
  refine HC.out.mono ?_; rintro e w1 ⟨rfl, hr1, hg1⟩
  go_wp2_with fail
  go_loopw [5, 8] (fun v i wr => ∃ (k : Nat) (acc : List (List UInt8)) (st' : St), i = .int .i64 k ∧ LsAt sv fText 9 g 59 n st1 w wr k v acc st') (fun _ i _ => n - (intOf i).toNat)
  case atStart => exact ⟨0, [], st1, rfl, by omega, rfl, rfl, World.ownsRow_nil _ _ _ _, hr1, hg1, Nat.le_refl _⟩
  case round =>
    obtain ⟨k, acc, st', rfl, hat⟩ := hrel
    have hk := hat.le
    have hsm := hat.small
    by_cases hlt : k < n
    · by_cases hb : (fText st').2.bad = true
      · have hc2 := wText g st' wr hat.rd (by omega)
        have HF : Hid (fRep fText n [] st1 = ([], (fText st').2)) := by
          show _ = _
          rw [← hat.rep, show n - k = (n - (k + 1)) + 1 by omega, fRep, if_pos hb]
        rw [HF.out]
        obtain ⟨⟨x, st2⟩, hX⟩ : ∃ m, fText st' = m := ⟨_, rfl⟩
        rw [hX] at hc2 hb
        rw [hX]
        have HX := Lib.hid hX; clear hX
        have HC2 := Lib.hid hc2; clear hc2
        simp only at hb
        go_wp2_with fail
        refine HC2.out.mono ?_; rintro e w2 ⟨rfl, hr2, hg2⟩
        have hown2 := own_keep hat.own hg2 hgs
        have hbs := Nat.le_trans hat.grown.size hg2.size
        go_wp2_with (at_builtin; refine wpList_append_own _ rfl _ _ 23 rfl w.heap.size 9 i0 (.string ByteArray.empty) 1 16 Try.underlying23 hi0 hz0 hz1 hz2 rfl (by decide) _ _ _ rfl (hown2.alloc _) ⟨w2.heap.size, 0, none⟩ 1 1 [.string (bs x)] rfl rfl (cell_one_new _ _ _) (fun x hx => by simp at hx; subst hx; rfl) (by unfold maxLen; omega) (by omega) (by simp; omega) ?_; intro v' w3 hown3 hgrow3 hnil3; have hr3 := (hr2.grown (World.grownBy_alloc w2 _ none) (by simp)).grown hgrow3 (own_ne hat.own hgs); have h1 := hr3.c1; rw [hb] at h1)
        go_ret
        exact ⟨_, rfl, World.ownsRow_nil _ _ _ _, hr3, ((hat.grown.trans hg2).trans (World.grownBy_alloc w2 _ _)).andThen hgrow3 (fun j hj => .inl (hat.own.lt j hj).1)⟩
      · have hc2 := wText g st' wr hat.rd (by omega)
        have hb' : (fText st').2.bad = false := by simpa using hb
        have HN := Lib.hid (fun w2 w3 o v' => hat.next (w2 := w2) (w3 := w3) (o := o) (v' := v') hlt hgs hb' (fText_len st'))
        clear hb
        obtain ⟨⟨x, st2⟩, hX⟩ : ∃ m, fText st' = m := ⟨_, rfl⟩
        rw [hX] at hc2 hb' HN
        have HX := Lib.hid hX; clear hX
        have HC2 := Lib.hid hc2; clear hc2
        simp only at hb' HN
        go_wp2_with fail
        refine HC2.out.mono ?_; rintro e w2 ⟨rfl, hr2, hg2⟩
        have hown2 := own_keep hat.own hg2 hgs
        have hbs := Nat.le_trans hat.grown.size hg2.size
        go_wp2_with (at_builtin; refine wpList_append_own _ rfl _ _ 23 rfl w.heap.size 9 i0 (.string ByteArray.empty) 1 16 Try.underlying23 hi0 hz0 hz1 hz2 rfl (by decide) _ _ _ rfl (hown2.alloc _) ⟨w2.heap.size, 0, none⟩ 1 1 [.string (bs x)] rfl rfl (cell_one_new _ _ _) (fun x hx => by simp at hx; subst hx; rfl) (by unfold maxLen; omega) (by omega) (by simp; omega) ?_; intro v' w3 hown3 hgrow3 hnil3; have HNx := Lib.hid (HN.out _ _ _ _ hr2 hg2 _ (by simp [sv]) hown3 hgrow3); have hr3 := (hr2.grown (World.grownBy_alloc w2 _ none) (by simp)).grown hgrow3 (own_ne hat.own hgs); have h1 := hr3.c1; rw [hb'] at h1)
        go_roundw
        case rel => exact ⟨k + 1, _, _, by go_num, HNx.out⟩
        case measure => simp [intOf]; omega
    · have hkn : k = n := by omega
      have HF : Hid (fRep fText n [] st1 = (acc, st')) := by
        show _ = _
        rw [← hat.rep, show n - k = 0 by omega, fRep]
      have hown := hat.own
      rw [← hat.len] at hown
      clear hkn
      go_wp2_with fail
      go_ret
      refine ⟨_, rfl, ?_, ?_, hat.grown⟩
      · rw [HF.out, sv_length]; exact hown
      · rw [HF.out]; exact hat.rd

set_option maxRecDepth 100000 in
theorem wTexts (g : Nat) (st : St) (w : World) (h : Rd w g 59 st) (hs : st.l.length ≤ 100000000) :
    Calls Try.prog 34 #[.pointer (some ⟨g, 0, none⟩)] w (LsPost g 59 9 (sv (fList fText st).1) (fList fText st).2 w) := by
  go_enter Try.func34, Try.ntmps34
  go_wp2_with fail
  refine (wlistT g st w h hs).mono ?_; rintro e w2 ⟨v, rfl, ho, hr, hg⟩
  go_wp2_with fail
  go_ret
  exact ⟨_, rfl, ho, hr, hg⟩
end Go.Proofs.Ytebepofbngdccaa
