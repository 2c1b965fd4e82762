/-
  Contracts of the reference's Reader: Num, Int, Text, Left, Done, Open; Nums and Texts.
-/
import Derived.Test.YtebepofbngdccaaRef
import Derived.Test.YtebepofbngdccaaPureR
namespace Go.Proofs.Ytebepofbngdccaa
set_option linter.unusedVariables false
set_option linter.unusedSimpArgs false
open Go.RowKit

theorem qnumber (g : Nat) (st : St) (w : World) (h : Rd w g 61 st) (hs : st.l.length ≤ 100000000) :
    Calls Try.prog 48 #[.pointer (some ⟨g, 0, none⟩)] w (RdPost g 61 (fNumber st).2 (.int .u64 (fNumber st).1) w) := by
  unfold fNumber
  rcases hf : first st.l with _ | ⟨m, r⟩
  · exact qnumber_no g st w h hs hf
  · exact qnumber_yes g st w m r h hs hf

set_option maxRecDepth 100000 in
theorem qNum (g : Nat) (st : St) (w : World) (h : Rd w g 61 st) (hs : st.l.length ≤ 100000000) :
    Calls Try.prog 25 #[.pointer (some ⟨g, 0, none⟩)] w (RdPost g 61 (fNum st).2 (.int .i64 (fNum st).1) w) := by
  have hm := fNumber_lt st
  by_cases hlt : (fNumber st).1 < 9223372036854775808
  · have HP : Hid (fNum st = fNumber st) := by unfold fNum; rw [if_pos hlt]; exact rfl
    rw [HP.out]
    have hc := qnumber g st w h hs
    obtain ⟨m, hM⟩ : ∃ m, (fNumber st).1 = m := ⟨_, rfl⟩
    rw [hM] at hm hlt
    rw [hM] at hc
    rw [hM]
    have HM := Lib.hid hM; clear hM
    have HC := Lib.hid hc; clear hc
    have hd : decide ((9223372036854775808 : Int) ≤ (m : Int)) = false := by rw [decide_eq_false_iff_not]; omega
    go_enter Try.func25, Try.ntmps25
    go_wp2_with fail
    refine HC.out.mono ?_; rintro e w2 ⟨rfl, hr, hg⟩
    go_wp2_with fail
    go_ret
    exact ⟨rfl, hr, hg⟩
  · have HP : Hid (fNum st = (0, St.fail)) := by unfold fNum; rw [if_neg hlt]; exact rfl
    rw [HP.out]
    have hc := qnumber g st w h hs
    obtain ⟨m, hM⟩ : ∃ m, (fNumber st).1 = m := ⟨_, rfl⟩
    rw [hM] at hm hlt
    rw [hM] at hc
    have HM := Lib.hid hM; clear hM
    have HC := Lib.hid hc; clear hc
    have hd : decide ((9223372036854775808 : Int) ≤ (m : Int)) = true := by rw [decide_eq_true_iff]; omega
    go_enter Try.func25, Try.ntmps25
    go_wp2_with fail
    refine HC.out.mono ?_; rintro e w2 ⟨rfl, hr, hg⟩
    go_wp2_with fail
    refine (qfail g _ _ hr).mono ?_; rintro e w3 ⟨rfl, hr3, hg3⟩
    go_wp2_with fail
    go_ret
    exact ⟨rfl, hr3, hg.trans hg3⟩

set_option maxRecDepth 100000 in
theorem qInt (g : Nat) (st : St) (w : World) (h : Rd w g 61 st) (hs : st.l.length ≤ 100000000) :
    Calls Try.prog 27 #[.pointer (some ⟨g, 0, none⟩)] w (RdPost g 61 (fInt st).2 (.int .i64 (fInt st).1) w) := by
  have hm := fNumber_lt st
  have hc := qnumber g st w h hs
  show Calls _ _ _ _ (RdPost g _ (fNumber st).2 (.int .i64 (zag (fNumber st).1)) w)
  obtain ⟨m, hM⟩ : ∃ m, (fNumber st).1 = m := ⟨_, rfl⟩
  rw [hM] at hm hc
  rw [hM]
  have HM := Lib.hid hM; clear hM
  have HC := Lib.hid hc; clear hc
  by_cases h2 : m % 2 = 1
  · have h2' : (((m : Int) % 2) == 1) = true := by rw [show ((m : Int) % 2) = ((m % 2 : Nat) : Int) from rfl, h2]; rfl
    have HZ : Hid (zag m = -((m : Int) / 2) - 1) := by unfold zag; rw [if_pos h2]; exact rfl
    have H2 := Lib.hid h2; clear h2
    rw [HZ.out]
    go_enter Try.func27, Try.ntmps27
    go_wp2_with fail
    refine HC.out.mono ?_; rintro e w2 ⟨rfl, hr, hg⟩
    go_wp2_with fail
    go_ret
    exact ⟨rfl, hr, hg⟩
  · have h2' : (((m : Int) % 2) == 1) = false := by simp; omega
    have HZ : Hid (zag m = (m : Int) / 2) := by unfold zag; rw [if_neg h2]; exact rfl
    have H2 := Lib.hid h2; clear h2
    rw [HZ.out]
    go_enter Try.func27, Try.ntmps27
    go_wp2_with fail
    refine HC.out.mono ?_; rintro e w2 ⟨rfl, hr, hg⟩
    go_wp2_with fail
    go_ret
    exact ⟨rfl, hr, hg⟩

set_option maxRecDepth 100000 in
theorem qText (g : Nat) (st : St) (w : World) (h : Rd w g 61 st) (hs : st.l.length ≤ 100000000) :
    Calls Try.prog 29 #[.pointer (some ⟨g, 0, none⟩)] w (RdPost g 61 (fText st).2 (.string (bs (fText st).1)) w) := by
  have hc := qNum g st w h hs
  have hl2 := fNum_len st
  have hm := fNum_lt st
  by_cases hlt : (fNum st).1 ≤ (fNum st).2.l.length
  · have HP : Hid (fText st = ((fNum st).2.l.take (fNum st).1, ⟨(fNum st).2.l.drop (fNum st).1, (fNum st).2.bad⟩)) := by
      have : fLen st = fNum st := by unfold fLen; rw [if_pos hlt]
      show fText st = _
      unfold fText; rw [this]
    rw [HP.out]
    obtain ⟨⟨m, st'⟩, hM⟩ : ∃ m, fNum st = m := ⟨_, rfl⟩
    rw [hM] at hc hl2 hlt hm
    rw [hM]
    have HM := Lib.hid hM; clear hM
    have HC := Lib.hid hc; clear hc
    simp only at hl2 hlt hm
    have hlt' : m ≤ (bs st'.l).size := by rw [bs_size]; exact hlt
    have hsz : (bs st'.l).size ≤ 100000000 := by rw [bs_size]; omega
    have hd := Lib.hid (bs_drop st'.l m)
    have ht := Lib.hid (bs_take st'.l m)
    go_enter Try.func29, Try.ntmps29
    go_wp2_with fail
    refine HC.out.mono ?_; rintro e w2 ⟨rfl, hr, hg⟩
    have h0 := hr.c0
    have h2 := hr.f0 0
    go_wp2_with fail
    go_ret
    refine ⟨by rw [← ht.out]; rfl, ?_, hg.trans (grown_set _ _ _ _)⟩
    rw [hd.out]
    exact hr.set0 _
  · have HP : Hid (fText st = ([], St.fail)) := by
      have : fLen st = (0, St.fail) := by unfold fLen; rw [if_neg hlt]
      show fText st = _
      unfold fText; rw [this]; rfl
    rw [HP.out]
    have hlt' : (bs (fNum st).2.l).size < (fNum st).1 := by rw [bs_size]; omega
    have hsz' : (bs (fNum st).2.l).size ≤ 100000000 := by rw [bs_size]; omega
    obtain ⟨⟨m, st'⟩, hM⟩ : ∃ m, fNum st = m := ⟨_, rfl⟩
    rw [hM] at hm hlt hlt' hc hl2 hsz'
    have HM := Lib.hid hM; clear hM
    have HC := Lib.hid hc; clear hc
    simp only at hm hlt hlt' hl2 hsz'
    go_enter Try.func29, Try.ntmps29
    go_wp2_with fail
    refine HC.out.mono ?_; rintro e w2 ⟨rfl, hr, hg⟩
    have h0 := hr.c0
    have h2 := hr.f0 0
    go_wp2_with fail
    refine (qfail g _ _ hr).mono ?_; rintro e w3 ⟨rfl, hr3, hg3⟩
    go_wp2_with fail
    go_ret
    exact ⟨rfl, hr3, hg.trans hg3⟩

theorem qLeft (g : Nat) (st : St) (w : World) (h : Rd w g 61 st) :
    Calls Try.prog 37 #[.pointer (some ⟨g, 0, none⟩)] w fun e w' => e = .returned (.int .i64 st.l.length) ∧ w = w' := by
  have h0 := h.c0
  have h2 := h.f0 0
  have hz := Lib.hid (bs_size st.l)
  go_enter Try.func37, Try.ntmps37
  go_wp2_with fail
  go_ret
  exact ⟨by rw [← hz.out]; rfl, rfl⟩

theorem qDone (g : Nat) (st : St) (w : World) (h : Rd w g 61 st) :
    Calls Try.prog 39 #[.pointer (some ⟨g, 0, none⟩)] w fun e w' => e = .returned (.bool (doneB st)) ∧ w = w' := by
  have h0 := h.c0
  have h1 := h.c1
  have h2 := h.f0 0
  have h3 := h.f0 1
  have hn := Lib.hid (bs_empty st.l)
  rcases hb : st.bad with _ | _
  · have HP : Hid (doneB st = st.l.isEmpty) := by unfold doneB; rw [hb]; exact Bool.true_and _
    rw [HP.out]
    rw [hb] at h1
    have HB := Lib.hid hb; clear hb
    go_enter Try.func39, Try.ntmps39
    go_wp2_with fail
    go_ret
    exact ⟨by rw [← hn.out]; rfl, rfl⟩
  · have HP : Hid (doneB st = false) := by unfold doneB; rw [hb]; exact Bool.false_and _
    rw [HP.out]
    rw [hb] at h1
    have HB := Lib.hid hb; clear hb
    go_enter Try.func39, Try.ntmps39
    go_wp2_with fail
    go_ret
    exact ⟨rfl, rfl⟩

theorem qOpen (l : List UInt8) (w : World) :
    Calls Try.prog 22 #[.string (bs l)] w fun e w' => e = .returned (.pointer (some ⟨w.heap.size, 0, none⟩)) ∧ w' = w.alloc (.cells #[.string (bs l), .bool false] 61) := by
  go_enter Try.func22, Try.ntmps22
  go_wp2_with fail
  go_ret
  exact ⟨rfl, rfl⟩

/-! The reference's lists: it asks for no length -/
def qRep {α : Type} (item : St → α × St) : Nat → List α → St → List α × St
  | 0, acc, st => (acc, st)
  | k + 1, acc, st => if st.bad = true then (acc, st) else qRep item k (acc ++ [(item st).1]) (item st).2
theorem qRep_bad {α : Type} {item : St → α × St} (k : Nat) (acc : List α) (st : St) (h : st.bad = true) : qRep item k acc st = (acc, st) := by
  cases k with
  | zero => rfl
  | succ k => rw [qRep, if_pos h]
def fin {α : Type} (x : List α × St) : List α × St := (if x.2.bad = true then [] else x.1, x.2)
theorem qRep_fRep {α : Type} {item : St → α × St} : ∀ (k : Nat) (acc : List α) (st : St), st.bad = false → fin (qRep item k acc st) = fRep item k acc st := by
  intro k
  induction k with
  | zero => intro acc st h; simp [qRep, fRep, fin, h]
  | succ k ih =>
    intro acc st h
    rw [qRep, if_neg (by rw [h]; simp), fRep]
    by_cases hb : (item st).2.bad = true
    · rw [if_pos hb, qRep_bad _ _ _ hb, fin, if_pos hb]
    · rw [if_neg hb]
      exact ih _ _ (by simpa using hb)
theorem qRep_runs {α : Type} {item : St → α × St} (hi : ∀ st, (item st).2.bad = false → (item st).2.l.length < st.l.length) : ∀ (k : Nat) (acc : List α) (st : St), st.l.length < k → (qRep item k acc st).2.bad = true := by
  intro k
  induction k with
  | zero => intro acc st h; omega
  | succ k ih =>
    intro acc st h
    rw [qRep]
    split
    · assumption
    · by_cases hb : (item st).2.bad = true
      · rw [qRep_bad _ _ _ hb]; exact hb
      · have := hi st (by simpa using hb)
        exact ih _ _ (by omega)
theorem qRep_ok {α : Type} {item : St → α × St} (ho : ∀ st : St, st.ok → (item st).2.ok) : ∀ (k : Nat) (acc : List α) (st : St), st.ok → (qRep item k acc st).2.ok := by
  intro k
  induction k with
  | zero => intro acc st h; exact h
  | succ k ih =>
    intro acc st h
    rw [qRep]
    split
    · exact h
    · exact ih _ _ (ho st h)
theorem fail_of {st : St} (ho : st.ok) (hb : st.bad = true) : st = St.fail := by
  obtain ⟨l, b⟩ := st
  have : l = [] := ho hb
  simp only at hb
  subst this; subst hb; rfl
theorem qList_fList {α : Type} {item : St → α × St} (hi : ∀ st, (item st).2.bad = false → (item st).2.l.length < st.l.length) (ho : ∀ st : St, st.ok → (item st).2.ok) (st : St) (hok : st.ok) :
    fin (qRep item (fNum st).1 [] (fNum st).2) = fList item st := by
  have hnok := fNum_ok st hok
  unfold fList fLen
  by_cases hle : (fNum st).1 ≤ (fNum st).2.l.length
  · rw [if_pos hle]
    by_cases hb : (fNum st).2.bad = true
    · have : (fNum st).1 = 0 := by have := hnok hb; rw [this] at hle; simpa using hle
      rw [this, qRep, fRep, fin, if_pos hb]
    · exact qRep_fRep _ _ _ (by simpa using hb)
  · rw [if_neg hle]
    have h1 := qRep_runs hi (fNum st).1 [] (fNum st).2 (by omega)
    have h2 := fail_of (qRep_ok ho (fNum st).1 [] (fNum st).2 hnok) h1
    rw [fin, if_pos h1, h2, fRep]
theorem shorter {α : Type} {item : St → α × St} {encode : α → List UInt8} (hg : Good item encode) (hp : ∀ x, 1 ≤ (encode x).length) (st : St) (h : (item st).2.bad = false) : (item st).2.l.length < st.l.length := by
  have h1 := hp (item st).1
  have h2 := congrArg List.length (hg st h)
  rw [List.length_append] at h2
  omega

structure QsAt {α : Type} (vals : List α → List Value) (item : St → α × St) (e0 : TypeId) (g : Nat) (t : TypeId) (n : Nat) (st0 : St) (w wr : World) (k : Nat) (v : Value) (acc : List α) (st : St) : Prop where
  le : k ≤ n
  len : acc.length = k
  rep : qRep item (n - k) acc st = qRep item n [] st0
  own : wr.ownsRow w.heap.size e0 1 v k (vals acc)
  rd : Rd wr g t st
  grown : w.grownBy wr (some g)
  small : st.l.length ≤ st0.l.length
  runs : st.bad = false → k + st.l.length ≤ st0.l.length

theorem QsAt.next {α : Type} {vals : List α → List Value} {item : St → α × St} {e0 : TypeId} {g : Nat} {t : TypeId} {n : Nat} {st0 : St} {w wr : World} {k : Nat} {v : Value} {acc : List α} {st : St}
    (h : QsAt vals item e0 g t n st0 w wr k v acc st) (hk : k < n) (hg : g < w.heap.size) (hb : st.bad = false) (hl : (item st).2.l.length ≤ st.l.length) (hi : (item st).2.bad = false → (item st).2.l.length < st.l.length) {w2 w3 : World} {o : Obj} {v' : Value}
    (hr2 : Rd w2 g t (item st).2) (hg2 : wr.grownBy w2 (some g)) (x : Value) (hx : vals (acc ++ [(item st).1]) = vals acc ++ [x])
    (hown3 : w3.ownsRow w.heap.size e0 1 v' (k + 1) (vals acc ++ [x])) (hg3 : (w2.alloc o).grownBy w3 v.ownBlock) :
    QsAt vals item e0 g t n st0 w w3 (k + 1) v' (acc ++ [(item st).1]) (item st).2 := by
  have hne := own_ne h.own hg
  refine ⟨hk, by simp [h.len], ?_, by rw [hx]; exact hown3, ?_, ?_, Nat.le_trans hl h.small, fun hb2 => ?_⟩
  · rw [← h.rep]
    have e : n - k = (n - (k + 1)) + 1 := by omega
    conv => rhs; rw [e, qRep, if_neg (by rw [hb]; simp)]
  · exact (hr2.grown (World.grownBy_alloc w2 o none) (by simp)).grown hg3 hne
  · exact ((h.grown.trans hg2).trans (World.grownBy_alloc w2 o _)).andThen hg3 (fun j hj => .inl (h.own.lt j hj).1)
  · have := hi hb2
    have := h.runs hb
    omega

set_option maxRecDepth 100000 in
set_option maxHeartbeats 1000000 in
theorem qNums (g : Nat) (st : St) (w : World) (h : Rd w g 61 st) (hs : st.l.length ≤ 100000000) (hok : st.ok) :
    Calls Try.prog 32 #[.pointer (some ⟨g, 0, none⟩)] w (LsPost g 61 3 (iv (fList fInt st).1) (fList fInt st).2 w) := by
  obtain ⟨i0, hi0, hz0, hz1, hz2⟩ := info_parts info3
  have hgs := h.lt
  have hc := qNum g st w h hs
  have hn := fNum_lt st
  have hn2 := fNum_len st
  rw [← qList_fList (item := fInt) (shorter fInt_good encI_pos) fInt_ok st hok]
  have hnok := fNum_ok st hok
  have hn0 : (fNum st).2.bad = false → 0 + (fNum st).2.l.length ≤ (fNum st).2.l.length := fun _ => by omega
  obtain ⟨⟨n, st1⟩, hM⟩ : ∃ m, fNum st = m := ⟨_, rfl⟩
  rw [hM] at hc hn hn2 hn0
  rw [hM]
  have HM := Lib.hid hM; clear hM
  have HC := Lib.hid hc; clear hc hnok
  simp only at hn hn2 hn0
  go_enter Try.func32, Try.ntmps32
  go_wp2_with fail
  refine HC.out.mono ?_; rintro e w1 ⟨rfl, hr1, hg1⟩
  go_wp2_with fail
  go_loopw [4, 5] (fun v i wr => ∃ (k : Nat) (acc : List Int) (st' : St), i = .int .i64 k ∧ QsAt iv fInt 3 g 61 n st1 w wr k v acc st') (fun _ i _ => n - (intOf i).toNat)
  case atStart => exact ⟨0, [], st1, rfl, by omega, rfl, rfl, World.ownsRow_nil _ _ _ _, hr1, hg1, Nat.le_refl _, hn0⟩
  case round =>
    obtain ⟨k, acc, st', rfl, hat⟩ := hrel
    have hk := hat.le
    have hsm := hat.small
    have h1 := hat.rd.c1
    have h3 := hat.rd.f0 1
    by_cases hb : st'.bad = true
    · rw [hb] at h1
      have HF : Hid (fin (qRep fInt n [] st1) = ([], st')) := by
        show _ = _
        rw [← hat.rep, qRep_bad _ _ _ hb, fin, if_pos hb]
      by_cases hlt : k < n
      · clear hb
        go_wp2_with fail
        go_ret
        refine ⟨_, rfl, ?_, ?_, hat.grown⟩
        · rw [HF.out]; exact World.ownsRow_nil _ _ _ _
        · rw [HF.out]; exact hat.rd
      · clear hb
        go_wp2_with fail
        go_ret
        refine ⟨_, rfl, ?_, ?_, hat.grown⟩
        · rw [HF.out]; exact World.ownsRow_nil _ _ _ _
        · rw [HF.out]; exact hat.rd
    · have hb' : st'.bad = false := by simpa using hb
      rw [hb'] at h1
      have hruns := hat.runs hb'
      by_cases hlt : k < n
      · have hc2 := qInt g st' wr hat.rd (by omega)
        have HN := Lib.hid (fun w2 w3 o v' => hat.next (w2 := w2) (w3 := w3) (o := o) (v' := v') hlt hgs hb' (fInt_len st') (shorter fInt_good encI_pos st'))
        clear hb hb'
        obtain ⟨⟨x, st2⟩, hX⟩ : ∃ m, fInt st' = m := ⟨_, rfl⟩
        rw [hX] at hc2 HN
        have HX := Lib.hid hX; clear hX
        have HC2 := Lib.hid hc2; clear hc2
        simp only at HN
        go_wp2_with fail
        refine HC2.out.mono ?_; rintro e w2 ⟨rfl, hr2, hg2⟩
        have hown2 := own_keep hat.own hg2 hgs
        have hbs := Nat.le_trans hat.grown.size hg2.size
        go_wp2_with (at_builtin; refine wpList_append_own _ rfl _ _ 22 rfl w.heap.size 3 i0 (.int .i64 0) 1 8 Try.underlying22 hi0 hz0 hz1 hz2 rfl (by decide) _ _ _ rfl (hown2.alloc _) ⟨w2.heap.size, 0, none⟩ 1 1 [.int .i64 x] rfl rfl (cell_one_new _ _ _) (fun x hx => by simp at hx; subst hx; rfl) (by unfold maxLen; omega) (by omega) (by simp; omega) ?_; intro v' w3 hown3 hgrow3 hnil3; have HNx := Lib.hid (HN.out _ _ _ _ hr2 hg2 _ (by simp [iv]) hown3 hgrow3))
        go_roundw
        case rel => exact ⟨k + 1, _, _, by go_num, HNx.out⟩
        case measure => simp [intOf]; omega
      · have HF : Hid (fin (qRep fInt n [] st1) = (acc, st')) := by
          show _ = _
          rw [← hat.rep, show n - k = 0 by omega, qRep, fin, if_neg hb]
        have hown := hat.own
        rw [← hat.len] at hown
        clear hb hb'
        go_wp2_with fail
        go_ret
        refine ⟨_, rfl, ?_, ?_, hat.grown⟩
        · rw [HF.out, iv_length]; exact hown
        · rw [HF.out]; exact hat.rd

set_option maxRecDepth 100000 in
set_option maxHeartbeats 1000000 in
theorem qTexts (g : Nat) (st : St) (w : World) (h : Rd w g 61 st) (hs : st.l.length ≤ 100000000) (hok : st.ok) :
    Calls Try.prog 35 #[.pointer (some ⟨g, 0, none⟩)] w (LsPost g 61 9 (sv (fList fText st).1) (fList fText st).2 w) := by
  obtain ⟨i0, hi0, hz0, hz1, hz2⟩ := info_parts info9
  have hgs := h.lt
  have hc := qNum g st w h hs
  have hn := fNum_lt st
  have hn2 := fNum_len st
  rw [← qList_fList (item := fText) (shorter fText_good encT_pos) fText_ok st hok]
  have hnok := fNum_ok st hok
  have hn0 : (fNum st).2.bad = false → 0 + (fNum st).2.l.length ≤ (fNum st).2.l.length := fun _ => by omega
  obtain ⟨⟨n, st1⟩, hM⟩ : ∃ m, fNum st = m := ⟨_, rfl⟩
  rw [hM] at hc hn hn2 hn0
  rw [hM]
  have HM := Lib.hid hM; clear hM
  have HC := Lib.hid hc; clear hc hnok
  simp only at hn hn2 hn0
  go_enter Try.func35, Try.ntmps35
  go_wp2_with fail
  refine HC.out.mono ?_; rintro e w1 ⟨rfl, hr1, hg1⟩
  go_wp2_with fail
  go_loopw [4, 5] (fun v i wr => ∃ (k : Nat) (acc : List (List UInt8)) (st' : St), i = .int .i64 k ∧ QsAt sv fText 9 g 61 n st1 w wr k v acc st') (fun _ i _ => n - (intOf i).toNat)
  case atStart => exact ⟨0, [], st1, rfl, by omega, rfl, rfl, World.ownsRow_nil _ _ _ _, hr1, hg1, Nat.le_refl _, hn0⟩
  case round =>
    obtain ⟨k, acc, st', rfl, hat⟩ := hrel
    have hk := hat.le
    have hsm := hat.small
    have h1 := hat.rd.c1
    have h3 := hat.rd.f0 1
    by_cases hb : st'.bad = true
    · rw [hb] at h1
      have HF : Hid (fin (qRep fText n [] st1) = ([], st')) := by
        show _ = _
        rw [← hat.rep, qRep_bad _ _ _ hb, fin, if_pos hb]
      by_cases hlt : k < n
      · clear hb
        go_wp2_with fail
        go_ret
        refine ⟨_, rfl, ?_, ?_, hat.grown⟩
        · rw [HF.out]; exact World.ownsRow_nil _ _ _ _
        · rw [HF.out]; exact hat.rd
      · clear hb
        go_wp2_with fail
        go_ret
        refine ⟨_, rfl, ?_, ?_, hat.grown⟩
        · rw [HF.out]; exact World.ownsRow_nil _ _ _ _
        · rw [HF.out]; exact hat.rd
    · have hb' : st'.bad = false := by simpa using hb
      rw [hb'] at h1
      have hruns := hat.runs hb'
      by_cases hlt : k < n
      · have hc2 := qText g st' wr hat.rd (by omega)
        have HN := Lib.hid (fun w2 w3 o v' => hat.next (w2 := w2) (w3 := w3) (o := o) (v' := v') hlt hgs hb' (fText_len st') (shorter fText_good encT_pos st'))
        clear hb hb'
        obtain ⟨⟨x, st2⟩, hX⟩ : ∃ m, fText st' = m := ⟨_, rfl⟩
        rw [hX] at hc2 HN
        have HX := Lib.hid hX; clear hX
        have HC2 := Lib.hid hc2; clear hc2
        simp only at HN
        go_wp2_with fail
        refine HC2.out.mono ?_; rintro e w2 ⟨rfl, hr2, hg2⟩
        have hown2 := own_keep hat.own hg2 hgs
        have hbs := Nat.le_trans hat.grown.size hg2.size
        go_wp2_with (at_builtin; refine wpList_append_own _ rfl _ _ 23 rfl w.heap.size 9 i0 (.string ByteArray.empty) 1 16 Try.underlying23 hi0 hz0 hz1 hz2 rfl (by decide) _ _ _ rfl (hown2.alloc _) ⟨w2.heap.size, 0, none⟩ 1 1 [.string (bs x)] rfl rfl (cell_one_new _ _ _) (fun x hx => by simp at hx; subst hx; rfl) (by unfold maxLen; omega) (by omega) (by simp; omega) ?_; intro v' w3 hown3 hgrow3 hnil3; have HNx := Lib.hid (HN.out _ _ _ _ hr2 hg2 _ (by simp [sv]) hown3 hgrow3))
        go_roundw
        case rel => exact ⟨k + 1, _, _, by go_num, HNx.out⟩
        case measure => simp [intOf]; omega
      · have HF : Hid (fin (qRep fText n [] st1) = (acc, st')) := by
          show _ = _
          rw [← hat.rep, show n - k = 0 by omega, qRep, fin, if_neg hb]
        have hown := hat.own
        rw [← hat.len] at hown
        clear hb hb'
        go_wp2_with fail
        go_ret
        refine ⟨_, rfl, ?_, ?_, hat.grown⟩
        · rw [HF.out, sv_length]; exact hown
        · rw [HF.out]; exact hat.rd
end Go.Proofs.Ytebepofbngdccaa
