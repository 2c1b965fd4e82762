/-
  Contracts of wire's Reader: fail, number, Num, Int, length, Text, Left, Done, Open.
-/
import Derived.Test.YtebepofbngdccaaFirst
import Derived.Maps.AppendAt
import Derived.Lib.Strings
namespace Go.Proofs.Ytebepofbngdccaa
set_option linter.unusedVariables false
set_option linter.unusedSimpArgs false
open Go.RowKit

/-- Block g is a reader (of type t) whose state is st. -/
def Rd (w : World) (g : Nat) (t : TypeId) (st : St) : Prop := w.heap[g]? = some (.cells #[.string (bs st.l), .bool st.bad] t (0, 0))

theorem Rd.lt {w : World} {g : Nat} {t : TypeId} {st : St} (h : Rd w g t st) : g < w.heap.size := (Array.getElem?_eq_some_iff.1 h).1
theorem Rd.c0 {w : World} {g : Nat} {t : TypeId} {st : St} (h : Rd w g t st) : w.cell? ⟨g, 0, none⟩ = some (.string (bs st.l)) := by unfold Rd at h; simp [World.cell?, h]
theorem Rd.c1 {w : World} {g : Nat} {t : TypeId} {st : St} (h : Rd w g t st) : w.cell? ⟨g, 1, none⟩ = some (.bool st.bad) := by unfold Rd at h; simp [World.cell?, h]
theorem Rd.f0 {w : World} {g : Nat} {t : TypeId} {st : St} (h : Rd w g t st) (i : Nat) : w.frozen? ⟨g, i, none⟩ = false := by unfold Rd at h; simp [World.frozen?, h]
theorem Rd.set0 {w : World} {g : Nat} {t : TypeId} {st : St} (h : Rd w g t st) (l : List UInt8) : Rd (w.setCell ⟨g, 0, none⟩ (.string (bs l))) g t ⟨l, st.bad⟩ := by
  unfold Rd at h ⊢
  simp [World.setCell, Array.getElem?_modify, h]
theorem Rd.set1 {w : World} {g : Nat} {t : TypeId} {st : St} (h : Rd w g t st) (b : Bool) : Rd (w.setCell ⟨g, 1, none⟩ (.bool b)) g t ⟨st.l, b⟩ := by
  unfold Rd at h ⊢
  simp [World.setCell, Array.getElem?_modify, h]
theorem Rd.grown {w w' : World} {g : Nat} {t : TypeId} {st : St} (h : Rd w g t st) {row : Option Nat} (hg : w.grownBy w' row) (hne : some g ≠ row) : Rd w' g t st := (hg.block g h.lt hne).trans h
theorem Rd.below {w w' : World} {g B : Nat} {t : TypeId} {st : St} (h : Rd w g t st) (hb : Below B w w') (hne : g < B) : Rd w' g t st := (hb.block g hne).trans h
theorem grown_set (w : World) (g i : Nat) (v : Value) : w.grownBy (w.setCell ⟨g, i, none⟩ v) (some g) :=
  ⟨rfl, rfl, rfl, by simp [World.setCell], fun k hk hne => Below.heap_setCell w ⟨g, i, none⟩ v k (by intro e; exact hne (by rw [e]))⟩
theorem grown_below {w w' : World} (h : Below w.heap.size w w') (row : Option Nat) : w.grownBy w' row := ⟨h.os, h.tape, h.output, h.size, fun k hk _ => h.block k hk⟩
theorem Below.of_grown {w w' : World} {B g : Nat} (h : w.grownBy w' (some g)) (hB : B ≤ w.heap.size) (hg : B ≤ g) : Below B w w' :=
  (Below.refl B w).grown h hB (fun k hk => by injection hk with hk; omega)

/-- Only the reader's block has changed, and it is in state st. -/
def RdPost (g : Nat) (t : TypeId) (st : St) (x : Value) (w : World) (e : Ending) (w' : World) : Prop := e = .returned x ∧ Rd w' g t st ∧ w.grownBy w' (some g)

theorem wfail (g : Nat) (st : St) (w : World) (h : Rd w g 59 st) :
    Calls Try.prog 47 #[.pointer (some ⟨g, 0, none⟩)] w (RdPost g 59 .fail (.tuple #[]) w) := by
  have h0 := h.c0
  have h1 := h.c1
  have h2 := h.f0 0
  have h3 := h.f0 1
  go_enter Try.func47, Try.ntmps47
  go_wp2_with fail
  go_end0
  exact ⟨rfl, (h.set0 []).set1 true, (grown_set _ _ _ _).trans (grown_set _ _ _ _)⟩

set_option maxRecDepth 100000 in
theorem wnumber (g : Nat) (st : St) (w : World) (h : Rd w g 59 st) (hs : st.l.length ≤ 100000000) :
    Calls Try.prog 46 #[.pointer (some ⟨g, 0, none⟩)] w (RdPost g 59 (fNumber st).2 (.int .u64 (fNumber st).1) w) := by
  have h0 := h.c0
  have h2 := h.f0 0
  rcases hf : first st.l with _ | ⟨m, r⟩
  · have HP : Hid (fNumber st = (0, St.fail)) := by unfold fNumber; rw [hf]; rfl
    rw [HP.out]
    have HF := Lib.hid hf; clear hf
    go_enter Try.func46, Try.ntmps46
    go_wp2_with fail
    refine (firstNumber_any st.l w hs).mono ?_; rintro e w' ⟨rfl, ⟨m, r, hx, _⟩ | ⟨_, rfl⟩⟩
    · rw [HF.out] at hx; cases hx
    go_wp2_with fail
    refine (wfail g st _ h).mono ?_; rintro e w2 ⟨rfl, hr, hg⟩
    go_wp2_with fail
    go_ret
    exact ⟨rfl, hr, hg⟩
  · have HP : Hid (fNumber st = (m, ⟨r, st.bad⟩)) := by unfold fNumber; rw [hf]; rfl
    rw [HP.out]
    obtain ⟨hl, hm⟩ := first_some hf
    have hdr : st.l.drop (enc m).length = r := by rw [hl]; simp
    have hlen : (enc m).length ≤ (bs st.l).size := by rw [bs_size, hl, List.length_append]; omega
    have hex : (bs st.l).extract (enc m).length (bs st.l).size = bs r := by rw [bs_drop, hdr]
    have hpos := enc_pos m
    have hne : (((enc m).length : Int) == 0) = false := by simp; intro h; rw [h] at hpos; simp at hpos
    have HF := Lib.hid hf; clear hf
    have hbig : (bs st.l).size ≤ 100000000 := by rw [bs_size]; exact hs
    have HX := Lib.hid hex; clear hex
    clear hl hdr
    go_enter Try.func46, Try.ntmps46
    go_wp2_with fail
    refine (firstNumber_any st.l w hs).mono ?_; rintro e w' ⟨rfl, ⟨m', r', hx, rfl⟩ | ⟨hx, _⟩⟩
    · rw [HF.out] at hx
      injection hx with hx
      injection hx with hx1 hx2
      subst hx1; subst hx2
      go_wp2_with fail
      go_ret
      rw [HX.out]
      exact ⟨rfl, h.set0 r, grown_set _ _ _ _⟩
    · rw [HF.out] at hx; cases hx

set_option maxRecDepth 100000 in
theorem wNum (g : Nat) (st : St) (w : World) (h : Rd w g 59 st) (hs : st.l.length ≤ 100000000) :
    Calls Try.prog 24 #[.pointer (some ⟨g, 0, none⟩)] w (RdPost g 59 (fNum st).2 (.int .i64 (fNum st).1) w) := by
  have hm := fNumber_lt st
  by_cases hlt : (fNumber st).1 < 9223372036854775808
  · have HP : Hid (fNum st = fNumber st) := by unfold fNum; rw [if_pos hlt]; exact rfl
    rw [HP.out]
    obtain ⟨m, hM⟩ : ∃ m, (fNumber st).1 = m := ⟨_, rfl⟩
    rw [hM] at hm hlt
    have hc := wnumber g st w h hs
    rw [hM] at hc
    rw [hM]
    have HM := Lib.hid hM; clear hM
    have HC := Lib.hid hc; clear hc
    go_enter Try.func24, Try.ntmps24
    go_wp2_with fail
    refine HC.out.mono ?_; rintro e w2 ⟨rfl, hr, hg⟩
    go_wp2_with fail
    go_ret
    exact ⟨rfl, hr, hg⟩
  · have HP : Hid (fNum st = (0, St.fail)) := by unfold fNum; rw [if_neg hlt]; exact rfl
    rw [HP.out]
    have hc := wnumber g st w h hs
    obtain ⟨m, hM⟩ : ∃ m, (fNumber st).1 = m := ⟨_, rfl⟩
    rw [hM] at hm hlt
    rw [hM] at hc
    have HM := Lib.hid hM; clear hM
    have HC := Lib.hid hc; clear hc
    have hw : IntKind.i64.wrap (m : Int) = (m : Int) - 18446744073709551616 := by
      simp [IntKind.wrap, IntKind.bits, IntKind.signed]; omega
    obtain ⟨x, hx⟩ : ∃ x : Int, (m : Int) - 18446744073709551616 = x := ⟨_, rfl⟩
    have hx0 : x < 0 := by omega
    rw [hx] at hw
    have HX := Lib.hid hx; clear hx
    go_enter Try.func24, Try.ntmps24
    go_wp2_with fail
    refine HC.out.mono ?_; rintro e w2 ⟨rfl, hr, hg⟩
    go_wp2_with fail
    refine (wfail g _ _ hr).mono ?_; rintro e w3 ⟨rfl, hr3, hg3⟩
    go_wp2_with fail
    go_ret
    exact ⟨rfl, hr3, hg.trans hg3⟩

set_option maxRecDepth 100000 in
theorem wInt (g : Nat) (st : St) (w : World) (h : Rd w g 59 st) (hs : st.l.length ≤ 100000000) :
    Calls Try.prog 26 #[.pointer (some ⟨g, 0, none⟩)] w (RdPost g 59 (fInt st).2 (.int .i64 (fInt st).1) w) := by
  go_enter Try.func26, Try.ntmps26
  go_wp2_with fail
  refine (wnumber g st w h hs).mono ?_; rintro e w2 ⟨rfl, hr, hg⟩
  go_wp2_with fail
  refine (unfold_any _ _ (fNumber_lt st)).mono ?_; rintro e w' ⟨rfl, rfl⟩
  go_wp2_with fail
  go_ret
  exact ⟨rfl, hr, hg⟩

set_option maxRecDepth 100000 in
theorem wlength (g : Nat) (st : St) (w : World) (h : Rd w g 59 st) (hs : st.l.length ≤ 100000000) :
    Calls Try.prog 51 #[.pointer (some ⟨g, 0, none⟩)] w (RdPost g 59 (fLen st).2 (.int .i64 (fLen st).1) w) := by
  have hm := fNum_lt st
  have hc := wNum g st w h hs
  have hl2 := fNum_len st
  by_cases hlt : (fNum st).1 ≤ (fNum st).2.l.length
  · have HP : Hid (fLen st = fNum st) := by unfold fLen; rw [if_pos hlt]; exact rfl
    rw [HP.out]
    have hlt' : (fNum st).1 ≤ (bs (fNum st).2.l).size := by rw [bs_size]; exact hlt
    obtain ⟨⟨m, st'⟩, hM⟩ : ∃ m, fNum st = m := ⟨_, rfl⟩
    rw [hM] at hm hlt hlt' hc hl2
    rw [hM]
    have HM := Lib.hid hM; clear hM
    have HC := Lib.hid hc; clear hc
    simp only at hm hlt hlt' hl2
    go_enter Try.func51, Try.ntmps51
    go_wp2_with fail
    refine HC.out.mono ?_; rintro e w2 ⟨rfl, hr, hg⟩
    have h0 := hr.c0
    have h2 := hr.f0 0
    go_wp2_with fail
    go_ret
    exact ⟨rfl, hr, hg⟩
  · have HP : Hid (fLen st = (0, St.fail)) := by unfold fLen; rw [if_neg hlt]; exact rfl
    rw [HP.out]
    have hlt' : (bs (fNum st).2.l).size < (fNum st).1 := by rw [bs_size]; omega
    have hsz' : (bs (fNum st).2.l).size ≤ 100000000 := by rw [bs_size]; omega
    obtain ⟨⟨m, st'⟩, hM⟩ : ∃ m, fNum st = m := ⟨_, rfl⟩
    rw [hM] at hm hlt hlt' hc hl2 hsz'
    have HM := Lib.hid hM; clear hM
    have HC := Lib.hid hc; clear hc
    simp only at hm hlt hlt' hl2 hsz'
    go_enter Try.func51, Try.ntmps51
    go_wp2_with fail
    refine HC.out.mono ?_; rintro e w2 ⟨rfl, hr, hg⟩
    have h0 := hr.c0
    have h2 := hr.f0 0
    go_wp2_with fail
    refine (wfail g _ _ hr).mono ?_; rintro e w3 ⟨rfl, hr3, hg3⟩
    go_wp2_with fail
    go_ret
    exact ⟨rfl, hr3, hg.trans hg3⟩

set_option maxRecDepth 100000 in
theorem wText (g : Nat) (st : St) (w : World) (h : Rd w g 59 st) (hs : st.l.length ≤ 100000000) :
    Calls Try.prog 28 #[.pointer (some ⟨g, 0, none⟩)] w (RdPost g 59 (fText st).2 (.string (bs (fText st).1)) w) := by
  have hc := wlength g st w h hs
  have hl2 := fLen_len st
  have hlt := fLen_le st
  have HP : Hid (fText st = ((fLen st).2.l.take (fLen st).1, ⟨(fLen st).2.l.drop (fLen st).1, (fLen st).2.bad⟩)) := rfl
  rw [HP.out]
  obtain ⟨⟨m, st'⟩, hM⟩ : ∃ m, fLen st = m := ⟨_, rfl⟩
  rw [hM] at hc hl2 hlt
  rw [hM]
  have HM := Lib.hid hM; clear hM
  have HC := Lib.hid hc; clear hc
  simp only at hl2 hlt
  have hlt' : m ≤ (bs st'.l).size := by rw [bs_size]; exact hlt
  have hsz : (bs st'.l).size ≤ 100000000 := by rw [bs_size]; omega
  have hd := Lib.hid (bs_drop st'.l m)
  have ht := Lib.hid (bs_take st'.l m)
  go_enter Try.func28, Try.ntmps28
  go_wp2_with fail
  refine HC.out.mono ?_; rintro e w2 ⟨rfl, hr, hg⟩
  have h0 := hr.c0
  have h2 := hr.f0 0
  go_wp2_with fail
  go_ret
  refine ⟨by rw [← ht.out]; rfl, ?_, hg.trans (grown_set _ _ _ _)⟩
  rw [hd.out]
  exact hr.set0 _

theorem wLeft (g : Nat) (st : St) (w : World) (h : Rd w g 59 st) (hs : st.l.length ≤ 100000000) :
    Calls Try.prog 36 #[.pointer (some ⟨g, 0, none⟩)] w fun e w' => e = .returned (.int .i64 st.l.length) ∧ w = w' := by
  have h0 := h.c0
  have h2 := h.f0 0
  have hz := Lib.hid (bs_size st.l)
  go_enter Try.func36, Try.ntmps36
  go_wp2_with fail
  go_ret
  exact ⟨by rw [← hz.out]; rfl, rfl⟩

def doneB (st : St) : Bool := !st.bad && st.l.isEmpty
theorem bs_empty (l : List UInt8) : (bs l).toList.isEmpty = l.isEmpty := by rw [Lib.toList_data]; simp [bs]
theorem wDone (g : Nat) (st : St) (w : World) (h : Rd w g 59 st) :
    Calls Try.prog 38 #[.pointer (some ⟨g, 0, none⟩)] w fun e w' => e = .returned (.bool (doneB st)) ∧ w = w' := by
  have h0 := h.c0
  have h1 := h.c1
  have h2 := h.f0 0
  have h3 := h.f0 1
  have hn := Lib.hid (bs_empty st.l)
  rcases hb : st.bad with _ | _
  · have HP : Hid (doneB st = st.l.isEmpty) := by unfold doneB; rw [hb]; exact Bool.true_and _
    rw [HP.out]
    rw [hb] at h1
    have HB := Lib.hid hb; clear hb
    go_enter Try.func38, Try.ntmps38
    go_wp2_with fail
    go_ret
    exact ⟨by rw [← hn.out]; rfl, rfl⟩
  · have HP : Hid (doneB st = false) := by unfold doneB; rw [hb]; exact Bool.false_and _
    rw [HP.out]
    rw [hb] at h1
    have HB := Lib.hid hb; clear hb
    go_enter Try.func38, Try.ntmps38
    go_wp2_with fail
    go_ret
    exact ⟨rfl, rfl⟩

theorem wOpen (l : List UInt8) (w : World) :
    Calls Try.prog 21 #[.string (bs l)] w fun e w' => e = .returned (.pointer (some ⟨w.heap.size, 0, none⟩)) ∧ w' = w.alloc (.cells #[.string (bs l), .bool false] 59) := by
  go_enter Try.func21, Try.ntmps21
  go_wp2_with fail
  go_ret
  exact ⟨rfl, rfl⟩
theorem Rd.opened (l : List UInt8) (w : World) (t : TypeId) : Rd (w.alloc (.cells #[.string (bs l), .bool false] t)) w.heap.size t ⟨l, false⟩ := heap_alloc_new w _
end Go.Proofs.Ytebepofbngdccaa
