/-
  The reference of layer 6: comes, Write.
  The reference of layer 6: Write.
-/
import Derived.Test.YthdmcjiccbgknaaZRb
namespace Go.Proofs.Ythdmcjiccbgknaa
set_option linter.unusedVariables false
set_option linter.unusedSimpArgs false
open Go.RowKit

set_option maxRecDepth 100000 in
theorem own_form3 {w : World} {base sz n : Nat} {e : TypeId} {v : Value} {xs : List Value} (h : w.ownsRow base e sz v n xs) : ∃ A cap, v = .slice A n cap := own_form2 h
set_option maxRecDepth 100000 in
theorem own_ints {w : World} {v : Value} {l : List Int} (h : w.ownsRow 0 3 1 v l.length (iv l)) : IRow w w.heap.size v l := by
  rcases h.2 with ⟨rfl, h0⟩ | ⟨g, cap, cur, rfl, _, hg, h1, h2, h3, h4⟩
  · obtain rfl : l = [] := List.eq_nil_of_length_eq_zero h0
    exact irow_nil _ _
  · refine ⟨_, cap, rfl, h1, h2, (fun e => by cases e), fun _ => ⟨g, 0, rfl, (Array.getElem?_eq_some_iff.1 hg).1, fun i hi => ?_⟩⟩
    rw [Nat.zero_add, cell_of_row _ _ _ _ _ _ hg]
    have : (cur.toList.take (l.length * 1))[i]? = cur.toList[i]? := by rw [List.getElem?_take, if_pos (by omega)]
    rw [← Array.getElem?_toList, ← this, h4, iv_get, List.getElem?_eq_getElem hi]; rfl
/-- What the reference makes of a write that is possible. -/
def Dk.radd (s : Dk) (f a : Int) (t : ByteArray) : Dk := if isF f = true ∧ 0 ≤ a ∧ a + t.size ≤ 16777216 then { s with pend := s.pend ++ pcs f.toNat t.size a.toNat t } else s
def Dk.rcomes (s : Dk) (f a : Int) (t : ByteArray) : Dk := if s.down = true ∨ s.calls = 0 then s else if s.calls ≠ 1 then { s with calls := s.calls - 1 } else (({ s with calls := 0 } : Dk).radd f a t).rcrash s.keep
set_option maxRecDepth 100000 in
set_option maxHeartbeats 8000000 in
theorem comesR {B : Nat → Prop} {w : World} {db : Nat} {s : Dk} (h : RefAt B w db s) (f a : Int) (t : ByteArray) (ht : t.size ≤ 1000000) (hn : s.pend.length + t.size ≤ 1000000) :
    Calls Try.prog 76 #[.pointer (some ⟨db, 0, none⟩), .int .i64 f, .int .i64 a, .string t] w (AddPost B w db (s.rcomes f a t)) := by
  have HZ : Hid (s.rcomes f a t = if s.down = true ∨ s.calls = 0 then s else if s.calls ≠ 1 then { s with calls := s.calls - 1 } else (({ s with calls := 0 } : Dk).radd f a t).rcrash s.keep) := rfl
  obtain ⟨Z, hZ⟩ : ∃ Z, s.rcomes f a t = Z := ⟨_, rfl⟩
  rw [hZ] at HZ ⊢
  have hca := h.ok.ca
  obtain ⟨lv, qv, kv, r, _⟩ := id h
  obtain ⟨kA0, kcap0, rfl⟩ := own_form3 r.kp
  obtain ⟨_, _, _, c3, c4, c5, fz⟩ := r.cells
  have f4 := fz 4
  have HRr := Lib.hid r
  clear hZ r fz
  cases hd : s.down with
  | true =>
    have HF : Hid (AddPost B w db Z (.returned (.tuple #[])) w) := Lib.hid ⟨rfl, by rw [HZ.out, if_pos (.inl hd)]; exact ROp.refl h⟩
    rw [hd] at c3
    clear HZ h hd
    go_enter Try.func76, Try.ntmps76
    go_wp2_with fail
    go_end0
    exact HF.out
  | false =>
    rw [hd] at c3
    by_cases hc0 : s.calls = 0
    · have HF : Hid (AddPost B w db Z (.returned (.tuple #[])) w) := Lib.hid ⟨rfl, by rw [HZ.out, if_pos (.inr hc0)]; exact ROp.refl h⟩
      rw [hc0] at c4
      clear HZ h hd hc0
      go_enter Try.func76, Try.ntmps76
      go_wp2_with fail
      go_end0
      exact HF.out
    · have hn0 : ¬ (s.down = true ∨ s.calls = 0) := by rw [hd]; simp; exact hc0
      by_cases hc1 : s.calls = 1
      · have HZ3 : Hid (Z = (({ s with calls := 0 } : Dk).radd f a t).rcrash s.keep) := Lib.hid (by rw [HZ.out, if_neg hn0, if_neg (by rw [hc1]; decide)])
        have HO1 : Hid (ROp B w (w.setCell ⟨db, 4, none⟩ (.int .i64 0)) db { s with calls := 0 }) := Lib.hid (h.set_calls 0 (by omega))
        rw [hc1] at c4
        clear HZ hn0 hc0 hc1 hd h
        by_cases h1 : 0 ≤ f
        · have d1 : decide (f ≥ 0) = true := decide_eq_true h1
          have d1' : decide (0 ≤ f) = true := decide_eq_true h1
          by_cases h2 : f ≤ 7
          · have d2 : decide (f ≤ 7) = true := decide_eq_true h2
            have HFI := Lib.hid (fun w => fitsR a t w ht)
            by_cases h3 : 0 ≤ a ∧ a + (t.size : Int) ≤ 16777216
            · rw [decide_eq_true h3] at HFI
              have HZ4 : Hid (Z = ({ s with calls := 0, pend := s.pend ++ pcs f.toNat t.size a.toNat t } : Dk).rcrash s.keep) := Lib.hid (by rw [HZ3.out]; unfold Dk.radd; rw [if_pos ⟨decide_eq_true (by omega), h3⟩])
              obtain ⟨F, rfl⟩ : ∃ F : Nat, f = F := ⟨f.toNat, by omega⟩
              obtain ⟨a, rfl⟩ : ∃ a' : Nat, a = a' := ⟨a.toNat, by omega⟩
              rw [Int.toNat_natCast, Int.toNat_natCast] at HZ4
              have HAD := Lib.hid (addR HO1.out.at_ F (by omega) a t (by omega) hn)
              clear HZ3 h3 h1 h2
              go_enter Try.func76, Try.ntmps76
              go_wp2_with fail
              refine (HFI.out _).mono ?_; rintro e w3 ⟨rfl, rfl⟩
              go_wp2_with fail
              refine HAD.out.mono ?_; rintro e w4 ⟨rfl, hx⟩
              have HS := Lib.hid (HO1.out.trans hx)
              clear hx HAD
              have ha2 := HS.out.at_
              obtain ⟨lv2, qv2, kv2, r2, _⟩ := ha2
              have k5 := r2.cells.2.2.2.2.2.1
              have hir := own_ints r2.kp
              have hkb := own_blk r2.kp r2.bx (by decide)
              obtain ⟨kA, kcap, rfl⟩ := own_form3 r2.kp
              have HCR := Lib.hid (crashR HS.out.at_ _ _ hir (fun _ => hkb))
              clear r2 hir hkb
              go_wp2_with fail
              refine HCR.out.mono ?_; rintro e w9 ⟨rfl, hx⟩
              have HF : Hid (AddPost B w db Z (.returned (.tuple #[])) w9) := Lib.hid ⟨rfl, by rw [HZ4.out]; exact HS.out.trans hx⟩
              clear hx HCR
              go_wp2_with fail
              go_end0
              exact HF.out
            · rw [decide_eq_false h3] at HFI
              have HZ4 : Hid (Z = ({ s with calls := 0 } : Dk).rcrash s.keep) := Lib.hid (by rw [HZ3.out]; unfold Dk.radd; rw [if_neg (fun h => h3 h.2)])
              have HS := HO1
              clear HZ3 h3 h1 h2
              go_enter Try.func76, Try.ntmps76
              go_wp2_with fail
              refine (HFI.out _).mono ?_; rintro e w3 ⟨rfl, rfl⟩
              have hir := own_ints (own_heap HRr.out.kp (w' := w.setCell ⟨db, 4, none⟩ (.int .i64 0)) (fun y hy hyl => Below.heap_setCell w ⟨db, 4, none⟩ _ y (fun e => own_blk HRr.out.kp HRr.out.bx (by decide) (by rw [hy, e]))))
              have HCR := Lib.hid (crashR HS.out.at_ _ s.keep hir (fun _ => own_blk HRr.out.kp HRr.out.bx (by decide)))
              clear hir
              go_wp2_with fail
              refine HCR.out.mono ?_; rintro e w9 ⟨rfl, hx⟩
              have HF : Hid (AddPost B w db Z (.returned (.tuple #[])) w9) := Lib.hid ⟨rfl, by rw [HZ4.out]; exact HS.out.trans hx⟩
              clear hx HCR
              go_wp2_with fail
              go_end0
              exact HF.out
          · have d2 : decide (f ≤ 7) = false := decide_eq_false h2
            have HZ4 : Hid (Z = ({ s with calls := 0 } : Dk).rcrash s.keep) := Lib.hid (by rw [HZ3.out]; unfold Dk.radd; rw [if_neg (fun h => by have := of_decide_eq_true h.1; omega)])
            have HS := HO1
            clear HZ3 h1 h2
            go_enter Try.func76, Try.ntmps76
            have hir := own_ints (own_heap HRr.out.kp (w' := w.setCell ⟨db, 4, none⟩ (.int .i64 0)) (fun y hy hyl => Below.heap_setCell w ⟨db, 4, none⟩ _ y (fun e => own_blk HRr.out.kp HRr.out.bx (by decide) (by rw [hy, e]))))
            have HCR := Lib.hid (crashR HS.out.at_ _ s.keep hir (fun _ => own_blk HRr.out.kp HRr.out.bx (by decide)))
            clear hir
            go_wp2_with fail
            refine HCR.out.mono ?_; rintro e w9 ⟨rfl, hx⟩
            have HF : Hid (AddPost B w db Z (.returned (.tuple #[])) w9) := Lib.hid ⟨rfl, by rw [HZ4.out]; exact HS.out.trans hx⟩
            clear hx HCR
            go_wp2_with fail
            go_end0
            exact HF.out
        · have d1 : decide (f ≥ 0) = false := decide_eq_false h1
          have d1' : decide (0 ≤ f) = false := decide_eq_false h1
          have HZ4 : Hid (Z = ({ s with calls := 0 } : Dk).rcrash s.keep) := Lib.hid (by rw [HZ3.out]; unfold Dk.radd; rw [if_neg (fun h => by have := of_decide_eq_true h.1; omega)])
          have HS := HO1
          clear HZ3 h1
          go_enter Try.func76, Try.ntmps76
          have hir := own_ints (own_heap HRr.out.kp (w' := w.setCell ⟨db, 4, none⟩ (.int .i64 0)) (fun y hy hyl => Below.heap_setCell w ⟨db, 4, none⟩ _ y (fun e => own_blk HRr.out.kp HRr.out.bx (by decide) (by rw [hy, e]))))
          have HCR := Lib.hid (crashR HS.out.at_ _ s.keep hir (fun _ => own_blk HRr.out.kp HRr.out.bx (by decide)))
          clear hir
          go_wp2_with fail
          refine HCR.out.mono ?_; rintro e w9 ⟨rfl, hx⟩
          have HF : Hid (AddPost B w db Z (.returned (.tuple #[])) w9) := Lib.hid ⟨rfl, by rw [HZ4.out]; exact HS.out.trans hx⟩
          clear hx HCR
          go_wp2_with fail
          go_end0
          exact HF.out
      · have HO1 := Lib.hid (h.set_calls (s.calls - 1) (by omega))
        have HF : Hid (∀ w', ROp B w w' db { s with calls := s.calls - 1 } → AddPost B w db Z (.returned (.tuple #[])) w') := Lib.hid (fun w' ho => ⟨rfl, by rw [HZ.out, if_neg hn0, if_pos hc1]; exact ho⟩)
        have HFF := Lib.hid (HF.out _ HO1.out)
        obtain ⟨n, hnn⟩ : ∃ n, s.calls = n + 2 := ⟨s.calls - 2, by omega⟩
        rw [hnn] at c4 HFF
        have hsub : ((n + 2 : Nat) : Int) - 1 = ((n + 1 : Nat) : Int) := by omega
        have hww : IntKind.i64.wrap ((n + 1 : Nat) : Int) = ((n + 1 : Nat) : Int) := IntWalk.i64_in _ (by omega)
        rw [show n + 2 - 1 = n + 1 by omega] at HFF
        have HFX : Hid (∀ x : Int, x = ((n + 1 : Nat) : Int) → AddPost B w db Z (.returned (.tuple #[])) (w.setCell ⟨db, 4, none⟩ (.int .i64 x))) := Lib.hid (fun x hx => by rw [hx]; exact HFF.out)
        have hnb : n ≤ 9223372036854775805 := by omega
        have hne : (((n + 2 : Nat) : Int) == 0) = false := by simp; omega
        have hpos : (0 : Int) < ((n + 1 : Nat) : Int) := by omega
        clear HZ hn0 hc0 hc1 hd h HO1 HF hnn
        go_enter Try.func76, Try.ntmps76
        go_wp2_with fail
        go_end0
        refine HFX.out _ ?_
        first | omega | go_num
end Go.Proofs.Ythdmcjiccbgknaa


namespace Go.Proofs.Ythdmcjiccbgknaa
set_option linter.unusedVariables false
set_option linter.unusedSimpArgs false
open Go.RowKit

def Dk.rwrite1 (s : Dk) (f a : Int) (t : ByteArray) : Int × Dk := if s.chk f ≠ 0 then (s.chk f, s) else if a < 0 then (1, s) else if ¬ (0 ≤ a ∧ a + t.size ≤ 16777216) then (7, s) else (0, s.radd f a t)
def Dk.rwrite (s : Dk) (f a : Int) (t : ByteArray) : Int × Dk := (s.rcomes f a t).rwrite1 f a t
def IOPost (B : Nat → Prop) (w : World) (db : Nat) (r : Int × Dk) (e : Ending) (w' : World) : Prop := e = .returned (.int .i64 r.1) ∧ ROp B w w' db r.2
set_option maxRecDepth 100000 in
theorem rcrash_pend (s : Dk) (k : List Int) : (s.rcrash k).pend.length ≤ s.pend.length := by
  unfold Dk.rcrash
  split
  · exact Nat.le_refl _
  · exact Dk.crash_pend s k
set_option maxRecDepth 100000 in
theorem rcomes_alive {s : Dk} {f a : Int} {t : ByteArray} (h : (s.rcomes f a t).down = false) : (s.rcomes f a t).pend = s.pend := by
  unfold Dk.rcomes at h ⊢
  split at h
  · rename_i h1; rw [if_pos h1]
  · rename_i h1
    rw [if_neg h1]
    split at h
    · rename_i h2; rw [if_pos h2]
    · exfalso
      unfold Dk.rcrash at h
      split at h
      · rename_i h3; rw [h3] at h; cases h
      · have := crash_down ((({ s with calls := 0 } : Dk)).radd f a t) s.keep
        rw [show (({ (((({ s with calls := 0 } : Dk)).radd f a t)).crash s.keep with keep := ((({ s with calls := 0 } : Dk)).radd f a t).keep } : Dk)).down = (((({ s with calls := 0 } : Dk)).radd f a t).crash s.keep).down from rfl, this] at h
        cases h
set_option maxRecDepth 100000 in
set_option maxHeartbeats 8000000 in
theorem writeR {B : Nat → Prop} {w : World} {db : Nat} {s : Dk} (h : RefAt B w db s) (f a : Int) (t : ByteArray) (ht : t.size ≤ 1000000) (hn : s.pend.length + t.size ≤ 1000000) :
    Calls Try.prog 45 #[.pointer (some ⟨db, 0, none⟩), .int .i64 f, .int .i64 a, .string t] w (IOPost B w db (s.rwrite f a t)) := by
  have HC := Lib.hid (comesR h f a t ht hn)
  have hpe := rcomes_alive (s := s) (f := f) (a := a) (t := t)
  have HR : Hid (s.rwrite f a t = (s.rcomes f a t).rwrite1 f a t) := rfl
  generalize s.rwrite f a t = R at *
  generalize s.rcomes f a t = s1 at *
  have HR2 : Hid (R = if s1.chk f ≠ 0 then (s1.chk f, s1) else if a < 0 then (1, s1) else if ¬ (0 ≤ a ∧ a + t.size ≤ 16777216) then (7, s1) else (0, s1.radd f a t)) := HR.out
  have HPE := Lib.hid hpe
  clear HR h hpe
  have hcs := chk_cases s1 f
  go_enter Try.func45, Try.ntmps45
  go_wp2_with fail
  refine HC.out.mono ?_; rintro e w1 ⟨rfl, ho⟩
  have HM := Lib.hid (mayR ho.at_ f)
  have HO := Lib.hid ho
  clear ho HC
  rcases hcs with hc | hc | ⟨hc, hdn, hf0, hf8⟩
  · have HF : Hid (IOPost B w db R (.returned (.int .i64 10)) w1) := Lib.hid ⟨by rw [HR2.out, hc]; rfl, by rw [HR2.out, hc]; exact HO.out⟩
    rw [hc] at HM
    clear HR2 hc
    go_wp2_with fail
    refine HM.out.mono ?_; rintro e w2 ⟨rfl, rfl⟩
    go_wp2_with fail
    go_ret
    exact HF.out
  · have HF : Hid (IOPost B w db R (.returned (.int .i64 1)) w1) := Lib.hid ⟨by rw [HR2.out, hc]; rfl, by rw [HR2.out, hc]; exact HO.out⟩
    rw [hc] at HM
    clear HR2 hc
    go_wp2_with fail
    refine HM.out.mono ?_; rintro e w2 ⟨rfl, rfl⟩
    go_wp2_with fail
    go_ret
    exact HF.out
  · have HR3 : Hid (R = if a < 0 then (1, s1) else if ¬ (0 ≤ a ∧ a + t.size ≤ 16777216) then (7, s1) else (0, s1.radd f a t)) := Lib.hid (by rw [HR2.out, hc, if_neg (by decide)])
    rw [hc] at HM
    have hpl : s1.pend.length + t.size ≤ 1000000 := by rw [HPE.out hdn]; exact hn
    clear HR2 hc
    by_cases h1 : a < 0
    · have HF : Hid (IOPost B w db R (.returned (.int .i64 1)) w1) := Lib.hid ⟨by rw [HR3.out, if_pos h1], by rw [HR3.out, if_pos h1]; exact HO.out⟩
      have d1 : decide (a < 0) = true := decide_eq_true h1
      clear HR3 hdn
      go_wp2_with fail
      refine HM.out.mono ?_; rintro e w2 ⟨rfl, rfl⟩
      go_wp2_with fail
      go_ret
      exact HF.out
    · have d1 : decide (a < 0) = false := decide_eq_false h1
      have HFI := Lib.hid (fun w => fitsR a t w ht)
      by_cases h3 : 0 ≤ a ∧ a + (t.size : Int) ≤ 16777216
      · rw [decide_eq_true h3] at HFI
        have HRA : Hid (s1.radd f a t = { s1 with pend := s1.pend ++ pcs f.toNat t.size a.toNat t }) := Lib.hid (by unfold Dk.radd; rw [if_pos ⟨decide_eq_true (by omega), h3⟩])
        have HR4 : Hid (R = (0, { s1 with pend := s1.pend ++ pcs f.toNat t.size a.toNat t })) := Lib.hid (by rw [HR3.out, if_neg h1, if_neg (fun h => h h3), HRA.out])
        obtain ⟨F, rfl⟩ : ∃ F : Nat, f = F := ⟨f.toNat, by omega⟩
        obtain ⟨a, rfl⟩ : ∃ a' : Nat, a = a' := ⟨a.toNat, by omega⟩
        rw [Int.toNat_natCast, Int.toNat_natCast] at HR4
        have HAD := Lib.hid (addR HO.out.at_ F (by omega) a t (by omega) hpl)
        clear HR3 HRA h3 h1 hdn hf0 hf8
        go_wp2_with fail
        refine HM.out.mono ?_; rintro e w2 ⟨rfl, rfl⟩
        go_wp2_with fail
        refine (HFI.out _).mono ?_; rintro e w3 ⟨rfl, rfl⟩
        go_wp2_with fail
        refine HAD.out.mono ?_; rintro e w4 ⟨rfl, hx⟩
        have HF : Hid (IOPost B w db R (.returned (.int .i64 0)) w4) := Lib.hid ⟨by rw [HR4.out], by rw [HR4.out]; exact HO.out.trans hx⟩
        clear hx HAD
        go_wp2_with fail
        go_ret
        exact HF.out
      · rw [decide_eq_false h3] at HFI
        have HF : Hid (IOPost B w db R (.returned (.int .i64 7)) w1) := Lib.hid ⟨by rw [HR3.out, if_neg h1, if_pos h3], by rw [HR3.out, if_neg h1, if_pos h3]; exact HO.out⟩
        clear HR3 h3 h1 hdn hf0 hf8
        go_wp2_with fail
        refine HM.out.mono ?_; rintro e w2 ⟨rfl, rfl⟩
        go_wp2_with fail
        refine (HFI.out _).mono ?_; rintro e w3 ⟨rfl, rfl⟩
        go_wp2_with fail
        go_ret
        exact HF.out
end Go.Proofs.Ythdmcjiccbgknaa
