/-
  Package isa: what lies in memory from the start; an operand; the Op of a name.
-/
import Derived.Test.YtmnhnighlgpjmaaDoorI5
import Derived.Lib.SlTrimSet
import Derived.Lib.IndexAny
import Derived.Lib.IndexMore
namespace Go.Proofs.YtmnhnighlgpjmaaDoor
set_option linter.unusedVariables false
set_option linter.unusedSimpArgs false
open Go.RowKit

def CallsAt (w : World) : Prop := 1 < w.heap.size ∧ ∀ o : Nat, o < 8 →
  w.cell? ⟨1, o * 2, none⟩ = some (.int .i64 (sysR.getD o 0 : Nat)) ∧ w.cell? ⟨1, o * 2 + 1, none⟩ = some (.int .i64 (sysW.getD o 0 : Nat))
def powV : Array Value := (Lib.pow10Tab.map fun z => Value.int .u64 z).toArray
/-- What lies in memory from the start. -/
structure LaidI (w : World) : Prop where
  forms : FormsAt w
  calls : CallsAt w
  pow : ∃ t fr, w.heap[5]? = some (.cells powV t fr)
  max : 2 < w.heap.size ∧ ∃ m : Int, w.cell? ⟨2, 0, none⟩ = some (.int .i64 m)
theorem CallsAt.keep {w w' : World} (h : CallsAt w) (hb : Below w.heap.size w w') : CallsAt w' := by
  refine ⟨Nat.lt_of_lt_of_le h.1 hb.size, fun o ho => ?_⟩
  obtain ⟨h0, h1⟩ := h.2 o ho
  exact ⟨(hb.cell (p := ⟨_, _, none⟩) h.1).trans h0, (hb.cell (p := ⟨_, _, none⟩) h.1).trans h1⟩
theorem LaidI.keep {w w' : World} (h : LaidI w) (hb : Below w.heap.size w w') : LaidI w' := by
  obtain ⟨t, fr, hp⟩ := h.pow
  obtain ⟨hm, m, hc⟩ := h.max
  exact ⟨h.forms.keep hb, h.calls.keep hb, ⟨t, fr, (hb.block _ (Array.getElem?_eq_some_iff.1 hp).1).trans hp⟩, Nat.lt_of_lt_of_le hm hb.size, m, (hb.cell (p := ⟨_, _, none⟩) hm).trans hc⟩
theorem gPow : Tryd.prog.globalNamed "internal/strconv.uint64pow10" = some 5 := by kernel_rfl
theorem LaidI.tab {w : World} (h : LaidI w) : Lib.TabIs Tryd.prog w "internal/strconv.uint64pow10" .u64 Lib.pow10Tab := by
  obtain ⟨t, fr, hp⟩ := h.pow
  unfold Lib.TabIs World.var?
  rw [gPow]
  simp only [Option.bind_some, hp]
  rfl

/-- What an operand's text denotes. -/
def pReg (l : List UInt8) : Int × Bool :=
  if Lib.hasPrefix l [114] then (if decide (1 < (Lib.trimPrefix l [114]).length) && (Lib.trimPrefix l [114]).getD 0 0 == 48 then (0, false) else pDig (Lib.trimPrefix l [114]) 2) else (0, false)
def pImm (l : List UInt8) : Int × Bool :=
  if Lib.hasPrefix l [45] then (-(pDig (Lib.trimPrefix l [45]) 10).1, (pDig (Lib.trimPrefix l [45]) 10).2) else pDig l 10
def pOpd (f : Nat) (l : List UInt8) : Int × Bool := if f = 3 then pImm l else pReg l

theorem cutPfx (s p : ByteArray) (w : World) :
    Calls Tryd.prog 66 #[.string s, .string p] w fun e w' => e = .returned (.tuple #[.string ⟨(Lib.trimPrefix s.data.toList p.data.toList).toArray⟩, .bool (Lib.hasPrefix s.data.toList p.data.toList)]) ∧ w = w' :=
  (Tryd.strings_CutPrefix s p w).mono fun _ _ ⟨h1, h2⟩ => ⟨h1, h2.symm⟩

theorem pDig_bd (l : List UInt8) (most : Nat) (hm : most ≤ 10) : 0 ≤ (pDig l most).1 ∧ (pDig l most).1 < 10000000000 := by
  unfold pDig
  split
  · rename_i h
    unfold digsB at h
    rw [Bool.and_eq_true, decide_eq_true_eq] at h
    have h1 := digV_lt l 0 h.2
    have h2 : 10 ^ l.length ≤ 10 ^ 10 := Nat.pow_le_pow_right (by omega) (by omega)
    show (0 : Int) ≤ (digV 0 l : Nat) ∧ ((digV 0 l : Nat) : Int) < 10000000000
    omega
  · show (0 : Int) ≤ 0 ∧ (0 : Int) < 10000000000
    omega

def arr (l : List UInt8) : ByteArray := ⟨l.toArray⟩
theorem arr_list (l : List UInt8) : (arr l).data.toList = l := rfl
theorem arr_size (l : List UInt8) : (arr l).size = l.length := rfl

set_option maxHeartbeats 1000000 in
theorem opdRegP (f : Nat) (s : ByteArray) (w : World) (hf : f < 3) :
    Calls Tryd.prog 49 #[.int .i64 f, .string s] w fun e w' => e = .returned (.tuple #[.int .i64 (pReg s.data.toList).1, .bool (pReg s.data.toList).2]) ∧ w = w' := by
  obtain ⟨v, hv⟩ : ∃ v, pReg s.data.toList = v := ⟨_, rfl⟩
  rw [hv]
  have h3 : ((f : Int) == 3) = false := beq_eq_false_iff_ne.2 (by omega)
  have h3' : ((f : Int) != 3) = true := by rw [bne, h3]; rfl
  have HC := Lib.hid (cutPfx s ⟨#[114]⟩ w)
  rw [show (⟨#[114]⟩ : ByteArray).data.toList = [114] from rfl] at HC
  cases hp : Lib.hasPrefix s.data.toList [114]
  · have HV : Hid (v = (0, false)) := Lib.hid (by rw [← hv]; unfold pReg; rw [hp]; rfl)
    clear hv
    rw [hp] at HC
    clear hp
    go_enter Tryd.func49, Tryd.ntmps49
    go_wp2_with fail
    refine HC.out.mono ?_; rintro e w' ⟨rfl, rfl⟩
    go_wp2_with fail
    go_ret2
    exact ⟨by rw [HV.out]; rfl, rfl⟩
  · obtain ⟨r, hr⟩ : ∃ r, Lib.trimPrefix s.data.toList [114] = r := ⟨_, rfl⟩
    rw [hp, hr] at HC
    have HV : Hid (v = if decide (1 < r.length) && r.getD 0 0 == 48 then (0, false) else pDig r 2) := Lib.hid (by rw [← hv]; unfold pReg; rw [hp, hr]; rfl)
    clear hp hr hv
    have hq : ∃ q : ByteArray, arr r = q := ⟨_, rfl⟩
    obtain ⟨q, hq⟩ := hq
    have HC' : Hid (Calls Tryd.prog 66 #[.string s, .string ⟨#[114]⟩] w fun e w' => e = .returned (.tuple #[.string q, .bool true]) ∧ w = w') := by rw [← hq]; exact HC
    clear HC
    have HS := Lib.hid (show q.size = r.length by rw [← hq]; rfl)
    have HD := Lib.hid (digsP q 2 w (by omega))
    rw [← hq, arr_list, hq] at HD
    have HQ := Lib.hid hq; clear hq
    by_cases h1 : 1 < q.size
    · have hz : 0 < q.size := by omega
      have HB := Lib.hid (show r.getD 0 0 = q[0] by rw [← getD_at q 0 hz, ← HQ.out]; rfl)
      by_cases h48 : (((q[0].toNat : Nat) : Int) == 48) = true
      · have H48 := Lib.hid h48
        have hh := beq_iff_eq.1 h48
        have H4 : Hid ((q[0] == 48) = true) := Lib.hid (by rw [beq_iff_eq, ← UInt8.toNat_inj]; simp; omega)
        clear hh
        go_enter Tryd.func49, Tryd.ntmps49
        go_wp2_with fail
        refine HC'.out.mono ?_; rintro e w' ⟨rfl, rfl⟩
        go_wp2_with fail
        go_ret2
        exact ⟨by rw [HV.out, HB.out, H4.out, decide_eq_true (by rw [← HS.out]; exact h1)]; rfl, rfl⟩
      · have h48' : (((q[0].toNat : Nat) : Int) == 48) = false := by simpa using h48
        have hh := beq_eq_false_iff_ne.1 h48'
        have H4 : Hid ((q[0] == 48) = false) := Lib.hid (by rw [beq_eq_false_iff_ne]; intro e; rw [← UInt8.toNat_inj] at e; simp at e; omega)
        clear hh h48
        go_enter Tryd.func49, Tryd.ntmps49
        go_wp2_with fail
        refine HC'.out.mono ?_; rintro e w' ⟨rfl, rfl⟩
        go_wp2_with fail
        refine HD.out.mono ?_; rintro e w' ⟨rfl, rfl⟩
        go_wp2_with fail
        go_ret2
        exact ⟨by rw [HV.out, HB.out, H4.out, Bool.and_false]; rfl, rfl⟩
    · have hd : decide (1 < q.size) = false := decide_eq_false h1
      have hd' : decide ((1 : Int) < q.size) = false := decide_eq_false (by omega)
      go_enter Tryd.func49, Tryd.ntmps49
      go_wp2_with fail
      refine HC'.out.mono ?_; rintro e w' ⟨rfl, rfl⟩
      go_wp2_with fail
      refine HD.out.mono ?_; rintro e w' ⟨rfl, rfl⟩
      go_wp2_with fail
      go_ret2
      exact ⟨by rw [HV.out, ← HS.out, hd, Bool.false_and]; rfl, rfl⟩

set_option maxHeartbeats 1000000 in
theorem opdImmP (s : ByteArray) (w : World) :
    Calls Tryd.prog 49 #[.int .i64 3, .string s] w fun e w' => e = .returned (.tuple #[.int .i64 (pImm s.data.toList).1, .bool (pImm s.data.toList).2]) ∧ w = w' := by
  obtain ⟨v, hv⟩ : ∃ v, pImm s.data.toList = v := ⟨_, rfl⟩
  rw [hv]
  have HC := Lib.hid (cutPfx s ⟨#[45]⟩ w)
  rw [show (⟨#[45]⟩ : ByteArray).data.toList = [45] from rfl] at HC
  cases hp : Lib.hasPrefix s.data.toList [45]
  · have HV : Hid (v = pDig s.data.toList 10) := Lib.hid (by rw [← hv]; unfold pImm; rw [hp]; rfl)
    clear hv
    have HD := Lib.hid (digsP s 10 w (by omega))
    rw [hp] at HC
    clear hp
    go_enter Tryd.func49, Tryd.ntmps49
    go_wp2_with fail
    refine HC.out.mono ?_; rintro e w' ⟨rfl, rfl⟩
    go_wp2_with fail
    refine HD.out.mono ?_; rintro e w' ⟨rfl, rfl⟩
    go_wp2_with fail
    go_ret2
    exact ⟨by rw [HV.out]; rfl, rfl⟩
  · obtain ⟨r, hr⟩ : ∃ r, Lib.trimPrefix s.data.toList [45] = r := ⟨_, rfl⟩
    rw [hp, hr] at HC
    have HV : Hid (v = (-(pDig r 10).1, (pDig r 10).2)) := Lib.hid (by rw [← hv]; unfold pImm; rw [hp, hr]; rfl)
    clear hp hr hv
    have hbd := pDig_bd r 10 (by omega)
    have HD := Lib.hid (digsP (arr r) 10 w (by omega))
    rw [arr_list] at HD
    obtain ⟨x, hx⟩ : ∃ x, pDig r 10 = x := ⟨_, rfl⟩
    rw [hx] at hbd HD HV
    clear hx
    obtain ⟨n, ok⟩ := x
    have HC' : Hid (Calls Tryd.prog 66 #[.string s, .string ⟨#[45]⟩] w fun e w' => e = .returned (.tuple #[.string (arr r), .bool true]) ∧ w = w') := HC
    clear HC
    obtain ⟨q, hq⟩ : ∃ q, arr r = q := ⟨_, rfl⟩
    rw [hq] at HC' HD
    clear hq
    have hb1 : 0 ≤ n := hbd.1
    have hb2 : n < 10000000000 := hbd.2
    clear hbd
    go_enter Tryd.func49, Tryd.ntmps49
    go_wp2_with fail
    refine HC'.out.mono ?_; rintro e w' ⟨rfl, rfl⟩
    go_wp2_with fail
    refine HD.out.mono ?_; rintro e w' ⟨rfl, rfl⟩
    go_wp2_with fail
    go_ret2
    exact ⟨by rw [HV.out]; rfl, rfl⟩

/-- parseOperand. -/
theorem opdP (f : Nat) (s : ByteArray) (w : World) (hf : f < 4) :
    Calls Tryd.prog 49 #[.int .i64 f, .string s] w fun e w' => e = .returned (.tuple #[.int .i64 (pOpd f s.data.toList).1, .bool (pOpd f s.data.toList).2]) ∧ w = w' := by
  unfold pOpd
  by_cases h : f = 3
  · subst h; exact opdImmP s w
  · rw [if_neg h]; exact opdRegP f s w (by omega)
end Go.Proofs.YtmnhnighlgpjmaaDoor
