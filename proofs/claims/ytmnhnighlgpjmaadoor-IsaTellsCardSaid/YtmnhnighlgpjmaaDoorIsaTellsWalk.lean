/-
  The walk of IsaTells.
-/
import Derived.Test.YtmnhnighlgpjmaaDoorK3
import Derived.Test.YtmnhnighlgpjmaaDoorK5
import Derived.Test.YtmnhnighlgpjmaaDoorK7
import Derived.Test.YtmnhnighlgpjmaaDoorK8
import Derived.Test.YtmnhnighlgpjmaaDoorIW
import Derived.Test.YtmnhnighlgpjmaaDoorIL
import Derived.Test.YtmnhnighlgpjmaaDoorII
import Derived.StillTailTactics
import Derived.Deep.RegionHeld3
namespace Go.Proofs.YtmnhnighlgpjmaaDoor.isaTells
set_option linter.unusedVariables false
set_option linter.unusedSimpArgs false
open Go.RowKit

def Goal (w : World) (e : Ending) (w' : World) : Prop := e = .returned (.bool true) ∧ Below w.heap.size w w'
def encR (i : Ins) : ByteArray := if rightB i then encS i else ⟨#[]⟩
theorem nats {o a b c m : Int} (h : rightB ⟨o, a, b, c, m⟩ = true) : ∃ o' a' b' c' : Nat, o = o' ∧ a = a' ∧ b = b' ∧ c = c' ∧ o' < 256 ∧ a' < 256 ∧ b' < 256 ∧ c' < 256 := by
  have ho := right_op h
  have ha := right_reg h 0 (by omega)
  have hb := right_reg h 1 (by omega)
  have hc := right_reg h 2 (by omega)
  rw [show fldN ⟨o, a, b, c, m⟩ 0 = a from rfl] at ha
  rw [show fldN ⟨o, a, b, c, m⟩ 1 = b from rfl] at hb
  rw [show fldN ⟨o, a, b, c, m⟩ 2 = c from rfl] at hc
  simp only at ho
  exact ⟨o.toNat, a.toNat, b.toNat, c.toNat, by omega, by omega, by omega, by omega, by omega, by omega, by omega, by omega⟩
theorem encP (o a b c m : Int) (w : World) (hF : FormsAt w) :
    Calls Tryd.prog 5 #[.agg #[.int .i64 o, .int .i64 a, .int .i64 b, .int .i64 c, .int .i64 m]] w fun e w' => e = .returned (.tuple #[.string (encR ⟨o, a, b, c, m⟩), .bool (rightB ⟨o, a, b, c, m⟩)]) ∧ Below w.heap.size w w' := by
  unfold encR
  cases h : rightB ⟨o, a, b, c, m⟩
  · exact encNoP o a b c m w hF h
  · obtain ⟨o, a, b, c, rfl, rfl, rfl, rfl, h1, h2, h3, h4⟩ := nats h
    exact encYesP o a b c m w hF h h1 h2 h3 h4
theorem rEncP (o a b c m : Int) (w : World) :
    Calls Tryd.prog 6 #[.agg #[.int .i64 o, .int .i64 a, .int .i64 b, .int .i64 c, .int .i64 m]] w fun e w' => e = .returned (.tuple #[.string (encR ⟨o, a, b, c, m⟩), .bool (rightB ⟨o, a, b, c, m⟩)]) ∧ Below w.heap.size w w' := by
  unfold encR
  cases h : rightB ⟨o, a, b, c, m⟩
  · exact rEncNoP o a b c m w h
  · obtain ⟨o, a, b, c, rfl, rfl, rfl, rfl, h1, h2, h3, h4⟩ := nats h
    exact rEncYesP o a b c m w h h1 h2 h3 h4
def decR (s : ByteArray) (p : Int) : Ins × Bool := if 0 ≤ p ∧ p + 8 ≤ s.size then (if rightB (insAt s p.toNat) then (insAt s p.toNat, true) else (Ins.zero, false)) else (Ins.zero, false)
theorem decP (s : ByteArray) (p : Int) (w : World) (hs : s.size ≤ 300) (hF : FormsAt w) :
    Calls Tryd.prog 7 #[.string s, .int .i64 p] w fun e w' => e = .returned (.tuple #[insV (decR s p).1, .bool (decR s p).2]) ∧ Below w.heap.size w w' := by
  unfold decR
  by_cases h : 0 ≤ p ∧ p + 8 ≤ s.size
  · rw [if_pos h]
    obtain ⟨n, rfl⟩ := Int.eq_ofNat_of_zero_le h.1
    rw [show (((n : Nat) : Int)).toNat = n by omega]
    cases hr : rightB (insAt s n)
    · exact decInP s n w (by omega) hF (by omega) false hr
    · exact decInP s n w (by omega) hF (by omega) true hr
  · rw [if_neg h]
    exact decOutP s p w (by omega) (by omega)
theorem rDecP (s : ByteArray) (p : Int) (w : World) (hs : s.size ≤ 300) :
    Calls Tryd.prog 8 #[.string s, .int .i64 p] w fun e w' => e = .returned (.tuple #[insV (decR s p).1, .bool (decR s p).2]) ∧ Below w.heap.size w w' := by
  unfold decR
  by_cases h : 0 ≤ p ∧ p + 8 ≤ s.size
  · rw [if_pos h]
    obtain ⟨n, rfl⟩ := Int.eq_ofNat_of_zero_le h.1
    rw [show (((n : Nat) : Int)).toNat = n by omega]
    cases hr : rightB (insAt s n)
    · exact rDecInP s n w hs (by omega) false hr
    · exact rDecInP s n w hs (by omega) true hr
  · rw [if_neg h]
    exact rDecOutP s p w hs (by omega)
theorem rTextP (o a b c m : Int) (w : World) :
    Calls Tryd.prog 14 #[.agg #[.int .i64 o, .int .i64 a, .int .i64 b, .int .i64 c, .int .i64 m]] w fun e w' => e = .returned (.string (arr (textL ⟨o, a, b, c, m⟩))) ∧ Below w.heap.size w w' := by
  cases h : rightB ⟨o, a, b, c, m⟩
  · exact rTextNoP o a b c m w h
  · have ho := right_op h
    obtain ⟨n, rfl⟩ := Int.eq_ofNat_of_zero_le (a := o) (by simp only at ho; omega)
    exact rTextYesP n a b c m w h
/-- The boxes of the law: the instruction, what Decode gave twice, what Parse gave twice. -/
structure TBox (w X : World) (b1 b2 b3 b4 : Nat) (o a b c m d0 d1 d2 d3 d4 e0 e1 e2 e3 e4 : Int) : Prop where
  kp : Kp w X
  p0 : X.heap[w.heap.size]? = some (.cells #[.int .i64 o, .int .i64 a, .int .i64 b, .int .i64 c, .int .i64 m] 23)
  p1 : X.heap[b1]? = some (.cells #[.int .i64 d0, .int .i64 d1, .int .i64 d2, .int .i64 d3, .int .i64 d4] 23)
  p2 : X.heap[b2]? = some (.cells #[.int .i64 d0, .int .i64 d1, .int .i64 d2, .int .i64 d3, .int .i64 d4] 23)
  p3 : X.heap[b3]? = some (.cells #[.int .i64 e0, .int .i64 e1, .int .i64 e2, .int .i64 e3, .int .i64 e4] 23)
  p4 : X.heap[b4]? = some (.cells #[.int .i64 e0, .int .i64 e1, .int .i64 e2, .int .i64 e3, .int .i64 e4] 23)
theorem TBox.call {w X X' : World} {b1 b2 b3 b4 : Nat} {o a b c m d0 d1 d2 d3 d4 e0 e1 e2 e3 e4 : Int} (h : TBox w X b1 b2 b3 b4 o a b c m d0 d1 d2 d3 d4 e0 e1 e2 e3 e4) (hb : Below X.heap.size X X') : TBox w X' b1 b2 b3 b4 o a b c m d0 d1 d2 d3 d4 e0 e1 e2 e3 e4 :=
  ⟨h.kp.call hb, blkKeep h.p0 hb, blkKeep h.p1 hb, blkKeep h.p2 hb, blkKeep h.p3 hb, blkKeep h.p4 hb⟩
theorem TBox.cells {w X : World} {b1 b2 b3 b4 : Nat} {o a b c m d0 d1 d2 d3 d4 e0 e1 e2 e3 e4 : Int} (h : TBox w X b1 b2 b3 b4 o a b c m d0 d1 d2 d3 d4 e0 e1 e2 e3 e4) : X.cell? ⟨w.heap.size, 0, none⟩ = some (.int .i64 o) ∧ X.cell? ⟨w.heap.size, 1, none⟩ = some (.int .i64 a) ∧ X.cell? ⟨w.heap.size, 2, none⟩ = some (.int .i64 b) ∧ X.cell? ⟨w.heap.size, 3, none⟩ = some (.int .i64 c) ∧ X.cell? ⟨w.heap.size, 4, none⟩ = some (.int .i64 m) ∧ X.cell? ⟨b1, 0, none⟩ = some (.int .i64 d0) ∧ X.cell? ⟨b1, 1, none⟩ = some (.int .i64 d1) ∧ X.cell? ⟨b1, 2, none⟩ = some (.int .i64 d2) ∧ X.cell? ⟨b1, 3, none⟩ = some (.int .i64 d3) ∧ X.cell? ⟨b1, 4, none⟩ = some (.int .i64 d4) ∧ X.cell? ⟨b2, 0, none⟩ = some (.int .i64 d0) ∧ X.cell? ⟨b2, 1, none⟩ = some (.int .i64 d1) ∧ X.cell? ⟨b2, 2, none⟩ = some (.int .i64 d2) ∧ X.cell? ⟨b2, 3, none⟩ = some (.int .i64 d3) ∧ X.cell? ⟨b2, 4, none⟩ = some (.int .i64 d4) ∧ X.cell? ⟨b3, 0, none⟩ = some (.int .i64 e0) ∧ X.cell? ⟨b3, 1, none⟩ = some (.int .i64 e1) ∧ X.cell? ⟨b3, 2, none⟩ = some (.int .i64 e2) ∧ X.cell? ⟨b3, 3, none⟩ = some (.int .i64 e3) ∧ X.cell? ⟨b3, 4, none⟩ = some (.int .i64 e4) ∧ X.cell? ⟨b4, 0, none⟩ = some (.int .i64 e0) ∧ X.cell? ⟨b4, 1, none⟩ = some (.int .i64 e1) ∧ X.cell? ⟨b4, 2, none⟩ = some (.int .i64 e2) ∧ X.cell? ⟨b4, 3, none⟩ = some (.int .i64 e3) ∧ X.cell? ⟨b4, 4, none⟩ = some (.int .i64 e4) :=
  ⟨blk_cell h.p0 0, blk_cell h.p0 1, blk_cell h.p0 2, blk_cell h.p0 3, blk_cell h.p0 4, blk_cell h.p1 0, blk_cell h.p1 1, blk_cell h.p1 2, blk_cell h.p1 3, blk_cell h.p1 4, blk_cell h.p2 0, blk_cell h.p2 1, blk_cell h.p2 2, blk_cell h.p2 3, blk_cell h.p2 4, blk_cell h.p3 0, blk_cell h.p3 1, blk_cell h.p3 2, blk_cell h.p3 3, blk_cell h.p3 4, blk_cell h.p4 0, blk_cell h.p4 1, blk_cell h.p4 2, blk_cell h.p4 3, blk_cell h.p4 4⟩
set_option maxRecDepth 100000 in
set_option maxHeartbeats 4000000 in
theorem longP (o a b c m : Int) (s : ByteArray) (p : Int) (w : World) (hL : LaidI w) (hs : 300 < s.size) (ws : s.size ≤ 9223372036854775807) : Calls Tryd.prog 3 #[.agg #[.int .i64 o, .int .i64 a, .int .i64 b, .int .i64 c, .int .i64 m], .string s, .int .i64 p] w (Goal w) := by
  have hd : (300 : Int) < s.size := by omega
  have K0 := Lib.hid ((Kp.mk hL (Below.refl _ _)).alloc (.cells #[.int .i64 o, .int .i64 a, .int .i64 b, .int .i64 c, .int .i64 m] 23))
  have KS := Lib.hid (smallP _ K0.out.laid)
  clear hL
  go_enter Tryd.func3, Tryd.ntmps3
  go_wp2_with fail
  refine KS.out.mono ?_; rintro e w1 ⟨rfl, hb⟩
  have HF : Hid (Goal w (.returned (.bool true)) w1) := Lib.hid ⟨rfl, (K0.out.call hb).below⟩
  clear hb
  go_wp2_with fail
  go_ret
  exact HF.out
set_option maxRecDepth 100000 in
set_option maxHeartbeats 0 in
theorem shortP (o a b c m : Int) (s : ByteArray) (p : Int) (w : World) (hL : LaidI w) (hs : s.size ≤ 300) : Calls Tryd.prog 3 #[.agg #[.int .i64 o, .int .i64 a, .int .i64 b, .int .i64 c, .int .i64 m], .string s, .int .i64 p] w (Goal w) := by
  have K0 := Lib.hid ((Kp.mk hL (Below.refl _ _)).alloc (.cells #[.int .i64 o, .int .i64 a, .int .i64 b, .int .i64 c, .int .i64 m] 23))
  have P0 := Lib.hid (block_new w (.cells #[.int .i64 o, .int .i64 a, .int .i64 b, .int .i64 c, .int .i64 m] 23))
  have KS := Lib.hid (smallP _ K0.out.laid)
  clear hL
  have hd1 : decide ((300 : Int) < s.size) = false := decide_eq_false (by omega)
  have hd1' : decide (300 < s.size) = false := decide_eq_false (by omega)
  have HE := Lib.hid (fun W h => encP o a b c m W h)
  have HEr := Lib.hid (fun W => rEncP o a b c m W)
  have HT := Lib.hid (fun W (h : LaidI W) => textP o a b c m W h)
  have HTr := Lib.hid (fun W => rTextP o a b c m W)
  have HR := Lib.hid (fun W h => rightP o a b c m W h)
  have HRr := Lib.hid (fun W => rRightP o a b c m W)
  have HD := Lib.hid (fun W h => decP s p W hs h)
  have HDr := Lib.hid (fun W => rDecP s p W hs)
  have HU := Lib.hid (fun W (h : LaidI W) => usesP o a b c m W h)
  have HUr := Lib.hid (fun W => rUsesP o a b c m W)
  have htl : (Lib.trimS s.data.toList blk).length < 4294967281 := by
    have h1 := trimS_le s.data.toList
    have h2 : s.data.toList.length = s.size := by simp
    omega
  have HP0 := Lib.hid (fun (W : World) (h : LaidI W) => parseP s W (by omega) h (idxAny_all _ (by rw [arr_size]; exact htl)))
  clear htl
  have HPr0 := Lib.hid (fun (W : World) => rParseP s W hs)
  rw [ref_pars] at HPr0
  obtain ⟨ea, hea⟩ : ∃ x, encR ⟨o, a, b, c, m⟩ = x := ⟨_, rfl⟩
  obtain ⟨rb, hrb⟩ : ∃ x, rightB ⟨o, a, b, c, m⟩ = x := ⟨_, rfl⟩
  obtain ⟨tx, htx⟩ : ∃ x, arr (textL ⟨o, a, b, c, m⟩) = x := ⟨_, rfl⟩
  obtain ⟨rl, hrl⟩ : ∃ x, rdsL ⟨o, a, b, c, m⟩ = x := ⟨_, rfl⟩
  obtain ⟨wl, hwl⟩ : ∃ x, wrsL ⟨o, a, b, c, m⟩ = x := ⟨_, rfl⟩
  obtain ⟨⟨⟨d0, d1, d2, d3, d4⟩, db⟩, hdd⟩ : ∃ x, decR s p = x := ⟨_, rfl⟩
  obtain ⟨⟨⟨e0, e1, e2, e3, e4⟩, en⟩, hee⟩ : ∃ x, parsN s.data.toList = x := ⟨_, rfl⟩
  rw [hea, hrb] at HE HEr
  rw [htx] at HT HTr
  rw [hrb] at HR HRr
  rw [hdd] at HD HDr
  rw [hrl, hwl] at HU HUr
  rw [hee] at HP0 HPr0
  have HP : Hid (∀ W : World, LaidI W → Calls Tryd.prog 9 #[.string s] W fun e w' => e = .returned (.tuple #[.agg #[.int .i64 e0, .int .i64 e1, .int .i64 e2, .int .i64 e3, .int .i64 e4], .int .i64 en]) ∧ Below W.heap.size W w') := HP0
  have HPr : Hid (∀ W : World, Calls Tryd.prog 10 #[.string s] W fun e w' => e = .returned (.tuple #[.agg #[.int .i64 e0, .int .i64 e1, .int .i64 e2, .int .i64 e3, .int .i64 e4], .int .i64 en]) ∧ Below W.heap.size W w') := HPr0
  have HDq : Hid (∀ W : World, FormsAt W → Calls Tryd.prog 7 #[.string s, .int .i64 p] W fun e w' => e = .returned (.tuple #[.agg #[.int .i64 d0, .int .i64 d1, .int .i64 d2, .int .i64 d3, .int .i64 d4], .bool db]) ∧ Below W.heap.size W w') := HD
  have HDrq : Hid (∀ W : World, Calls Tryd.prog 8 #[.string s, .int .i64 p] W fun e w' => e = .returned (.tuple #[.agg #[.int .i64 d0, .int .i64 d1, .int .i64 d2, .int .i64 d3, .int .i64 d4], .bool db]) ∧ Below W.heap.size W w') := HDr
  have HRrq : Hid (∀ W : World, Calls Tryd.prog 12 #[.agg #[.int .i64 o, .int .i64 a, .int .i64 b, .int .i64 c, .int .i64 m]] W fun e w' => e = .returned (.bool rb) ∧ Below W.heap.size W w') := HRr
  clear hea hrb htx hrl hwl hdd hee HD HDr HP0 HPr0 HRr
  go_enter Tryd.func3, Tryd.ntmps3
  go_wp2_with fail
  refine KS.out.mono ?_; rintro e w1 ⟨rfl, hb⟩
  have K1 := Lib.hid (K0.out.call hb)
  have P1 := Lib.hid (blkKeep P0.out hb)
  clear hb
  have p0 : w1.cell? ⟨w.heap.size, 0, none⟩ = some (.int .i64 o) := blk_cell P1.out 0
  have p1 : w1.cell? ⟨w.heap.size, 1, none⟩ = some (.int .i64 a) := blk_cell P1.out 1
  have p2 : w1.cell? ⟨w.heap.size, 2, none⟩ = some (.int .i64 b) := blk_cell P1.out 2
  have p3 : w1.cell? ⟨w.heap.size, 3, none⟩ = some (.int .i64 c) := blk_cell P1.out 3
  have p4 : w1.cell? ⟨w.heap.size, 4, none⟩ = some (.int .i64 m) := blk_cell P1.out 4
  go_wp2_with fail
  refine (HE.out _ K1.out.laid.forms).mono ?_; rintro e w2 ⟨rfl, hb⟩
  have K2 := Lib.hid (K1.out.call hb)
  have P2 := Lib.hid (blkKeep P1.out hb)
  clear hb p0 p1 p2 p3 p4 hd1 hd1'
  have p0 : w2.cell? ⟨w.heap.size, 0, none⟩ = some (.int .i64 o) := blk_cell P2.out 0
  have p1 : w2.cell? ⟨w.heap.size, 1, none⟩ = some (.int .i64 a) := blk_cell P2.out 1
  have p2 : w2.cell? ⟨w.heap.size, 2, none⟩ = some (.int .i64 b) := blk_cell P2.out 2
  have p3 : w2.cell? ⟨w.heap.size, 3, none⟩ = some (.int .i64 c) := blk_cell P2.out 3
  have p4 : w2.cell? ⟨w.heap.size, 4, none⟩ = some (.int .i64 m) := blk_cell P2.out 4
  go_wp2_with fail
  refine (HEr.out _).mono ?_; rintro e w3 ⟨rfl, hb⟩
  have K3 := Lib.hid (K2.out.call hb)
  have P3 := Lib.hid (blkKeep P2.out hb)
  clear hb p0 p1 p2 p3 p4 HE HEr
  go_wp2_with fail
  refine (HDq.out _ K3.out.laid.forms).mono ?_; rintro e w4 ⟨rfl, hb⟩
  have K4 := Lib.hid ((K3.out.call hb).alloc (.cells #[.int .i64 d0, .int .i64 d1, .int .i64 d2, .int .i64 d3, .int .i64 d4] 23))
  have P4 := Lib.hid (blkNew (blkKeep P3.out hb) (.cells #[.int .i64 d0, .int .i64 d1, .int .i64 d2, .int .i64 d3, .int .i64 d4] 23))
  have Q4 := Lib.hid (block_new w4 (.cells #[.int .i64 d0, .int .i64 d1, .int .i64 d2, .int .i64 d3, .int .i64 d4] 23))
  clear hb
  go_wp2_with fail
  refine (HDrq.out _).mono ?_; rintro e w5 ⟨rfl, hb⟩
  have K5 := Lib.hid ((K4.out.call hb).alloc (.cells #[.int .i64 d0, .int .i64 d1, .int .i64 d2, .int .i64 d3, .int .i64 d4] 23))
  have P5 := Lib.hid (blkNew (blkKeep P4.out hb) (.cells #[.int .i64 d0, .int .i64 d1, .int .i64 d2, .int .i64 d3, .int .i64 d4] 23))
  have Q5 := Lib.hid (blkNew (blkKeep Q4.out hb) (.cells #[.int .i64 d0, .int .i64 d1, .int .i64 d2, .int .i64 d3, .int .i64 d4] 23))
  have R5 := Lib.hid (block_new w5 (.cells #[.int .i64 d0, .int .i64 d1, .int .i64 d2, .int .i64 d3, .int .i64 d4] 23))
  clear hb HDq HDrq
  go_wp2_with fail
  refine (HP.out _ K5.out.laid).mono ?_; rintro e w6 ⟨rfl, hb⟩
  have K6 := Lib.hid ((K5.out.call hb).alloc (.cells #[.int .i64 e0, .int .i64 e1, .int .i64 e2, .int .i64 e3, .int .i64 e4] 23))
  have P6 := Lib.hid (blkNew (blkKeep P5.out hb) (.cells #[.int .i64 e0, .int .i64 e1, .int .i64 e2, .int .i64 e3, .int .i64 e4] 23))
  have Q6 := Lib.hid (blkNew (blkKeep Q5.out hb) (.cells #[.int .i64 e0, .int .i64 e1, .int .i64 e2, .int .i64 e3, .int .i64 e4] 23))
  have R6 := Lib.hid (blkNew (blkKeep R5.out hb) (.cells #[.int .i64 e0, .int .i64 e1, .int .i64 e2, .int .i64 e3, .int .i64 e4] 23))
  have U6 := Lib.hid (block_new w6 (.cells #[.int .i64 e0, .int .i64 e1, .int .i64 e2, .int .i64 e3, .int .i64 e4] 23))
  clear hb
  go_wp2_with fail
  refine (HPr.out _).mono ?_; rintro e w7 ⟨rfl, hb⟩
  have HTB : Hid (TBox w (w7.alloc (.cells #[.int .i64 e0, .int .i64 e1, .int .i64 e2, .int .i64 e3, .int .i64 e4] 23)) w4.heap.size w5.heap.size w6.heap.size w7.heap.size o a b c m d0 d1 d2 d3 d4 e0 e1 e2 e3 e4) := Lib.hid
    ⟨(K6.out.call hb).alloc _, blkNew (blkKeep P6.out hb) _, blkNew (blkKeep Q6.out hb) _, blkNew (blkKeep R6.out hb) _, blkNew (blkKeep U6.out hb) _, block_new w7 _⟩
  clear hb HP HPr
  go_wp2_with fail
  have HS0 := Lib.hid HTB.out.cells
  have HT8 := Lib.hid (HTB.out.call (Below.refl _ _).drew)
  go_region_held3 (fun W' : World => W'.cell? ⟨w.heap.size, 0, none⟩ = some (.int .i64 o) ∧ W'.cell? ⟨w.heap.size, 1, none⟩ = some (.int .i64 a) ∧ W'.cell? ⟨w.heap.size, 2, none⟩ = some (.int .i64 b) ∧ W'.cell? ⟨w.heap.size, 3, none⟩ = some (.int .i64 c) ∧ W'.cell? ⟨w.heap.size, 4, none⟩ = some (.int .i64 m) ∧ W'.cell? ⟨w4.heap.size, 0, none⟩ = some (.int .i64 d0) ∧ W'.cell? ⟨w4.heap.size, 1, none⟩ = some (.int .i64 d1) ∧ W'.cell? ⟨w4.heap.size, 2, none⟩ = some (.int .i64 d2) ∧ W'.cell? ⟨w4.heap.size, 3, none⟩ = some (.int .i64 d3) ∧ W'.cell? ⟨w4.heap.size, 4, none⟩ = some (.int .i64 d4) ∧ W'.cell? ⟨w5.heap.size, 0, none⟩ = some (.int .i64 d0) ∧ W'.cell? ⟨w5.heap.size, 1, none⟩ = some (.int .i64 d1) ∧ W'.cell? ⟨w5.heap.size, 2, none⟩ = some (.int .i64 d2) ∧ W'.cell? ⟨w5.heap.size, 3, none⟩ = some (.int .i64 d3) ∧ W'.cell? ⟨w5.heap.size, 4, none⟩ = some (.int .i64 d4) ∧ W'.cell? ⟨w6.heap.size, 0, none⟩ = some (.int .i64 e0) ∧ W'.cell? ⟨w6.heap.size, 1, none⟩ = some (.int .i64 e1) ∧ W'.cell? ⟨w6.heap.size, 2, none⟩ = some (.int .i64 e2) ∧ W'.cell? ⟨w6.heap.size, 3, none⟩ = some (.int .i64 e3) ∧ W'.cell? ⟨w6.heap.size, 4, none⟩ = some (.int .i64 e4) ∧ W'.cell? ⟨w7.heap.size, 0, none⟩ = some (.int .i64 e0) ∧ W'.cell? ⟨w7.heap.size, 1, none⟩ = some (.int .i64 e1) ∧ W'.cell? ⟨w7.heap.size, 2, none⟩ = some (.int .i64 e2) ∧ W'.cell? ⟨w7.heap.size, 3, none⟩ = some (.int .i64 e3) ∧ W'.cell? ⟨w7.heap.size, 4, none⟩ = some (.int .i64 e4))
    (first | exact HS0.out | exact TBox.cells (Hid.out (by assumption)))
    (first
      | (go_at_call 11; (with_reducible refine (HR.out _ (TBox.kp (Hid.out (by assumption))).laid.forms).mono ?_); rintro e w8 ⟨rfl, hb⟩; have HTX := Lib.hid (TBox.call (Hid.out (by assumption)) hb); clear hb)
      | (go_at_call 12; (with_reducible refine (HRrq.out _).mono ?_); rintro e w8 ⟨rfl, hb⟩; have HTX := Lib.hid (TBox.call (Hid.out (by assumption)) hb); clear hb)
      | (go_at_call 13; (with_reducible refine (HT.out _ (TBox.kp (Hid.out (by assumption))).laid).mono ?_); rintro e w8 ⟨rfl, hb⟩; have HTX := Lib.hid (TBox.call (Hid.out (by assumption)) hb); clear hb)
      | (go_at_call 14; (with_reducible refine (HTr.out _).mono ?_); rintro e w8 ⟨rfl, hb⟩; have HTX := Lib.hid (TBox.call (Hid.out (by assumption)) hb); clear hb))
  all_goals
    have K8 := Lib.hid HTX.out.kp
    have P8 := Lib.hid HTX.out.p0
    clear HS0 HT8 HR HRrq HT HTr HTB HTX
    have p0 := blk_cell P8.out 0
    have p1 := blk_cell P8.out 1
    have p2 := blk_cell P8.out 2
    have p3 := blk_cell P8.out 3
    have p4 := blk_cell P8.out 4
    go_wp2_with fail
    refine (HU.out _ K8.out.laid).mono ?_; rintro e w9 ⟨u, v, rfl, hu, hv, hb⟩
    have K9 := Lib.hid (K8.out.call hb)
    have P9 := Lib.hid (blkKeep P8.out hb)
    have HU1 := Lib.hid hu
    have HV1 := Lib.hid hv
    clear hu hv hb p0 p1 p2 p3 p4
    have p0 : w9.cell? ⟨w.heap.size, 0, none⟩ = some (.int .i64 o) := blk_cell P9.out 0
    have p1 : w9.cell? ⟨w.heap.size, 1, none⟩ = some (.int .i64 a) := blk_cell P9.out 1
    have p2 : w9.cell? ⟨w.heap.size, 2, none⟩ = some (.int .i64 b) := blk_cell P9.out 2
    have p3 : w9.cell? ⟨w.heap.size, 3, none⟩ = some (.int .i64 c) := blk_cell P9.out 3
    have p4 : w9.cell? ⟨w.heap.size, 4, none⟩ = some (.int .i64 m) := blk_cell P9.out 4
    go_wp2_with fail
    refine (HUr.out _).mono ?_; rintro e w10 ⟨u2, v2, rfl, hu, hv, hb⟩
    have K10 := Lib.hid (K9.out.call hb)
    have hi1 := intsP u u2 rl rl w10 (HU1.out.keep hb) hu
    rw [decide_eq_true rfl] at hi1
    have HI1 := Lib.hid hi1
    have HV1' := Lib.hid (HV1.out.keep hb)
    have HV2 := Lib.hid hv
    clear hu hv hb p0 p1 p2 p3 p4 hi1
    go_wp2_with fail
    refine HI1.out.mono ?_; rintro e w11 ⟨rfl, hb⟩
    have K11 := Lib.hid (K10.out.call hb)
    have hi2 := intsP v v2 wl wl w11 (HV1'.out.keep hb) (HV2.out.keep hb)
    rw [decide_eq_true rfl] at hi2
    have HI2 := Lib.hid hi2
    clear hb hi2
    go_wp2_with fail
    refine HI2.out.mono ?_; rintro e w12 ⟨rfl, hb⟩
    have HF : Hid (Goal w (.returned (.bool true)) w12) := Lib.hid ⟨rfl, (K11.out.call hb).below⟩
    clear hb
    go_wp2_with fail
    go_ret
    exact HF.out
theorem walk (w : World) (hL : LaidI w) (i : Value) (o a b c m : Int) (s : ByteArray) (p : Int)
    (hi : i = .agg #[.int .i64 o, .int .i64 a, .int .i64 b, .int .i64 c, .int .i64 m] ∧ bd64 o ∧ bd64 a ∧ bd64 b ∧ bd64 c ∧ bd64 m) (ws : s.size ≤ maxLen) (wp : (Lit.int .i64 p).wf = true) :
    Calls Tryd.prog 3 #[i, .string s, .int .i64 p] w fun e w' => e = .returned (.bool true) ∧ Below w.heap.size w w' := by
  unfold maxLen at ws
  obtain ⟨rfl, _⟩ := hi
  show Calls Tryd.prog _ _ w (Goal w)
  by_cases h : 300 < s.size
  · exact longP o a b c m s p w hL h ws
  · exact shortP o a b c m s p w hL (by omega)
end Go.Proofs.YtmnhnighlgpjmaaDoor.isaTells
