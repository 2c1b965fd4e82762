/-
  The walk of the law DiskReorders.
-/
import Derived.Test.YtkhmaaneekdifaaDp
import Derived.Test.YtkhmaaneekdifaaDsm
import Derived.Test.YtkhmaaneekdifaaDop
namespace Go.Proofs.Ytkhmaaneekdifaa.diskReorders
set_option linter.unusedVariables false
set_option linter.unusedSimpArgs false
open Go.RowKit

/-- What survives of a pending write. -/
def prt (t : ByteArray) (k : Int) : ByteArray := if k = 1 then t else if k = 2 then t.extract 0 (min 16 t.size) else bs []
theorem prt_le (t : ByteArray) (k : Int) : (prt t k).size ≤ t.size := by
  unfold prt
  split
  · exact Nat.le_refl _
  split
  · simp; omega
  · rw [bs_size]; simp
theorem ext_all (t : ByteArray) : t.extract 0 t.size = t := by
  have := ext_split t t.size (Nat.le_refl _)
  have h2 : (t.extract t.size t.size).data.toList = [] := List.eq_nil_of_length_eq_zero (by rw [dl_len]; simp)
  rw [h2, List.append_nil] at this
  exact ByteArray.ext (Array.ext' this)
theorem cut_prt (p : Pc) (i : Nat) (keep : List Int) : p.t.extract 0 (surv p i keep) = prt p.t (keep.getD i 0) := by
  unfold surv prt
  split
  · exact ext_all _
  split
  · rfl
  · apply ba_nil; simp
theorem surv_size (p : Pc) (i : Nat) (keep : List Int) : (prt p.t (keep.getD i 0)).size = surv p i keep := by
  rw [← cut_prt]
  exact cutP_size p (surv p i keep) (surv_le p i keep)
/-- A piece, if it is not empty. -/
def one (f a : Nat) (t : ByteArray) : List Pc := if t.size = 0 then [] else [⟨f, a, t⟩]
theorem kept3 (p0 p1 p2 : Pc) (k : List Int) : kept k [p0, p1, p2] = one p0.f p0.a (prt p0.t (k.getD 0 0)) ++ one p1.f p1.a (prt p1.t (k.getD 1 0)) ++ one p2.f p2.a (prt p2.t (k.getD 2 0)) := by
  unfold kept
  show keptN k [p0, p1, p2] 3 = _
  have e0 : gp [p0, p1, p2] 0 = p0 := rfl
  have e1 : gp [p0, p1, p2] 1 = p1 := rfl
  have e2 : gp [p0, p1, p2] 2 = p2 := rfl
  rw [keptN, keptN, keptN, keptN, e0, e1, e2, List.nil_append]
  unfold one cutP
  rw [surv_size, surv_size, surv_size, cut_prt, cut_prt, cut_prt]
theorem pcs_one (f a : Nat) (t : ByteArray) (h0 : 0 < t.size) (h : t.size ≤ 32) (ha : a % 32 = 0) : pcs f t.size a t = [⟨f, a, t⟩] := by
  rw [pcs_step f a t h0, ha, Nat.min_eq_left (by omega), ext_all, pcs_zero _ _ _ (by simp)]
theorem one_file (d : List UInt8) (f g a : Nat) (t : ByteArray) (h : f ≠ g) : fileL d (one f a t) g = d := by
  apply fileL_none; intro p hp; unfold one at hp
  split at hp
  · cases hp
  · rw [List.mem_singleton] at hp; rw [hp]; exact h
theorem one_self (d : List UInt8) (f a : Nat) (t : ByteArray) : fileL d (one f a t) f = if t.size = 0 then d else pput d a t.data.toList := by
  unfold one
  split
  · rfl
  · rw [fileL_one, if_pos rfl]; rfl

def st (a b c : ByteArray) : Dk := { dk0 with pend := [⟨5, 0, a⟩, ⟨6, 64, c⟩, ⟨5, 32, b⟩] }
theorem calm (l : List Pc) : Calm { dk0 with pend := l } := ⟨rfl, rfl⟩
theorem write1 (a : ByteArray) (h0 : 0 < a.size) (h : a.size ≤ 32) : dk0.write 5 0 a = (0, { dk0 with pend := [⟨5, 0, a⟩] }) := by
  refine ((calm []).write (f := 5) (a := 0) a (by omega) (by omega)).trans ?_
  rw [pcs_one 5 0 a h0 h rfl]; rfl
theorem write2 (a c : ByteArray) (h0 : 0 < c.size) (h : c.size ≤ 32) : Dk.write { dk0 with pend := [⟨5, 0, a⟩] } 6 64 c = (0, { dk0 with pend := [⟨5, 0, a⟩, ⟨6, 64, c⟩] }) := by
  refine ((calm [⟨5, 0, a⟩]).write (f := 6) (a := 64) c (by omega) (by omega)).trans ?_
  rw [pcs_one 6 64 c h0 h rfl]; rfl
theorem write3 (a b c : ByteArray) (h0 : 0 < b.size) (h : b.size ≤ 32) : Dk.write { dk0 with pend := [⟨5, 0, a⟩, ⟨6, 64, c⟩] } 5 32 b = (0, st a b c) := by
  refine ((calm [⟨5, 0, a⟩, ⟨6, 64, c⟩]).write (f := 5) (a := 32) b (by omega) (by omega)).trans ?_
  rw [pcs_one 5 32 b h0 h rfl]; rfl
theorem st_d (a b c : ByteArray) (f : Nat) : (st a b c).d f = bs [] := dk0_d f
/-- The disk after the crashes. -/
def fin (a b c : ByteArray) (k : List Int) : Dk := ((((st a b c).crash k).crash [1, 1, 1]).start.crash [1, 1, 1]).start
theorem fin_read (a b c : ByteArray) (k : List Int) (f : Nat) (hf : f < 8) : (fin a b c k).read (f : Int) = (bs (fileL [] (kept k (st a b c).pend) f), 0) := by
  have h1 : ((st a b c).crash k).crash [1, 1, 1] = (st a b c).crash k := by
    have hd := crash_down (st a b c) k
    generalize (st a b c).crash k = s at *
    unfold Dk.crash
    rw [if_pos hd]
  unfold fin
  rw [h1]
  have hd : ((st a b c).crash k).start.down = false := rfl
  rw [read_of _ f hf rfl, crash_bytes _ hd _ f hf]
  have hp : ((st a b c).crash k).start.pend = [] := crash_pendN _ rfl k
  have he : ((st a b c).crash k).start.d f = ((st a b c).crash k).d f := rfl
  rw [hp, kept_nilL, fileL_nil, bs_data, he, crash_d _ rfl k f hf, st_d]
  rfl
theorem read5 (a b c : ByteArray) (k : List Int) : (fin a b c k).read 5 = (if (prt b (k.getD 2 0)).size = 0 then prt a (k.getD 0 0) else bs (pput (prt a (k.getD 0 0)).data.toList 32 (prt b (k.getD 2 0)).data.toList), 0) := by
  refine (fin_read a b c k 5 (by omega)).trans ?_
  rw [show (st a b c).pend = [⟨5, 0, a⟩, ⟨6, 64, c⟩, ⟨5, 32, b⟩] from rfl, kept3, fileL_append, fileL_append]
  rw [one_self, one_self, one_file _ 6 5 _ _ (by decide)]
  simp only []
  have hx : (if (prt a (k.getD 0 0)).size = 0 then [] else pput [] 0 (prt a (k.getD 0 0)).data.toList) = (prt a (k.getD 0 0)).data.toList := by
    split
    · rename_i h; exact (List.eq_nil_of_length_eq_zero (by rw [dl_len]; exact h)).symm
    · rw [pput_nil]
  rw [hx]
  split
  · rw [bs_data]
  · rfl
theorem read6 (a b c : ByteArray) (k : List Int) : (fin a b c k).read 6 = (if (prt c (k.getD 1 0)).size = 0 then bs [] else bs (pput [] 64 (prt c (k.getD 1 0)).data.toList), 0) := by
  refine (fin_read a b c k 6 (by omega)).trans ?_
  rw [show (st a b c).pend = [⟨5, 0, a⟩, ⟨6, 64, c⟩, ⟨5, 32, b⟩] from rfl, kept3, fileL_append, fileL_append]
  rw [one_file _ 5 6 _ _ (by decide), one_self, one_file _ 5 6 _ _ (by decide)]
  simp only []
  split <;> rfl
theorem put64 (y : ByteArray) : bs (pput [] 64 y.data.toList) = bs (List.replicate 64 0) ++ y := by
  conv => rhs; rw [← bs_data y, bs_append]
  congr 1
  simp [pput]
theorem put32 (x z : ByteArray) (hx : x.size ≤ 32) (hz : z.size ≤ 32) : bs (pput x.data.toList 32 z.data.toList) = x ++ bs (List.replicate (32 - x.size) 0) ++ z := by
  conv => rhs; rw [← bs_data x, ← bs_data z, bs_append, bs_append, bs_data]
  congr 1
  unfold pput
  rw [dl_len, List.take_of_length_le (by rw [dl_len]; exact hx), List.drop_eq_nil_of_le (by rw [dl_len]; omega), List.append_nil]

set_option maxHeartbeats 1000000 in
theorem partP (t : ByteArray) (k : Int) (w : World) (h : t.size ≤ 32) : Calls Try.prog 41 #[.string t, .int .i64 k] w fun e w' => e = .returned (.string (prt t k)) ∧ w = w' := by
  have HP : Hid (prt t k = if k = 1 then t else if k = 2 then t.extract 0 (min 16 t.size) else bs []) := rfl
  generalize prt t k = R at *
  by_cases h1 : k = 1
  · subst h1
    go_enter Try.func41, Try.ntmps41
    go_wp2_with fail
    go_ret
    exact ⟨by rw [HP.out]; rfl, rfl⟩
  · by_cases h2 : k = 2
    · subst h2
      have q1 : (0 : Int) ≤ min 16 (t.size : Int) := by omega
      have q2 : min 16 (t.size : Int) ≤ (t.size : Int) := by omega
      have q3 : (min 16 (t.size : Int)).toNat = min 16 t.size := by omega
      go_enter Try.func41, Try.ntmps41
      go_wp2_with fail
      go_ret
      exact ⟨by rw [HP.out]; rfl, rfl⟩
    · have HR : Hid (R = bs []) := by show _ = _; rw [HP.out, if_neg h1, if_neg h2]
      go_enter Try.func41, Try.ntmps41
      go_wp2_with fail
      go_ret
      exact ⟨by rw [HR.out]; rfl, rfl⟩

/-- A made row of zeros as a string. -/
theorem zeros (n : Nat) (hn : n ≤ 64) : ∃ (Z : Array Value) (q : ByteArray), q = bs (List.replicate n 0) ∧ q.size = n ∧ (∀ w : World, (Instr.makeSlice 53 (.int .i64 (n : Int)) (.int .i64 (n : Int))).run Try.prog w = .ok (.slice (some ⟨w.heap.size, 0, none⟩) n n) (w.alloc (.cells Z 5))) ∧ ∀ w : World, (convert 53 9 (.slice (some ⟨w.heap.size, 0, none⟩) n n)).run Try.prog (w.alloc (.cells Z 5)) = .ok (.string q) (w.alloc (.cells Z 5)) := by
  refine ⟨_, _, rfl, by rw [bs_size, List.length_replicate], mkB_all n (by omega), fun w => ?_⟩
  exact blkB_conv (Blk.new w _ _) (List.length_replicate ..)

theorem str_e {t : ByteArray} (h : 0 < t.size) : ¬ t.toList = [] ∧ t.toList.isEmpty = false ∧ (!t.toList.isEmpty) = true := by
  have e1 : ¬ t.toList = [] := fun e => by
    have h2 : t.size = 0 := by rw [← dl_len, ← Lib.toList_data, e]; rfl
    omega
  have e2 : t.toList.isEmpty = false := by
    cases h : t.toList with
    | nil => exact absurd h e1
    | cons a b => rfl
  exact ⟨e1, e2, by rw [e2]; rfl⟩
theorem irow_new3 (w : World) (x y z : Int) : IRow (w.alloc (.cells #[.int .i64 x, .int .i64 y, .int .i64 z] 3)) (w.alloc (.cells #[.int .i64 x, .int .i64 y, .int .i64 z] 3)).heap.size (.slice (some ⟨w.heap.size, 0, none⟩) 3 3) [x, y, z] := by
  refine ⟨_, 3, rfl, by simp, by decide, (fun e => by cases e), fun _ => ⟨w.heap.size, 0, rfl, by simp, fun i hi => ?_⟩⟩
  have hi2 : i = 0 ∨ i = 1 ∨ i = 2 := by simp at hi; omega
  rcases hi2 with rfl | rfl | rfl
  · exact (Blk.new w 3 #[.int .i64 x, .int .i64 y, .int .i64 z]).cell 0
  · exact (Blk.new w 3 #[.int .i64 x, .int .i64 y, .int .i64 z]).cell 1
  · exact (Blk.new w 3 #[.int .i64 x, .int .i64 y, .int .i64 z]).cell 2
theorem str_n : (bs [] : ByteArray).toList = [] := by rw [Lib.toList_data]; rfl

theorem pad_eq (x : ByteArray) (h : x.size ≤ 32) : ((32 - x.size : Nat) : Int) = 32 - (x.size : Int) := by omega
set_option maxRecDepth 100000 in
set_option maxHeartbeats 8000000 in
theorem walkIn (W : World) (a0 a1 a2 : ByteArray) (v3 : Value) (l : List Int) (w3 : IRow W W.heap.size v3 l) (h0 : 0 < a0.size) (h1 : 0 < a1.size) (h2 : 0 < a2.size) (h3 : a0.size ≤ 32) (h4 : a1.size ≤ 32) (h5 : a2.size ≤ 32) (h6 : l.length = 3) :
    Calls Try.prog 9 #[.string a0, .string a1, .string a2, v3] W fun e w' => e = .returned (.bool true) ∧ Below W.heap.size W w' := by
  have HS := Lib.hid (small6 W)
  have HK : Hid (∀ w', Below W.heap.size W w' → IRow w' w'.heap.size v3 l) := Lib.hid fun w' hb => w3.keep hb
  obtain ⟨k0, k1, k2, rfl⟩ : ∃ k0 k1 k2, l = [k0, k1, k2] := by
    match l, h6 with
    | [x, y, z], _ => exact ⟨x, y, z, rfl⟩
  obtain ⟨A, cap, rfl, -, -, -, hA⟩ := w3
  obtain ⟨b, off, rfl, hb, hc⟩ := hA (by simp)
  have HB := Lib.hid hb
  have HC0 : Hid (W.cell? ⟨b, off + 0, none⟩ = some (.int .i64 k0)) := hc 0 (by simp)
  have HC1 : Hid (W.cell? ⟨b, off + 1, none⟩ = some (.int .i64 k1)) := hc 1 (by simp)
  have HC2 : Hid (W.cell? ⟨b, off + 2, none⟩ = some (.int .i64 k2)) := hc 2 (by simp)
  clear hA hc hb h6
  obtain ⟨s1, s2, s3⟩ := str_e h0
  obtain ⟨s4, s5, s6⟩ := str_e h1
  obtain ⟨s7, s8, s9⟩ := str_e h2
  have g1 : decide (32 < (a0.size : Int)) = false := by rw [decide_eq_false_iff_not]; omega
  have g2 : decide (32 < (a1.size : Int)) = false := by rw [decide_eq_false_iff_not]; omega
  have g3 : decide (32 < (a2.size : Int)) = false := by rw [decide_eq_false_iff_not]; omega
  have HW1 := Lib.hid (write1 a0 h0 h3)
  have HW2 := Lib.hid (write2 a0 a2 h2 h5)
  have HW3 := Lib.hid (write3 a0 a1 a2 h1 h4)
  have HX := Lib.hid (read5 a0 a1 a2 [k0, k1, k2])
  have HY := Lib.hid (read6 a0 a1 a2 [k0, k1, k2])
  rw [show [k0, k1, k2].getD 0 0 = k0 from rfl, show [k0, k1, k2].getD 2 0 = k2 from rfl] at HX
  rw [show [k0, k1, k2].getD 1 0 = k1 from rfl] at HY
  rw [put64] at HY
  have HP0 := Lib.hid (fun w => partP a0 k0 w h3)
  have HP1 := Lib.hid (fun w => partP a2 k1 w h5)
  have HP2 := Lib.hid (fun w => partP a1 k2 w h4)
  have hx := Nat.le_trans (prt_le a0 k0) h3
  have hy := Nat.le_trans (prt_le a2 k1) h5
  have hz := Nat.le_trans (prt_le a1 k2) h4
  generalize prt a0 k0 = x at *
  generalize prt a2 k1 = y at *
  generalize prt a1 k2 = z at *
  rw [put32 x z hx hz] at HX
  obtain ⟨Z1, q1, hq1, hq2, hm1, hv1⟩ := zeros 64 (by omega)
  obtain ⟨Z2, q2, hq3, hq4, hm2, hv2⟩ := zeros (32 - x.size) (by omega)
  rw [← hq1] at HY
  rw [← hq3] at HX
  rw [pad_eq x hx] at hm2
  rw [show ((64 : Nat) : Int) = 64 from rfl] at hm1
  have HQ2 := Lib.hid hq2
  have HQ4 := Lib.hid hq4
  obtain ⟨R5, hR5⟩ : ∃ R, (if z.size = 0 then x else x ++ q2 ++ z) = R := ⟨_, rfl⟩
  obtain ⟨R6, hR6⟩ : ∃ R, (if y.size = 0 then bs [] else q1 ++ y) = R := ⟨_, rfl⟩
  rw [hR5] at HX
  rw [hR6] at HY
  have HR5 := Lib.hid hR5
  have HR6 := Lib.hid hR6
  clear hR5 hR6
  clear hq1 hq2 hq3 hq4
  go_enter Try.func9, Try.ntmps9
  go_wp2_with fail
  refine HS.out.mono ?_; rintro e w2 ⟨rfl, hb2⟩
  have HN := Lib.hid (dNew w2)
  have HB2 := Lib.hid hb2
  clear hb2 HS
  go_wp2_with fail
  refine HN.out.mono ?_; rintro e w3 ⟨d, rfl, h3⟩
  have H := Lib.hid (h3.base HB2.out)
  clear h3 HN HB2
  have HC := Lib.hid (dWrite H.out 5 0 a0 (by show (0 : Nat) + _ ≤ _; omega))
  rw [HW1.out] at HC
  go_wp2_with fail
  refine HC.out.mono ?_; rintro e w4 ⟨rfl, h⟩
  have Ha := Lib.hid h; clear h HC H
  have HC := Lib.hid (dWrite Ha.out 6 64 a2 (by show (1 : Nat) + _ ≤ _; omega))
  rw [HW2.out] at HC
  go_wp2_with fail
  refine HC.out.mono ?_; rintro e w5 ⟨rfl, h⟩
  have Hb := Lib.hid h; clear h HC Ha
  have HC := Lib.hid (dWrite Hb.out 5 32 a1 (by show (2 : Nat) + _ ≤ _; omega))
  rw [HW3.out] at HC
  go_wp2_with fail
  refine HC.out.mono ?_; rintro e w6 ⟨rfl, h⟩
  have Hc := Lib.hid h; clear h HC Hb
  have HC := Lib.hid (dCrash Hc.out _ _ (HK.out _ Hc.out.2))
  go_wp2_with fail
  refine HC.out.mono ?_; rintro e w7 ⟨rfl, h⟩
  have Hd := Lib.hid h; clear h HC Hc
  have HC := Lib.hid (dCrash (Hd.out.below (below_new _ (.cells #[.int .i64 1, .int .i64 1, .int .i64 1] 3))) _ [1, 1, 1] (irow_new3 _ 1 1 1))
  go_wp2_with fail
  refine HC.out.mono ?_; rintro e w8 ⟨rfl, h⟩
  have He := Lib.hid h; clear h HC Hd
  have HC := Lib.hid (dStart He.out)
  go_wp2_with fail
  refine HC.out.mono ?_; rintro e w9 ⟨rfl, h⟩
  have Hf := Lib.hid h; clear h HC He
  have HC := Lib.hid (dCrash (Hf.out.below (below_new _ (.cells #[.int .i64 1, .int .i64 1, .int .i64 1] 3))) _ [1, 1, 1] (irow_new3 _ 1 1 1))
  go_wp2_with fail
  refine HC.out.mono ?_; rintro e w10 ⟨rfl, h⟩
  have Hg := Lib.hid h; clear h HC Hf
  have HC := Lib.hid (dStart Hg.out)
  go_wp2_with fail
  refine HC.out.mono ?_; rintro e w11 ⟨rfl, h⟩
  have Hh : Hid (Dsk W w11 d (fin a0 a1 a2 [k0, k1, k2])) := Lib.hid h; clear h HC Hg
  have HC := Lib.hid (dRead Hh.out 5)
  rw [HX.out] at HC
  go_wp2_with fail
  refine HC.out.mono ?_; rintro e w12 ⟨rfl, h⟩
  have Hi := Lib.hid h; clear h HC Hh
  have HC := Lib.hid (dRead Hi.out 6)
  rw [HY.out] at HC
  go_wp2_with fail
  refine HC.out.mono ?_; rintro e w13 ⟨rfl, h⟩
  have Hj := Lib.hid h.2
  have c0 := (h.2.cell (p := ⟨b, off + 0, none⟩) HB.out).trans HC0.out
  have c1 := (h.2.cell (p := ⟨b, off + 1, none⟩) HB.out).trans HC1.out
  have c2 := (h.2.cell (p := ⟨b, off + 2, none⟩) HB.out).trans HC2.out
  rw [Nat.add_zero] at c0
  clear h HC Hi
  have HC := Lib.hid (HP0.out w13)
  go_wp2_with fail
  refine HC.out.mono ?_; rintro e wx ⟨rfl, rfl⟩
  clear HC
  have HC := Lib.hid (HP1.out w13)
  go_wp2_with fail
  refine HC.out.mono ?_; rintro e wx ⟨rfl, rfl⟩
  clear HC
  have HC := Lib.hid (HP2.out w13)
  go_wp2_with fail
  refine HC.out.mono ?_; rintro e wx ⟨rfl, rfl⟩
  clear HC c0 c1 c2 HX HY
  by_cases hy0 : y.size = 0
  · have e6 : R6 = bs [] := by rw [← HR6.out, if_pos hy0]
    obtain rfl := ba_nil hy0
    subst e6
    have n1 := str_n
    by_cases hz0 : z.size = 0
    · have e5 : R5 = x := by rw [← HR5.out, if_pos hz0]
      obtain rfl := ba_nil hz0
      subst e5
      go_wp2_with fail
      go_ret
      exact ⟨by first | rfl | simp, Hj.out⟩
    · obtain ⟨z1, z2, z3⟩ := str_e (t := z) (by omega)
      have e5 : R5 = x ++ q2 ++ z := by rw [← HR5.out, if_neg hz0]
      subst e5
      have p1 := fun w => run_string_add_sum (P := Try.prog) (w := w) x q2 (by rw [HQ4.out]; omega)
      have p2 := fun w => run_string_add_sum (P := Try.prog) (w := w) (x ++ q2) z (by rw [ByteArray.size_append, HQ4.out]; omega)
      go_wp2_with fail
      go_ret
      exact ⟨by first | rfl | simp, Hj.out.trans ((below_new _ _).mono Hj.out.size)⟩
  · obtain ⟨y1, y2, y3⟩ := str_e (t := y) (by omega)
    have e6 : R6 = q1 ++ y := by rw [← HR6.out, if_neg hy0]
    subst e6
    have p0 := fun w => run_string_add_sum (P := Try.prog) (w := w) q1 y (by rw [HQ2.out]; omega)
    by_cases hz0 : z.size = 0
    · have e5 : R5 = x := by rw [← HR5.out, if_pos hz0]
      obtain rfl := ba_nil hz0
      subst e5
      have n1 := str_n
      go_wp2_with fail
      go_ret
      exact ⟨by first | rfl | simp, Hj.out.trans ((below_new _ _).mono Hj.out.size)⟩
    · obtain ⟨z1, z2, z3⟩ := str_e (t := z) (by omega)
      have e5 : R5 = x ++ q2 ++ z := by rw [← HR5.out, if_neg hz0]
      subst e5
      have p1 := fun w => run_string_add_sum (P := Try.prog) (w := w) x q2 (by rw [HQ4.out]; omega)
      have p2 := fun w => run_string_add_sum (P := Try.prog) (w := w) (x ++ q2) z (by rw [ByteArray.size_append, HQ4.out]; omega)
      have hv3 := hv2 (w13.alloc (.cells Z1 5))
      rw [size_new] at hv3
      go_wp2_with fail
      go_ret
      exact ⟨by first | rfl | simp, Hj.out.trans (((below_new _ _).trans ((below_new _ _).mono (by simp))).mono Hj.out.size)⟩

set_option maxRecDepth 100000 in
set_option maxHeartbeats 8000000 in
theorem outside (W : World) (a0 a1 a2 : ByteArray) (v3 : Value) (l : List Int) (w0 : a0.size ≤ 9223372036854775807) (w1 : a1.size ≤ 9223372036854775807) (w2 : a2.size ≤ 9223372036854775807) (w3 : IRow W W.heap.size v3 l) (h : a0.size = 0 ∨ a1.size = 0 ∨ a2.size = 0 ∨ 32 < a0.size ∨ 32 < a1.size ∨ 32 < a2.size ∨ l.length ≠ 3) :
    Calls Try.prog 9 #[.string a0, .string a1, .string a2, v3] W fun e w' => e = .returned (.bool true) ∧ Below W.heap.size W w' := by
  have HS := Lib.hid (small6 W)
  obtain ⟨A, cap, rfl, -⟩ := w3
  by_cases c0 : a0.size = 0
  · obtain rfl := ba_nil c0
    have n1 := str_n
    go_enter Try.func9, Try.ntmps9
    go_wp2_with fail
    refine HS.out.mono ?_; rintro e w2 ⟨rfl, hb2⟩
    have HN := Lib.hid (dNew w2)
    have HB2 := Lib.hid hb2
    clear hb2
    go_wp2_with fail
    refine HN.out.mono ?_; rintro e w3 ⟨d, rfl, h3⟩
    have HF := Lib.hid (h3.base HB2.out).2
    clear h3
    go_wp2_with fail
    go_ret
    exact ⟨rfl, HF.out⟩
  · obtain ⟨s0, t0, u0⟩ := str_e (t := a0) (by omega)
    by_cases c1 : a1.size = 0
    · obtain rfl := ba_nil c1
      have n1 := str_n
      go_enter Try.func9, Try.ntmps9
      go_wp2_with fail
      refine HS.out.mono ?_; rintro e w2 ⟨rfl, hb2⟩
      have HN := Lib.hid (dNew w2)
      have HB2 := Lib.hid hb2
      clear hb2
      go_wp2_with fail
      refine HN.out.mono ?_; rintro e w3 ⟨d, rfl, h3⟩
      have HF := Lib.hid (h3.base HB2.out).2
      clear h3
      go_wp2_with fail
      go_ret
      exact ⟨rfl, HF.out⟩
    · obtain ⟨s1, t1, u1⟩ := str_e (t := a1) (by omega)
      by_cases c2 : a2.size = 0
      · obtain rfl := ba_nil c2
        have n1 := str_n
        go_enter Try.func9, Try.ntmps9
        go_wp2_with fail
        refine HS.out.mono ?_; rintro e w2 ⟨rfl, hb2⟩
        have HN := Lib.hid (dNew w2)
        have HB2 := Lib.hid hb2
        clear hb2
        go_wp2_with fail
        refine HN.out.mono ?_; rintro e w3 ⟨d, rfl, h3⟩
        have HF := Lib.hid (h3.base HB2.out).2
        clear h3
        go_wp2_with fail
        go_ret
        exact ⟨rfl, HF.out⟩
      · obtain ⟨s2, t2, u2⟩ := str_e (t := a2) (by omega)
        by_cases d0 : 32 < a0.size
        · have g0 : decide (32 < (a0.size : Int)) = true := by rw [decide_eq_true_iff]; omega
          go_enter Try.func9, Try.ntmps9
          go_wp2_with fail
          refine HS.out.mono ?_; rintro e w2 ⟨rfl, hb2⟩
          have HN := Lib.hid (dNew w2)
          have HB2 := Lib.hid hb2
          clear hb2
          go_wp2_with fail
          refine HN.out.mono ?_; rintro e w3 ⟨d, rfl, h3⟩
          have HF := Lib.hid (h3.base HB2.out).2
          clear h3
          go_wp2_with fail
          go_ret
          exact ⟨rfl, HF.out⟩
        · have g0 : decide (32 < (a0.size : Int)) = false := by rw [decide_eq_false_iff_not]; omega
          by_cases d1 : 32 < a1.size
          · have g1 : decide (32 < (a1.size : Int)) = true := by rw [decide_eq_true_iff]; omega
            go_enter Try.func9, Try.ntmps9
            go_wp2_with fail
            refine HS.out.mono ?_; rintro e w2 ⟨rfl, hb2⟩
            have HN := Lib.hid (dNew w2)
            have HB2 := Lib.hid hb2
            clear hb2
            go_wp2_with fail
            refine HN.out.mono ?_; rintro e w3 ⟨d, rfl, h3⟩
            have HF := Lib.hid (h3.base HB2.out).2
            clear h3
            go_wp2_with fail
            go_ret
            exact ⟨rfl, HF.out⟩
          · have g1 : decide (32 < (a1.size : Int)) = false := by rw [decide_eq_false_iff_not]; omega
            by_cases d2 : 32 < a2.size
            · have g2 : decide (32 < (a2.size : Int)) = true := by rw [decide_eq_true_iff]; omega
              go_enter Try.func9, Try.ntmps9
              go_wp2_with fail
              refine HS.out.mono ?_; rintro e w2 ⟨rfl, hb2⟩
              have HN := Lib.hid (dNew w2)
              have HB2 := Lib.hid hb2
              clear hb2
              go_wp2_with fail
              refine HN.out.mono ?_; rintro e w3 ⟨d, rfl, h3⟩
              have HF := Lib.hid (h3.base HB2.out).2
              clear h3
              go_wp2_with fail
              go_ret
              exact ⟨rfl, HF.out⟩
            · have g2 : decide (32 < (a2.size : Int)) = false := by rw [decide_eq_false_iff_not]; omega
              have hl : ¬ (l.length : Int) = 3 := by omega
              have hl2 : ((l.length : Int) != 3) = true := by simp; omega
              have hl3 : ((l.length : Int) == 3) = false := by simp; omega
              go_enter Try.func9, Try.ntmps9
              go_wp2_with fail
              refine HS.out.mono ?_; rintro e w2 ⟨rfl, hb2⟩
              have HN := Lib.hid (dNew w2)
              have HB2 := Lib.hid hb2
              clear hb2
              go_wp2_with fail
              refine HN.out.mono ?_; rintro e w3 ⟨d, rfl, h3⟩
              have HF := Lib.hid (h3.base HB2.out).2
              clear h3
              go_wp2_with fail
              go_ret
              exact ⟨rfl, HF.out⟩
theorem walk (W : World) (a0 a1 a2 : ByteArray) (v3 : Value) (l : List Int) (w0 : a0.size ≤ maxLen) (w1 : a1.size ≤ maxLen) (w2 : a2.size ≤ maxLen) (w3 : IRow W W.heap.size v3 l ∧ ∀ z ∈ l, -9223372036854775808 ≤ z ∧ z ≤ 9223372036854775807) :
    Calls Try.prog 9 #[.string a0, .string a1, .string a2, v3] W fun e w' => e = .returned (.bool true) ∧ Below W.heap.size W w' := by
  by_cases h : a0.size = 0 ∨ a1.size = 0 ∨ a2.size = 0 ∨ 32 < a0.size ∨ 32 < a1.size ∨ 32 < a2.size ∨ l.length ≠ 3
  · exact outside W a0 a1 a2 v3 l w0 w1 w2 w3.1 h
  · exact walkIn W a0 a1 a2 v3 l w3.1 (by omega) (by omega) (by omega) (by omega) (by omega) (by omega) (by omega)
end Go.Proofs.Ytkhmaaneekdifaa.diskReorders
