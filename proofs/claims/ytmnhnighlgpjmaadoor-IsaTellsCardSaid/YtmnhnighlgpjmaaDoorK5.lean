/-
  The reference of isa: Text.
-/
import Derived.Test.YtmnhnighlgpjmaaDoorK2
import Derived.Test.YtmnhnighlgpjmaaDoorIO
namespace Go.Proofs.YtmnhnighlgpjmaaDoor
set_option linter.unusedVariables false
set_option linter.unusedSimpArgs false
open Go.RowKit

/-- The text after k operands. -/
def accS (i : Ins) (k : Nat) : List UInt8 := nameN i.op.toNat ++ (if k = 0 then [] else 32 :: Lib.join ((txts i 4).take k) [44, 32])
theorem txts_fields (i : Ins) : txts i 4 = (fields (opsN i.op.toNat)).map fun f => txtO f (fldN i f) := rfl
theorem opdL_fields (o : Nat) : opdL o = (fields (opsN o)).map (· + 1) := rfl
theorem fields_le (m : Nat) : (fields m).length ≤ 4 := by
  unfold fields
  exact Nat.le_trans (List.length_filter_le _ _) (by simp)
theorem fields_lt {m f : Nat} (h : f ∈ fields m) : f < 4 ∧ hasB m f = true := by
  unfold fields at h
  rw [List.mem_filter, List.mem_range] at h
  exact h
theorem join_snoc {R : List (List UInt8)} {x : List UInt8} (sep : List UInt8) (h : R ≠ []) : Lib.join (R ++ [x]) sep = Lib.join R sep ++ sep ++ x := by
  induction R with
  | nil => exact absurd rfl h
  | cons y R ih =>
    cases R with
    | nil => rw [List.singleton_append, join_two, Lib.join_one, Lib.join_one]
    | cons z R =>
      rw [List.cons_append, List.cons_append, join_two, join_two, ← List.cons_append, ih (by simp)]
      simp [List.append_assoc]
theorem accS_next {i : Ins} {k f : Nat} (hk : k < (fields (opsN i.op.toNat)).length) (hf : (fields (opsN i.op.toNat))[k] = f) :
    accS i (k + 1) = accS i k ++ (if k = 0 then [32] else [44, 32]) ++ txtO f (fldN i f) := by
  have hT : (txts i 4).take (k + 1) = (txts i 4).take k ++ [txtO f (fldN i f)] := by
    rw [txts_fields, List.take_succ_eq_append_getElem (by rw [List.length_map]; exact hk), List.getElem_map, hf]
  unfold accS
  rw [if_neg (by omega), hT]
  by_cases h0 : k = 0
  · subst h0
    rw [if_pos rfl, if_pos rfl, List.take_zero, List.nil_append, Lib.join_one]
    simp
  · rw [if_neg h0, if_neg h0, join_snoc _ (by
      intro e
      have hl : ((txts i 4).take k).length = k := by rw [List.length_take, txts_fields, List.length_map]; omega
      rw [e] at hl
      exact h0 hl.symm)]
    simp [List.append_assoc]
theorem accS_all {i : Ins} (h : rightB i = true) : accS i (fields (opsN i.op.toNat)).length = textL i := by
  unfold accS textL
  rw [h, if_pos rfl]
  have hl : (txts i 4).length = (fields (opsN i.op.toNat)).length := by rw [txts_fields, List.length_map]
  by_cases h0 : txts i 4 = []
  · rw [if_pos h0, if_pos (by rw [← hl, h0]; rfl), List.append_nil]
  · rw [if_neg h0, if_neg (by rw [← hl]; intro e; exact h0 (List.eq_nil_of_length_eq_zero e)), List.take_of_length_le (by omega)]
    simp
theorem accS_len {i : Ins} (hb : ∀ f, f < 4 → -2147483648 ≤ fldN i f ∧ fldN i f ≤ 2147483647) (k : Nat) : (accS i k).length ≤ 200 := by
  have hn : ∀ o, (nameN o).length ≤ 10 := by
    intro o
    by_cases h : o < 31
    · have : ∀ o, o < 31 → (nameN o).length ≤ 10 := by decide +kernel
      exact this o h
    · unfold nameN; rw [List.getD_eq_getElem?_getD, List.getElem?_eq_none (by simp [nameL]; omega)]; simp
  have h1 := hn i.op.toNat
  have h2 : (Lib.join ((txts i 4).take k) [44, 32]).length ≤ ((txts i 4).take k).length * (21 + 2) := by
    refine join_len [44, 32] 21 _ fun x hx => ?_
    have hx2 := List.mem_of_mem_take hx
    rw [txts_fields, List.mem_map] at hx2
    obtain ⟨f, hf, rfl⟩ := hx2
    have hf4 := (fields_lt hf).1
    have := hb f hf4
    have h3 := itoa_len (fldN i f) (by omega) (by omega)
    unfold txtO
    split
    · omega
    · simp; omega
  have h4 : ((txts i 4).take k).length ≤ 4 := by
    rw [List.length_take, txts_fields, List.length_map]
    have := fields_le (opsN i.op.toNat)
    omega
  unfold accS
  rw [List.length_append]
  split
  · simp; omega
  · rw [List.length_cons]
    have h5 := Nat.mul_le_mul_right (21 + 2) h4
    omega
theorem right_bd {i : Ins} (h : rightB i = true) : ∀ f, f < 4 → -2147483648 ≤ fldN i f ∧ fldN i f ≤ 2147483647 := by
  intro f hf
  by_cases h3 : f < 3
  · have := right_reg h f h3
    omega
  · obtain rfl : f = 3 := by omega
    exact right_imm h
def TextPost (l : List UInt8) (w : World) (e : Ending) (w' : World) : Prop := e = .returned (.string (arr l)) ∧ Below w.heap.size w w'
def RTxRel (i : Ins) (n q : Nat) (vl : Value) (w : World) (s x : Value) (wl : World) : Prop :=
  ∃ k : Nat, k ≤ q ∧ x = .int .i64 k ∧ s = .string (arr (accS i k)) ∧ wl.heap[w.heap.size]? = some (.cells #[.int .i64 i.op, .int .i64 i.a, .int .i64 i.b, .int .i64 i.c, .int .i64 i.m] 23) ∧ IRow wl vl (opdL n) ∧ Below w.heap.size w wl
theorem rTextNoP (o a b c m : Int) (w : World) (h : rightB ⟨o, a, b, c, m⟩ = false) :
    Calls Tryd.prog 14 #[.agg #[.int .i64 o, .int .i64 a, .int .i64 b, .int .i64 c, .int .i64 m]] w (TextPost (textL ⟨o, a, b, c, m⟩) w) := by
  have HF : Hid (∀ W, Below w.heap.size w W → TextPost (textL ⟨o, a, b, c, m⟩) w (.returned (.string ⟨#[]⟩)) W) := Lib.hid (fun W hb => ⟨by unfold textL; rw [h]; rfl, hb⟩)
  have HB0 := Lib.hid (below_new w (.cells #[.int .i64 o, .int .i64 a, .int .i64 b, .int .i64 c, .int .i64 m] 23))
  have HR := Lib.hid (rRightP o a b c m (w.alloc (.cells #[.int .i64 o, .int .i64 a, .int .i64 b, .int .i64 c, .int .i64 m] 23)))
  rw [h] at HR
  clear h
  go_enter Tryd.func14, Tryd.ntmps14
  go_wp2_with fail
  refine HR.out.mono ?_; rintro e w2 ⟨rfl, hb⟩
  have HB := Lib.hid hb; clear hb
  go_wp2_with fail
  go_ret
  exact HF.out _ (HB0.out.trans (HB.out.mono (by simp)))
theorem IRow.at {w : World} {A : Option Addr} {n cap : Nat} {l : List Nat} (h : IRow w (.slice A n cap) l) (k : Nat) (hk : k < l.length) : ∃ g, A = some ⟨g, 0, none⟩ ∧ g < w.heap.size ∧ w.cell? ⟨g, k, none⟩ = some (.int .i64 (l[k] : Nat)) := by
  obtain ⟨A2, cap2, hv, _, _, hA⟩ := h
  injection hv with h1 _ _
  subst h1
  obtain ⟨g, hg, hl, hc⟩ := hA (by omega)
  exact ⟨g, hg, hl, hc k hk⟩
set_option maxRecDepth 100000 in
set_option maxHeartbeats 16000000 in
theorem rTextYesP (n : Nat) (a b c m : Int) (w : World) (h : rightB ⟨(n : Nat), a, b, c, m⟩ = true) :
    Calls Tryd.prog 14 #[.agg #[.int .i64 n, .int .i64 a, .int .i64 b, .int .i64 c, .int .i64 m]] w (TextPost (textL ⟨(n : Nat), a, b, c, m⟩) w) := by
  have ho := right_op h
  have h1 : 1 ≤ n := by simp only at ho; omega
  have h2 : n ≤ 30 := by simp only at ho; omega
  have HF : Hid (∀ W, Below w.heap.size w W → TextPost (textL ⟨(n : Nat), a, b, c, m⟩) w (.returned (.string (arr (textL ⟨(n : Nat), a, b, c, m⟩)))) W) := Lib.hid (fun W hb => ⟨rfl, hb⟩)
  have hal := accS_all h
  rw [show (⟨(n : Nat), a, b, c, m⟩ : Ins).op.toNat = n from rfl] at hal
  have HAL := Lib.hid hal
  have HBD := Lib.hid (right_bd h)
  have HLEN := Lib.hid (accS_len (i := ⟨(n : Nat), a, b, c, m⟩) (right_bd h))
  have HB0 := Lib.hid (below_new w (.cells #[.int .i64 n, .int .i64 a, .int .i64 b, .int .i64 c, .int .i64 m] 23))
  have P0 := Lib.hid (block_new w (.cells #[.int .i64 n, .int .i64 a, .int .i64 b, .int .i64 c, .int .i64 m] 23))
  have HR := Lib.hid (rRightP (n : Nat) a b c m (w.alloc (.cells #[.int .i64 n, .int .i64 a, .int .i64 b, .int .i64 c, .int .i64 m] 23)))
  rw [h] at HR
  have HNM := Lib.hid (fun W => rNameP n W (by omega))
  have HOP := Lib.hid (fun W => operandsP n W h1 h2)
  have HA0 : Hid (arr (nameN n) = arr (accS ⟨(n : Nat), a, b, c, m⟩ 0)) := Lib.hid (by unfold accS; rw [if_pos rfl, List.append_nil]; rfl)
  obtain ⟨nm, hnm⟩ : ∃ x, arr (nameN n) = x := ⟨_, rfl⟩
  rw [hnm] at HNM HA0
  clear h ho h1 h2 hnm hal
  go_enter Tryd.func14, Tryd.ntmps14
  go_wp2_with fail
  refine HR.out.mono ?_; rintro e w1 ⟨rfl, hb⟩
  have B1 := Lib.hid (HB0.out.trans (hb.mono HB0.out.size))
  have P1 := Lib.hid (blkKeep P0.out hb)
  have p0 : w1.cell? ⟨w.heap.size, 0, none⟩ = some (.int .i64 n) := blk_cell P1.out 0
  clear hb HR
  go_wp2_with fail
  refine (HNM.out _).mono ?_; rintro e w2 ⟨rfl, hb⟩
  have B2 := Lib.hid (B1.out.trans (hb.mono B1.out.size))
  have P2 := Lib.hid (blkKeep P1.out hb)
  have p0 : w2.cell? ⟨w.heap.size, 0, none⟩ = some (.int .i64 n) := blk_cell P2.out 0
  clear hb HNM
  go_wp2_with fail
  refine (HOP.out _).mono ?_; rintro e w3 ⟨vl, rfl, hrow, hb⟩
  have B3 := Lib.hid (B2.out.trans (hb.mono B2.out.size))
  have P3 := Lib.hid (blkKeep P2.out hb)
  obtain ⟨vA, vcap, hv, _⟩ := id hrow
  subst hv
  have hol : (opdL n).length = (fields (opsN n)).length := by rw [opdL_fields, List.length_map]
  have hq4 := fields_le (opsN n)
  obtain ⟨q, hq⟩ : ∃ q, (fields (opsN n)).length = q := ⟨_, rfl⟩
  rw [hq] at hol hq4 HAL
  rw [hol] at hrow ⊢
  have HOL := Lib.hid hol
  have HQ := Lib.hid hq
  have R3 := Lib.hid hrow
  clear hb hrow HOP hol hq
  go_wp2_with fail
  go_loopw [3, 5] (fun s x wl => RTxRel ⟨(n : Nat), a, b, c, m⟩ n q (.slice vA q vcap) w s x wl) (fun _ x _ => 6 - (intOf x).toNat)
  case atStart => exact ⟨0, by omega, rfl, by rw [HA0.out], P3.out, R3.out, B3.out⟩
  case round =>
    clear B3 P3 R3 p0 HA0
    obtain ⟨k, hk, rfl, rfl, hp, hrow, hb⟩ := hrel
    have HP4 := Lib.hid hp
    have HR4 := Lib.hid hrow
    have HB4 := Lib.hid hb
    have hs0 := HLEN.out k
    clear hp hrow hb
    by_cases hlt : k < q
    · have hkf : k < (fields (opsN n)).length := by rw [HQ.out]; exact hlt
      obtain ⟨f, hf⟩ : ∃ f, (fields (opsN n))[k] = f := ⟨_, rfl⟩
      have hfm := fields_lt (by rw [← hf]; exact List.getElem_mem hkf : f ∈ fields (opsN n))
      have HNX := Lib.hid (accS_next (i := ⟨(n : Nat), a, b, c, m⟩) hkf hf)
      obtain ⟨g, hg, hgs, c1⟩ := HR4.out.at k (by rw [HOL.out]; exact hlt)
      subst hg
      have hkx : (opdL n)[k]'(by rw [HOL.out]; exact hlt) = f + 1 := by simp only [opdL_fields, List.getElem_map, hf]
      rw [hkx] at c1
      obtain ⟨K, hK⟩ : ∃ K, f + 1 = K := ⟨_, rfl⟩
      rw [hK] at c1
      have hK1 : 1 ≤ K ∧ K ≤ 4 := by have := hfm.1; omega
      have HG := Lib.hid (fun W => rGetP (n : Nat) a b c m K W hK1)
      rw [show K - 1 = f by omega] at HG
      have hzb := HBD.out f hfm.1
      obtain ⟨z, hz⟩ : ∃ z, fldN ⟨(n : Nat), a, b, c, m⟩ f = z := ⟨_, rfl⟩
      rw [hz] at HG hzb HNX
      have HD := Lib.hid (fun W => rDigP z W hzb.1 hzb.2)
      have hil := itoa_len z (by omega) (by omega)
      obtain ⟨it, hit⟩ : ∃ it, Lib.itoa z = it := ⟨_, rfl⟩
      have HIT := Lib.hid hit
      rw [hit] at HD hil
      have HSX : Hid ((wr.cell? ⟨w.heap.size, 0, none⟩ = some (.int .i64 n) ∧ wr.cell? ⟨w.heap.size, 1, none⟩ = some (.int .i64 a) ∧ wr.cell? ⟨w.heap.size, 2, none⟩ = some (.int .i64 b) ∧ wr.cell? ⟨w.heap.size, 3, none⟩ = some (.int .i64 c) ∧ wr.cell? ⟨w.heap.size, 4, none⟩ = some (.int .i64 m)) ∧ wr.cell? ⟨g, k, none⟩ = some (.int .i64 K)) := Lib.hid ⟨⟨blk_cell HP4.out 0, blk_cell HP4.out 1, blk_cell HP4.out 2, blk_cell HP4.out 3, blk_cell HP4.out 4⟩, c1⟩
      have hki : (k : Int) < q := by omega
      obtain ⟨s0, hs⟩ : ∃ s, arr (accS ⟨(n : Nat), a, b, c, m⟩ k) = s := ⟨_, rfl⟩
      have hs0 : s0.size ≤ 200 := by rw [← hs]; exact hs0
      have HS0 := Lib.hid hs
      rw [hs]
      have HFK := Lib.hid hK
      clear hs hit hz hfm hf hK hkx hzb hgs
      by_cases hk0 : k = 0
      · have hk0' : ((k : Int) == 0) = true := by rw [hk0]; rfl
        have HK0 : Hid ((if k = 0 then ([32] : List UInt8) else [44, 32]) = [32]) := Lib.hid (if_pos hk0)
        clear hk0
        by_cases hK4 : K = 4
        · have d4 : decide ((K : Int) < 4) = false := decide_eq_false (by omega)
          have d4' : decide (K < 4) = false := decide_eq_false (by omega)
          have HF3 : Hid (f = 3) := Lib.hid (by have := HFK.out; omega)
          clear hK4
          have hadd1 := fun w => run_string_add_sum (P := Tryd.prog) (w := w) s0 ⟨#[32]⟩ (by show _ + 1 ≤ _; omega)
          obtain ⟨t1, ht1⟩ : ∃ t, s0 ++ (⟨#[32]⟩ : ByteArray) = t := ⟨_, rfl⟩
          have ht1s : t1.size = s0.size + 1 := by rw [← ht1, ByteArray.size_append]; rfl
          rw [ht1] at hadd1
          have HT1 := Lib.hid ht1
          clear ht1
          obtain ⟨t2, ht2⟩ : ∃ t2, t2 = t1 := ⟨_, rfl⟩
          have HT2 := Lib.hid ht2
          subst ht2
          have ht2s : t2.size ≤ s0.size + 2 := by omega
          have hadd3 := fun w => run_string_add_sum (P := Tryd.prog) (w := w) t2 (arr it) (by rw [arr_size]; omega)
          have HS : Hid (t2 ++ arr it = arr (accS ⟨(n : Nat), a, b, c, m⟩ (k + 1))) := Lib.hid (by
            rw [HNX.out, ← HT1.out, ← HS0.out]
            apply W1.ba_ext
            simp [arr, txtO, HK0.out, HF3.out, HIT.out])
          obtain ⟨si, hsi⟩ : ∃ s, arr it = s := ⟨_, rfl⟩
          rw [hsi] at hadd3 HS
          have HD2 : Hid (∀ W : World, Calls Tryd.prog 37 #[.int .i64 z] W fun e w' => e = .returned (.string si) ∧ Below W.heap.size W w') := Lib.hid (fun W => by rw [← hsi]; exact HD.out W)
          clear hsi HD hs0 ht1s ht2s
          go_wp2_with fail
          go_region_held3 (fun W' => (W'.cell? ⟨w.heap.size, 0, none⟩ = some (.int .i64 n) ∧ W'.cell? ⟨w.heap.size, 1, none⟩ = some (.int .i64 a) ∧ W'.cell? ⟨w.heap.size, 2, none⟩ = some (.int .i64 b) ∧ W'.cell? ⟨w.heap.size, 3, none⟩ = some (.int .i64 c) ∧ W'.cell? ⟨w.heap.size, 4, none⟩ = some (.int .i64 m)) ∧ W'.cell? ⟨g, k, none⟩ = some (.int .i64 K))
            (first | exact HSX.out | exact ⟨⟨keep_below HBx.out HSX.out.1.1, keep_below HBx.out HSX.out.1.2.1, keep_below HBx.out HSX.out.1.2.2.1, keep_below HBx.out HSX.out.1.2.2.2.1, keep_below HBx.out HSX.out.1.2.2.2.2⟩, keep_below HBx.out HSX.out.2⟩ | exact ⟨⟨keep_below HBy.out HSX.out.1.1, keep_below HBy.out HSX.out.1.2.1, keep_below HBy.out HSX.out.1.2.2.1, keep_below HBy.out HSX.out.1.2.2.2.1, keep_below HBy.out HSX.out.1.2.2.2.2⟩, keep_below HBy.out HSX.out.2⟩ | fail)
            (first
              | (go_at_call 32; (with_reducible refine (HG.out _).mono ?_); rintro e w5 ⟨rfl, hb⟩; have HBx := Lib.hid hb; clear hb)
              | (go_at_call 37; (with_reducible refine (HD2.out _).mono ?_); rintro e w6 ⟨rfl, hb⟩; have HBy := Lib.hid ((Below.refl _ _).drew.trans (HBx.out.trans (hb.mono HBx.out.size))); clear hb))
          go_wp2_with fail
          go_roundw
          case rel => exact ⟨k + 1, by omega, by go_num, by rw [HS.out], blkKeep HP4.out HBy.out, HR4.out.keep HBy.out, HB4.out.trans (HBy.out.mono HB4.out.size)⟩
          case measure => simp [intOf]; omega
        · have d4 : decide ((K : Int) < 4) = true := decide_eq_true (by omega)
          have d4' : decide (K < 4) = true := decide_eq_true (by omega)
          have HF3 : Hid (¬ f = 3) := Lib.hid (by have := HFK.out; omega)
          clear hK4
          have hadd1 := fun w => run_string_add_sum (P := Tryd.prog) (w := w) s0 ⟨#[32]⟩ (by show _ + 1 ≤ _; omega)
          obtain ⟨t1, ht1⟩ : ∃ t, s0 ++ (⟨#[32]⟩ : ByteArray) = t := ⟨_, rfl⟩
          have ht1s : t1.size = s0.size + 1 := by rw [← ht1, ByteArray.size_append]; rfl
          rw [ht1] at hadd1
          have HT1 := Lib.hid ht1
          clear ht1
          have hadd2 := fun w => run_string_add_sum (P := Tryd.prog) (w := w) t1 ⟨#[114]⟩ (by show _ + 1 ≤ _; omega)
          obtain ⟨t2, ht2⟩ : ∃ t, t1 ++ (⟨#[114]⟩ : ByteArray) = t := ⟨_, rfl⟩
          have ht2s : t2.size = t1.size + 1 := by rw [← ht2, ByteArray.size_append]; rfl
          rw [ht2] at hadd2
          have HT2 := Lib.hid ht2
          clear ht2
          have hadd3 := fun w => run_string_add_sum (P := Tryd.prog) (w := w) t2 (arr it) (by rw [arr_size]; omega)
          have HS : Hid (t2 ++ arr it = arr (accS ⟨(n : Nat), a, b, c, m⟩ (k + 1))) := Lib.hid (by
            rw [HNX.out, ← HT2.out, ← HT1.out, ← HS0.out]
            apply W1.ba_ext
            simp [arr, txtO, HK0.out, HF3.out, HIT.out])
          obtain ⟨si, hsi⟩ : ∃ s, arr it = s := ⟨_, rfl⟩
          rw [hsi] at hadd3 HS
          have HD2 : Hid (∀ W : World, Calls Tryd.prog 37 #[.int .i64 z] W fun e w' => e = .returned (.string si) ∧ Below W.heap.size W w') := Lib.hid (fun W => by rw [← hsi]; exact HD.out W)
          clear hsi HD hs0 ht1s ht2s
          go_wp2_with fail
          go_region_held3 (fun W' => (W'.cell? ⟨w.heap.size, 0, none⟩ = some (.int .i64 n) ∧ W'.cell? ⟨w.heap.size, 1, none⟩ = some (.int .i64 a) ∧ W'.cell? ⟨w.heap.size, 2, none⟩ = some (.int .i64 b) ∧ W'.cell? ⟨w.heap.size, 3, none⟩ = some (.int .i64 c) ∧ W'.cell? ⟨w.heap.size, 4, none⟩ = some (.int .i64 m)) ∧ W'.cell? ⟨g, k, none⟩ = some (.int .i64 K))
            (first | exact HSX.out | exact ⟨⟨keep_below HBx.out HSX.out.1.1, keep_below HBx.out HSX.out.1.2.1, keep_below HBx.out HSX.out.1.2.2.1, keep_below HBx.out HSX.out.1.2.2.2.1, keep_below HBx.out HSX.out.1.2.2.2.2⟩, keep_below HBx.out HSX.out.2⟩ | exact ⟨⟨keep_below HBy.out HSX.out.1.1, keep_below HBy.out HSX.out.1.2.1, keep_below HBy.out HSX.out.1.2.2.1, keep_below HBy.out HSX.out.1.2.2.2.1, keep_below HBy.out HSX.out.1.2.2.2.2⟩, keep_below HBy.out HSX.out.2⟩ | fail)
            (first
              | (go_at_call 32; (with_reducible refine (HG.out _).mono ?_); rintro e w5 ⟨rfl, hb⟩; have HBx := Lib.hid hb; clear hb)
              | (go_at_call 37; (with_reducible refine (HD2.out _).mono ?_); rintro e w6 ⟨rfl, hb⟩; have HBy := Lib.hid ((Below.refl _ _).drew.trans (HBx.out.trans (hb.mono HBx.out.size))); clear hb))
          go_wp2_with fail
          go_roundw
          case rel => exact ⟨k + 1, by omega, by go_num, by rw [HS.out], blkKeep HP4.out HBy.out, HR4.out.keep HBy.out, HB4.out.trans (HBy.out.mono HB4.out.size)⟩
          case measure => simp [intOf]; omega
      · have hk0' : ((k : Int) == 0) = false := by rw [beq_eq_false_iff_ne]; omega
        have HK0 : Hid ((if k = 0 then ([32] : List UInt8) else [44, 32]) = [44, 32]) := Lib.hid (if_neg hk0)
        clear hk0
        by_cases hK4 : K = 4
        · have d4 : decide ((K : Int) < 4) = false := decide_eq_false (by omega)
          have d4' : decide (K < 4) = false := decide_eq_false (by omega)
          have HF3 : Hid (f = 3) := Lib.hid (by have := HFK.out; omega)
          clear hK4
          have hadd1 := fun w => run_string_add_sum (P := Tryd.prog) (w := w) s0 ⟨#[44, 32]⟩ (by show _ + 2 ≤ _; omega)
          obtain ⟨t1, ht1⟩ : ∃ t, s0 ++ (⟨#[44, 32]⟩ : ByteArray) = t := ⟨_, rfl⟩
          have ht1s : t1.size = s0.size + 2 := by rw [← ht1, ByteArray.size_append]; rfl
          rw [ht1] at hadd1
          have HT1 := Lib.hid ht1
          clear ht1
          obtain ⟨t2, ht2⟩ : ∃ t2, t2 = t1 := ⟨_, rfl⟩
          have HT2 := Lib.hid ht2
          subst ht2
          have ht2s : t2.size ≤ s0.size + 2 := by omega
          have hadd3 := fun w => run_string_add_sum (P := Tryd.prog) (w := w) t2 (arr it) (by rw [arr_size]; omega)
          have HS : Hid (t2 ++ arr it = arr (accS ⟨(n : Nat), a, b, c, m⟩ (k + 1))) := Lib.hid (by
            rw [HNX.out, ← HT1.out, ← HS0.out]
            apply W1.ba_ext
            simp [arr, txtO, HK0.out, HF3.out, HIT.out])
          obtain ⟨si, hsi⟩ : ∃ s, arr it = s := ⟨_, rfl⟩
          rw [hsi] at hadd3 HS
          have HD2 : Hid (∀ W : World, Calls Tryd.prog 37 #[.int .i64 z] W fun e w' => e = .returned (.string si) ∧ Below W.heap.size W w') := Lib.hid (fun W => by rw [← hsi]; exact HD.out W)
          clear hsi HD hs0 ht1s ht2s
          go_wp2_with fail
          go_region_held3 (fun W' => (W'.cell? ⟨w.heap.size, 0, none⟩ = some (.int .i64 n) ∧ W'.cell? ⟨w.heap.size, 1, none⟩ = some (.int .i64 a) ∧ W'.cell? ⟨w.heap.size, 2, none⟩ = some (.int .i64 b) ∧ W'.cell? ⟨w.heap.size, 3, none⟩ = some (.int .i64 c) ∧ W'.cell? ⟨w.heap.size, 4, none⟩ = some (.int .i64 m)) ∧ W'.cell? ⟨g, k, none⟩ = some (.int .i64 K))
            (first | exact HSX.out | exact ⟨⟨keep_below HBx.out HSX.out.1.1, keep_below HBx.out HSX.out.1.2.1, keep_below HBx.out HSX.out.1.2.2.1, keep_below HBx.out HSX.out.1.2.2.2.1, keep_below HBx.out HSX.out.1.2.2.2.2⟩, keep_below HBx.out HSX.out.2⟩ | exact ⟨⟨keep_below HBy.out HSX.out.1.1, keep_below HBy.out HSX.out.1.2.1, keep_below HBy.out HSX.out.1.2.2.1, keep_below HBy.out HSX.out.1.2.2.2.1, keep_below HBy.out HSX.out.1.2.2.2.2⟩, keep_below HBy.out HSX.out.2⟩ | fail)
            (first
              | (go_at_call 32; (with_reducible refine (HG.out _).mono ?_); rintro e w5 ⟨rfl, hb⟩; have HBx := Lib.hid hb; clear hb)
              | (go_at_call 37; (with_reducible refine (HD2.out _).mono ?_); rintro e w6 ⟨rfl, hb⟩; have HBy := Lib.hid ((Below.refl _ _).drew.trans (HBx.out.trans (hb.mono HBx.out.size))); clear hb))
          go_wp2_with fail
          go_roundw
          case rel => exact ⟨k + 1, by omega, by go_num, by rw [HS.out], blkKeep HP4.out HBy.out, HR4.out.keep HBy.out, HB4.out.trans (HBy.out.mono HB4.out.size)⟩
          case measure => simp [intOf]; omega
        · have d4 : decide ((K : Int) < 4) = true := decide_eq_true (by omega)
          have d4' : decide (K < 4) = true := decide_eq_true (by omega)
          have HF3 : Hid (¬ f = 3) := Lib.hid (by have := HFK.out; omega)
          clear hK4
          have hadd1 := fun w => run_string_add_sum (P := Tryd.prog) (w := w) s0 ⟨#[44, 32]⟩ (by show _ + 2 ≤ _; omega)
          obtain ⟨t1, ht1⟩ : ∃ t, s0 ++ (⟨#[44, 32]⟩ : ByteArray) = t := ⟨_, rfl⟩
          have ht1s : t1.size = s0.size + 2 := by rw [← ht1, ByteArray.size_append]; rfl
          rw [ht1] at hadd1
          have HT1 := Lib.hid ht1
          clear ht1
          have hadd2 := fun w => run_string_add_sum (P := Tryd.prog) (w := w) t1 ⟨#[114]⟩ (by show _ + 1 ≤ _; omega)
          obtain ⟨t2, ht2⟩ : ∃ t, t1 ++ (⟨#[114]⟩ : ByteArray) = t := ⟨_, rfl⟩
          have ht2s : t2.size = t1.size + 1 := by rw [← ht2, ByteArray.size_append]; rfl
          rw [ht2] at hadd2
          have HT2 := Lib.hid ht2
          clear ht2
          have hadd3 := fun w => run_string_add_sum (P := Tryd.prog) (w := w) t2 (arr it) (by rw [arr_size]; omega)
          have HS : Hid (t2 ++ arr it = arr (accS ⟨(n : Nat), a, b, c, m⟩ (k + 1))) := Lib.hid (by
            rw [HNX.out, ← HT2.out, ← HT1.out, ← HS0.out]
            apply W1.ba_ext
            simp [arr, txtO, HK0.out, HF3.out, HIT.out])
          obtain ⟨si, hsi⟩ : ∃ s, arr it = s := ⟨_, rfl⟩
          rw [hsi] at hadd3 HS
          have HD2 : Hid (∀ W : World, Calls Tryd.prog 37 #[.int .i64 z] W fun e w' => e = .returned (.string si) ∧ Below W.heap.size W w') := Lib.hid (fun W => by rw [← hsi]; exact HD.out W)
          clear hsi HD hs0 ht1s ht2s
          go_wp2_with fail
          go_region_held3 (fun W' => (W'.cell? ⟨w.heap.size, 0, none⟩ = some (.int .i64 n) ∧ W'.cell? ⟨w.heap.size, 1, none⟩ = some (.int .i64 a) ∧ W'.cell? ⟨w.heap.size, 2, none⟩ = some (.int .i64 b) ∧ W'.cell? ⟨w.heap.size, 3, none⟩ = some (.int .i64 c) ∧ W'.cell? ⟨w.heap.size, 4, none⟩ = some (.int .i64 m)) ∧ W'.cell? ⟨g, k, none⟩ = some (.int .i64 K))
            (first | exact HSX.out | exact ⟨⟨keep_below HBx.out HSX.out.1.1, keep_below HBx.out HSX.out.1.2.1, keep_below HBx.out HSX.out.1.2.2.1, keep_below HBx.out HSX.out.1.2.2.2.1, keep_below HBx.out HSX.out.1.2.2.2.2⟩, keep_below HBx.out HSX.out.2⟩ | exact ⟨⟨keep_below HBy.out HSX.out.1.1, keep_below HBy.out HSX.out.1.2.1, keep_below HBy.out HSX.out.1.2.2.1, keep_below HBy.out HSX.out.1.2.2.2.1, keep_below HBy.out HSX.out.1.2.2.2.2⟩, keep_below HBy.out HSX.out.2⟩ | fail)
            (first
              | (go_at_call 32; (with_reducible refine (HG.out _).mono ?_); rintro e w5 ⟨rfl, hb⟩; have HBx := Lib.hid hb; clear hb)
              | (go_at_call 37; (with_reducible refine (HD2.out _).mono ?_); rintro e w6 ⟨rfl, hb⟩; have HBy := Lib.hid ((Below.refl _ _).drew.trans (HBx.out.trans (hb.mono HBx.out.size))); clear hb))
          go_wp2_with fail
          go_roundw
          case rel => exact ⟨k + 1, by omega, by go_num, by rw [HS.out], blkKeep HP4.out HBy.out, HR4.out.keep HBy.out, HB4.out.trans (HBy.out.mono HB4.out.size)⟩
          case measure => simp [intOf]; omega
    · obtain rfl : q = k := by omega
      have HG := Lib.hid (HF.out wr HB4.out)
      rw [HAL.out]
      go_wp2_with fail
      go_ret
      exact HG.out
end Go.Proofs.YtmnhnighlgpjmaaDoor
