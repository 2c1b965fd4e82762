/-
  Layer 6: Size, bytes.
-/
import Derived.Test.YtlphblnnloigiaaDf3
import Derived.Lib.BufferWrite
import Derived.Laws.IdiomStrings
namespace Go.Proofs.Ytlphblnnloigiaa
set_option linter.unusedVariables false
set_option linter.unusedSimpArgs false
open Go.RowKit

def szL (n : Nat) (l : List Pc) (f : Nat) : Nat := l.foldl (fun n p => if p.f = f then max n (p.a + p.t.size) else n) n
theorem fileL_size (d : List UInt8) (l : List Pc) (f : Nat) : (fileL d l f).length = szL d.length l f := by
  induction l generalizing d with
  | nil => rfl
  | cons p l ih =>
    rw [fileL_cons, ih]
    unfold szL
    rw [List.foldl_cons]
    by_cases h : p.f = f
    · rw [if_pos h, if_pos h, pput_length, Pc.l_length]
    · rw [if_neg h, if_neg h]
theorem take_gp (l : List Pc) (k : Nat) (h : k < l.length) : l.take (k + 1) = l.take k ++ [gp l k] := by
  rw [gp_get l k h, List.take_succ_eq_append_getElem h]
theorem szL_snoc (n : Nat) (l : List Pc) (f k : Nat) (h : k < l.length) : szL n (l.take (k + 1)) f = if (gp l k).f = f then max (szL n (l.take k) f) ((gp l k).a + (gp l k).t.size) else szL n (l.take k) f := by
  rw [take_gp l k h]; simp [szL]
theorem szL_le (n : Nat) (l : List Pc) (f m : Nat) (hn : n ≤ m) (h : ∀ p ∈ l, p.a + p.t.size ≤ m) : szL n l f ≤ m := by
  induction l generalizing n with
  | nil => exact hn
  | cons p l ih =>
    unfold szL
    rw [List.foldl_cons]
    refine ih _ ?_ (fun q hq => h q (by simp [hq]))
    have := h p (by simp)
    split <;> omega

set_option maxRecDepth 100000 in
set_option maxHeartbeats 2000000 in
theorem sizeP {B : Nat → Prop} {w : World} {db : Nat} {s : Dk} (h : DiskAt B w db s) (f : Int) :
    Calls Try.prog 16 #[.pointer (some ⟨db, 0, none⟩), .int .i64 f] w fun e w' => e = .returned (.int .i64 (s.size f)) ∧ Below w.heap.size w w' := by
  have HI := Lib.hid (isFileP f w)
  have HZ : Hid (s.size f = if 0 ≤ f ∧ f < 8 then (s.bytes f.toNat).size else 0) := rfl
  generalize s.size f = Z at *
  by_cases hF : 0 ≤ f ∧ f < 8
  · have hb1 : isF f = true := by simp [isF, hF]
    rw [hb1] at HI
    obtain ⟨F, rfl⟩ : ∃ F : Nat, f = F := ⟨f.toNat, by omega⟩
    have hF8 : F < 8 := by omega
    have HZ2 : Hid (Z = szL (s.d F).size s.pend F) := by
      show _ = _
      rw [HZ.out, if_pos hF]
      show (s.bytes F).size = _
      rw [Dk.bytes, bs_size, fileL_size, dl_len]
    clear HZ
    have hps := h.ok.ps
    have hdl := h.ok.d_le F
    have hpn := h.ok.pn
    have cf := h.cells.2.2.2.1 F hF8
    obtain ⟨_, v, u, h, _⟩ := h
    have c8 := h.c_tail.1
    obtain ⟨A, cap, rfl, -, -, -, hA⟩ := h.own.cells
    have HPS := Lib.hid hps
    obtain ⟨l, hl⟩ : ∃ l, s.pend = l := ⟨_, rfl⟩
    obtain ⟨d, hd⟩ : ∃ d, s.d F = d := ⟨_, rfl⟩
    rw [hl] at c8 hA HPS HZ2 hpn
    rw [hd] at cf hdl HZ2
    have q0 : (0 : Int) ≤ (F : Int) := by omega
    have q8 : (F : Int) < 8 := by omega
    clear h hps hl hd hF hb1
    go_enter Try.func16, Try.ntmps16
    go_wp2_with fail
    refine HI.out.mono ?_; rintro e w1 ⟨rfl, rfl⟩
    go_wp2_with fail
    go_loopw [5, 7, 24] (fun z x i wl => ∃ k n : Nat, k ≤ l.length ∧ i = .int .i64 k ∧ z = .int .i64 n ∧ n ≤ 16777216 ∧ Hid (n = szL d.size (l.take k) F) ∧ Below w.heap.size w wl) (fun _ _ i _ => l.length - (intOf i).toNat)
    case atStart => exact ⟨0, d.size, by omega, rfl, rfl, hdl, Lib.hid rfl, Below.refl _ _⟩
    case round =>
      obtain ⟨k, n, hk, rfl, rfl, hn, HN, hB⟩ := hrel
      by_cases hlt : k < l.length
      · obtain ⟨b, rfl, hb, hc⟩ := hA (by omega)
        have c1 := (hB.cell (p := ⟨b, k * 3, none⟩) hb).trans (hc k hlt).1
        have c2 := (hB.cell (p := ⟨b, k * 3 + 1, none⟩) hb).trans (hc k hlt).2.1
        have c3 := (hB.cell (p := ⟨b, k * 3 + 2, none⟩) hb).trans (hc k hlt).2.2
        have HP := HPS.out (gp l k) (by rw [gp_get l k hlt]; exact List.getElem_mem hlt)
        have HSN := Lib.hid (szL_snoc d.size l F k hlt)
        rw [← HN.out] at HSN
        have HSL : Hid (szL d.size (l.take (k + 1)) F ≤ 16777216) := Lib.hid (szL_le _ _ _ _ hdl fun p hp => (HPS.out p (List.mem_of_mem_take hp)).2.1)
        obtain ⟨xf, hxf⟩ : ∃ n, (gp l k).f = n := ⟨_, rfl⟩
        obtain ⟨xa, hxa⟩ : ∃ n, (gp l k).a = n := ⟨_, rfl⟩
        obtain ⟨xt, hxt⟩ : ∃ n, (gp l k).t = n := ⟨_, rfl⟩
        rw [hxf] at c1 HSN
        rw [hxa] at c2 HSN HP
        rw [hxt] at c3 HSN HP
        have p1 := HP.2.1
        have HB2 := Lib.hid (hB.trans ((below_new wr (.cells #[.int .i64 xf, .int .i64 xa, .string xt] 54)).mono hB.size))
        have q1 : (k : Int) < l.length := by omega
        have q2 : (xa : Int) + xt.size ≤ 16777216 := by omega
        clear hA hc hxf hxa hxt HP hB HN
        by_cases hf : xf = F
        · subst hf
          have HM : Hid (max n (xa + xt.size) = szL d.size (l.take (k + 1)) xf) := by show _ = _; rw [HSN.out, if_pos rfl]
          have hcast : max (n : Int) ((xa : Int) + xt.size) = ((max n (xa + xt.size) : Nat) : Int) := by omega
          have hmx : max n (xa + xt.size) ≤ 16777216 := by omega
          have HCA := Lib.hid hcast
          have HMX := Lib.hid hmx
          clear HSN hcast hmx
          go_wp2_with fail
          go_roundw
          case rel => exact ⟨k + 1, max n (xa + xt.size), by omega, by go_num, by first | rfl | (rw [← HCA.out]) | (rw [← HCA.out]; rfl), HMX.out, HM, HB2.out⟩
          case measure => simp [intOf]; omega
        · have hq : ((xf : Int) == (F : Int)) = false := by simp; omega
          have HM : Hid (n = szL d.size (l.take (k + 1)) F) := by show _ = _; rw [HSN.out, if_neg hf]
          have hf2 : ¬ (xf : Int) = (F : Int) := by omega
          clear HSN
          go_wp2_with fail
          go_roundw
          case rel => exact ⟨k + 1, n, by omega, by go_num, rfl, hn, HM, HB2.out⟩
          case measure => simp [intOf]; omega
      · obtain rfl : k = l.length := by omega
        have HF : Hid (n = Z) := by show _ = _; rw [HZ2.out, HN.out, List.take_length]
        clear HN hA
        go_wp2_with fail
        go_ret
        exact ⟨by rw [← HF.out]; rfl, hB⟩
  · have hb1 : isF f = false := by simp only [isF, decide_eq_false_iff_not]; exact hF
    rw [hb1] at HI
    have HR : Hid (Z = 0) := by show _ = _; rw [HZ.out, if_neg hF]
    clear HZ hF hb1 h
    go_enter Try.func16, Try.ntmps16
    go_wp2_with fail
    refine HI.out.mono ?_; rintro e w1 ⟨rfl, rfl⟩
    go_wp2_with fail
    go_ret
    exact ⟨by rw [HR.out]; rfl, Below.refl _ _⟩
end Go.Proofs.Ytlphblnnloigiaa
