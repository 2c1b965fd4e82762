/-
  Layer 6: bytes.
  Layer 6: slices.DeleteFunc of pieces.
  Layer 6: settle.
-/
import Derived.Test.YthdmcjiccbgknaaZFa
import Derived.RegionTactic
import Derived.ChangeAlike
namespace Go.Proofs.Ythdmcjiccbgknaa
set_option linter.unusedVariables false
set_option linter.unusedSimpArgs false
open Go.RowKit

theorem madeCells_one (z : Value) (hz : z.cells = #[z]) (n : Nat) : (madeCells z.cells (n * 1)).toList = List.replicate n z := by
  rw [hz]
  apply List.ext_getElem
  · simp [madeCells]
  · intro i h1 h2
    have : i % 1 = 0 := Nat.mod_one i
    simp [madeCells, this]
theorem mkB_all (n : Nat) (hn : n ≤ 16777216) : ∀ w : World, (Instr.makeSlice 99 (.int .i64 (n : Int)) (.int .i64 (n : Int))).run Try.prog w = .ok (.slice (some ⟨w.heap.size, 0, none⟩) n n) (w.alloc (.cells (cl (List.replicate n 0)).toArray 5)) := by
  obtain ⟨i0, hi, hz0, hz1, hz2⟩ := info_parts info5
  intro w
  have hr := run_makeSlice (P := Try.prog) w 99 5 i0 (.int .u8 0) Try.underlying99 hi hz0 .i64 .i64 n n (by omega) (by omega) (by rw [hz1]; omega) (by rw [hz2]; omega) (by omega)
  rw [hz1] at hr
  simp only [Int.toNat_natCast] at hr
  have e : madeCells (Value.int IntKind.u8 0).cells (n * 1) = (cl (List.replicate n 0)).toArray := by
    refine Array.ext' ?_
    rw [madeCells_one _ rfl n]
    simp [cl]
  rw [e] at hr
  exact hr

/-- A block of bytes. -/
def BlkB (w : World) (g : Nat) (l : List UInt8) : Prop := Blk w g 5 (cl l).toArray
theorem byteCells_cl (l : List UInt8) : Lib.byteCells l = cl l := rfl
theorem run_copyS (w : World) (ty : TypeId) (g o dLen dCap : Nat) (t : ByteArray) (l : List UInt8) (hg : BlkB w g l) (hle : t.size ≤ dLen) (hfit : o + t.size ≤ l.length) :
    ∃ w', (Builtin.copy_ #[99, 9] ty #[.slice (some ⟨g, o, none⟩) dLen dCap, .string t]).run Try.prog w = .ok (goInt t.size) w' ∧ BlkB w' g (spl l o t.data.toList) ∧ w.grownBy w' (some g) := by
  have hsz : (Try.prog.info? 5).map (·.size) = some 1 := by kernel_rfl
  refine ⟨_, Lib.run_copy_row_string (P := Try.prog) w 99 9 ty 5 g o dLen dCap t (cl l).toArray 5 Try.underlying99 hsz hg hle (by simpa [cl] using hfit), ?_, ?_⟩
  · have e : (List.take o (cl l).toArray.toList ++ Lib.byteCells t.data.toList ++ List.drop (o + t.size) (cl l).toArray.toList) = cl (spl l o t.data.toList) := by
      rw [byteCells_cl]
      unfold spl cl
      rw [dl_len]
      simp [List.map_take, List.map_drop]
    rw [e]
    exact setRow_heap w g _ _ _ _ hg
  · exact ⟨rfl, rfl, rfl, by simp [World.setRow], fun k hk hne => setRow_other w g k _ (fun e => hne (by rw [e]))⟩
theorem wp_copyS (w : World) {o : Oper} {a : Act} {K : Act → World → Prop} {Q : Exit → Act → World → Prop} (d s : Operand)
    (ho : o.op = .call { callee := .builtin .copy, args := #[d, s], argTypes := #[99, 9] }) (g off dLen dCap : Nat) (t : ByteArray) (l : List UInt8) (hg : BlkB w g l)
    (hd : a.eval d = .slice (some ⟨g, off, none⟩) dLen dCap) (hs : a.eval s = .string t) (hle : t.size ≤ dLen) (hfit : off + t.size ≤ l.length)
    (h : ∀ w', Hid (BlkB w' g (spl l off t.data.toList)) → w.grownBy w' (some g) → K (a.put o.dst (goInt t.size)) w') : o.wp Try.prog a w K Q := by
  obtain ⟨w', hr, h2, h3⟩ := run_copyS w o.type g off dLen dCap t l hg hle hfit
  unfold Oper.wp execOp
  simp only [ho, resolve, invoke, builtin, Sem.run_bind, Sem.run_pure, Result.andThen_ok, List.map_toArray, List.map_cons, List.map_nil, hd, hs, hr]
  exact h w' h2 h3
theorem wpList_copyS (w : World) {ops : Array Oper} {rest : List Oper} {o : Oper} {a : Act} {Q : Exit → Act → World → Prop} (hgd : o.guard = none) (d s : Operand)
    (ho : o.op = .call { callee := .builtin .copy, args := #[d, s], argTypes := #[99, 9] }) (g off dLen dCap : Nat) (t : ByteArray) (l : List UInt8) (hg : BlkB w g l)
    (hd : a.eval d = .slice (some ⟨g, off, none⟩) dLen dCap) (hs : a.eval s = .string t) (hle : t.size ≤ dLen) (hfit : off + t.size ≤ l.length)
    (h : ∀ w', Hid (BlkB w' g (spl l off t.data.toList)) → w.grownBy w' (some g) → wpList Try.prog ops Q rest (a.put o.dst (goInt t.size)) w') : wpList Try.prog ops Q (o :: rest) a w :=
  wpList_plain hgd fun _ hK => wp_copyS w d s ho g off dLen dCap t l hg hd hs hle hfit fun w' h2 h3 => hK _ _ (h w' h2 h3)
theorem step_copyS {ops : Array Oper} {o : Oper} {a : Act} {w : World} {K : Act → World → Prop} {Q : Exit → Act → World → Prop} {E : Prop} (hgd : o.guard = none) (d s : Operand)
    (ho : o.op = .call { callee := .builtin .copy, args := #[d, s], argTypes := #[99, 9] }) (g off dLen dCap : Nat) (t : ByteArray) (l : List UInt8) (hg : BlkB w g l)
    (hd : a.eval d = .slice (some ⟨g, off, none⟩) dLen dCap) (hs : a.eval s = .string t) (hle : t.size ≤ dLen) (hfit : off + t.size ≤ l.length)
    (h : ∀ w', Hid (BlkB w' g (spl l off t.data.toList)) → w.grownBy w' (some g) → K (a.put o.dst (goInt t.size)) w') :
    if Region.wanted o (yielded ops a.tmps) = true then Oper.wp Try.prog o a w K Q else E := by
  have hw : Region.wanted o (yielded ops a.tmps) = true := by simp [Region.wanted, hgd]
  rw [if_pos hw]
  exact wp_copyS w d s ho g off dLen dCap t l hg hd hs hle hfit h
theorem BlkB.drew {w : World} {g : Nat} {l : List UInt8} (h : BlkB w g l) : BlkB w.drew g l := h

theorem fileL_snoc (d : List UInt8) (l : List Pc) (f k : Nat) (h : k < l.length) : fileL d (l.take (k + 1)) f = if (gp l k).f = f then pput (fileL d (l.take k) f) (gp l k).a (gp l k).l else fileL d (l.take k) f := by
  rw [take_gp l k h, fileL_append, fileL_one]
theorem fileL_take_le (d : List UInt8) (l : List Pc) (f k : Nat) : (fileL d (l.take k) f).length ≤ (fileL d l f).length := by
  conv => rhs; rw [← List.take_append_drop k l, fileL_append]
  exact fileL_mono _ _ _
theorem blkB_conv {w : World} {g n : Nat} {l : List UInt8} (h : BlkB w g l) (hl : l.length = n) : (convert 99 9 (.slice (some ⟨g, 0, none⟩) n n)).run Try.prog w = .ok (.string (bs l)) w := by
  subst hl
  refine run_convert_bytes_back (P := Try.prog) w 99 9 5 ⟨g, 0, none⟩ l.length l Try.underlying99 Try.underlying5 Try.underlying9 fun j hj => ?_
  rw [Addr.add_lit, Nat.zero_add, Blk.cell h]
  simp [cl, hj]
theorem below_copy {w w1 w2 : World} {g : Nat} (h : Below w.heap.size w w1) (hg : w.heap.size ≤ g) (h2 : w1.grownBy w2 (some g)) : Below w.heap.size w w2 := h.trans (Below.of_grown h2 h.size hg)
theorem grown_drew {w w2 : World} {g : Nat} (h : w.drew.grownBy w2 (some g)) : w.grownBy w2 (some g) := ⟨h.os, h.tape, h.output, h.size, h.block⟩

def BytRel (w : World) (g n : Nat) (D : List UInt8) (l : List Pc) (F : Nat) (i : Value) (wl : World) : Prop := ∃ k : Nat, k ≤ l.length ∧ i = .int .i64 k ∧ BlkB wl g (padL n (fileL D (l.take k) F)) ∧ Below w.heap.size w wl
def BytPost (w : World) (s : Dk) (F : Nat) (e : Ending) (w' : World) : Prop := e = .returned (.string (s.bytes F)) ∧ Below w.heap.size w w'
set_option maxRecDepth 100000 in
set_option maxHeartbeats 4000000 in
theorem bytesP {B : Nat → Prop} {w : World} {db : Nat} {s : Dk} (h : DiskAt B w db s) (F : Nat) (hF : F < 8) :
    Calls Try.prog 61 #[.pointer (some ⟨db, 0, none⟩), .int .i64 F] w (BytPost w s F) := by
  have HI := Lib.hid (isPendingP h F)
  have HH := Lib.hid h
  have q0 : (0 : Int) ≤ (F : Int) := by omega
  have q8 : (F : Int) < 8 := by omega
  rcases hp : s.pending F
  · rw [hp] at HI
    have HE : Hid (s.bytes F = s.d F) := by
      refine Dk.bytes_none fun p hpm hpf => ?_
      have : s.pending F = true := by
        unfold Dk.pending
        rw [List.any_eq_true]
        exact ⟨p, hpm, by simp [hpf]⟩
      rw [hp] at this; cases this
    clear hp h
    go_enter Try.func61, Try.ntmps61
    go_wp2_with fail
    refine HI.out.mono ?_; rintro e w1 ⟨rfl, hB⟩
    have cf := (HH.out.below hB).cells.2.2.2.1 F hF
    go_wp2_with fail
    go_ret
    exact ⟨by rw [HE.out]; rfl, hB⟩
  · rw [hp] at HI
    clear hp
    have hbl := h.ok.bytes_le F
    have hps := Lib.hid h.ok.ps
    have hpn := h.ok.pn
    obtain ⟨n, hn⟩ : ∃ n, s.size F = n := ⟨_, rfl⟩
    have hn2 : (s.bytes F).size = n := by rw [← hn]; unfold Dk.size; rw [if_pos ⟨q0, q8⟩]; rfl
    have HBE : Hid (s.bytes F = bs (fileL (s.d F).data.toList s.pend F)) := rfl
    have hn3 : (fileL (s.d F).data.toList s.pend F).length = n := by rw [← hn2, HBE.out, bs_size]
    have hmk := mkB_all n (by omega)
    rw [hn2] at hbl
    have HN3 := Lib.hid hn3
    have HNN := Lib.hid hn
    have HDL := Lib.hid (fileL_mono (s.d F).data.toList s.pend F)
    clear h hn hn2 hn3
    go_enter Try.func61, Try.ntmps61
    go_wp2_with fail
    refine HI.out.mono ?_; rintro e w1 ⟨rfl, hB1⟩
    have HZ := Lib.hid (sizeP (HH.out.below hB1) F)
    rw [HNN.out] at HZ
    clear HI
    go_wp2_with fail
    refine HZ.out.mono ?_; rintro e w2 ⟨rfl, hB2⟩
    clear HZ
    have hB3 := chainB (chainB hB1 hB2) (below_new w2 (.cells (cl (List.replicate n 0)).toArray 5))
    have hD3 := HH.out.below hB3
    have cf := hD3.cells.2.2.2.1 F hF
    obtain ⟨d, hd⟩ : ∃ d, s.d F = d := ⟨_, rfl⟩
    rw [hd] at cf HBE HN3 HDL
    have hB2' := hB2.size
    have hB1' := hB1.size
    have HG : Hid (BlkB (w2.alloc (.cells (cl (List.replicate n 0)).toArray 5)) w2.heap.size (List.replicate n 0)) := Blk.new _ _ _
    have hwg : w.heap.size ≤ w2.heap.size := by omega
    have hdn : d.size ≤ n := by rw [← dl_len, ← HN3.out]; exact HDL.out
    have HB3 := Lib.hid hB3
    have HD := Lib.hid hd
    clear hB1 hB2 hB3 hD3 hd hB2' hB1'
    obtain ⟨_, v, u, dd, _⟩ := HH.out
    have HC8 := Lib.hid dd.c_tail.1
    obtain ⟨A, cap, rfl, -, -, -, hA⟩ := dd.own.cells
    obtain ⟨l, hl⟩ : ∃ l, s.pend = l := ⟨_, rfl⟩
    rw [hl] at HC8 hA hps HBE HN3 hpn
    clear dd hl
    go_wp2_with (refine wpList_copyS _ rfl _ _ rfl w2.heap.size 0 n n d (List.replicate n 0) HG.out rfl rfl hdn (by rw [List.length_replicate]; omega) ?_; intro w3 HC3 hG3; have c8 := keep_below (below_copy HB3.out hwg hG3) HC8.out; have HB4 := Lib.hid (below_copy HB3.out hwg hG3); clear hG3)
    have HC4 : Hid (BlkB w3 w2.heap.size (padL n d.data.toList)) := by
      have := HC3.out
      rw [pad_nil _ _ (by rw [dl_len]; exact hdn)] at this
      exact this
    clear HC3 HB3 HG c8
    go_loopw [7, 37] (fun x i wl => BytRel w w2.heap.size n d.data.toList l F i wl) (fun _ i _ => l.length - (intOf i).toNat)
    case atStart => exact ⟨0, by omega, rfl, HC4.out, HB4.out⟩
    case round =>
      obtain ⟨k, hk, rfl, hBk, hB⟩ := hrel
      have HBK := Lib.hid hBk
      by_cases hlt : k < l.length
      · obtain ⟨b, rfl, hb, hc⟩ := hA (by omega)
        have c1 := (hB.cell (p := ⟨b, k * 3, none⟩) hb).trans (hc k hlt).1
        have c2 := (hB.cell (p := ⟨b, k * 3 + 1, none⟩) hb).trans (hc k hlt).2.1
        have c3 := (hB.cell (p := ⟨b, k * 3 + 2, none⟩) hb).trans (hc k hlt).2.2
        have hmem : gp l k ∈ l := by rw [gp_get l k hlt]; exact List.getElem_mem hlt
        have HP := hps.out (gp l k) hmem
        have HSN := Lib.hid (fileL_snoc d.data.toList l F k hlt)
        have HRE := Lib.hid (fileL_reach d.data.toList l F (gp l k) hmem)
        rw [HN3.out] at HRE
        have HLE := Lib.hid (fileL_take_le d.data.toList l F k)
        rw [HN3.out] at HLE
        unfold Pc.l at HSN
        obtain ⟨xf, hxf⟩ : ∃ n, (gp l k).f = n := ⟨_, rfl⟩
        obtain ⟨xa, hxa⟩ : ∃ n, (gp l k).a = n := ⟨_, rfl⟩
        obtain ⟨xt, hxt⟩ : ∃ n, (gp l k).t = n := ⟨_, rfl⟩
        rw [hxf] at c1 HSN HRE
        rw [hxa] at c2 HSN HP HRE
        rw [hxt] at c3 HSN HP HRE
        have p1 := HP.2.1
        have p3 := HP.2.2.1
        have HB2 := Lib.hid (hB.trans ((below_new wr (.cells #[.int .i64 xf, .int .i64 xa, .string xt] 83)).mono hB.size))
        have HBN : Hid (BlkB (wr.alloc (.cells #[.int .i64 xf, .int .i64 xa, .string xt] 83)) w2.heap.size (padL n (fileL d.data.toList (l.take k) F))) := (hBk.below (below_new wr _) hBk.lt)
        have q1 : (k : Int) < l.length := by omega
        clear hA hc hxf hxa hxt HP hB hmem hBk
        by_cases hf : xf = F
        · subst hf
          have hre : xa + xt.size ≤ n := HRE.out rfl
          have HLL : Hid ((padL n (fileL d.data.toList (l.take k) xf)).length = n) := padL_length _ _ HLE.out
          have HNEW : Hid (spl (padL n (fileL d.data.toList (l.take k) xf)) xa xt.data.toList = padL n (fileL d.data.toList (l.take (k + 1)) xf)) := by
            show _ = _
            rw [HSN.out, if_pos rfl, pad_put _ _ _ _ HLE.out (by rw [dl_len]; exact hre)]
          have a1 : (0 : Int) ≤ (xa : Int) := by omega
          have a2 : (xa : Int) ≤ (n : Int) := by omega
          have a3 : ¬ n = xa := by omega
          have a4 : ((xa : Int)).toNat = xa := by omega
          clear HSN HRE
          go_wp2_with fail
          go_region_law (refine step_copyS rfl _ _ rfl w2.heap.size xa (n - xa) (n - xa) xt _ HBN.out (by simp [Act.eval, Act.put]) (by simp [Act.eval, Act.put]) (by omega) (by rw [HLL.out]; omega) ?_; intro w5 HC5 hG5)
          all_goals
            have hB5 : Hid (Below w.heap.size w w5) := by
              have h5 : (wr.alloc (.cells #[.int .i64 xf, .int .i64 xa, .string xt] 83)).grownBy w5 (some w2.heap.size) := ⟨hG5.os, hG5.tape, hG5.output, hG5.size, hG5.block⟩
              exact below_copy HB2.out hwg h5
            rw [HNEW.out] at HC5
            clear hG5
            go_wp2_with fail
            go_roundw
            case rel => exact ⟨k + 1, by omega, by go_num, HC5.out, hB5.out⟩
            case measure => simp [intOf]; omega
        · have hq : ((xf : Int) == (F : Int)) = false := by simp; omega
          have HM : Hid (padL n (fileL d.data.toList (l.take k) F) = padL n (fileL d.data.toList (l.take (k + 1)) F)) := by show _ = _; rw [HSN.out, if_neg hf]
          have hf2 : ¬ (xf : Int) = (F : Int) := by omega
          clear HSN HRE
          go_wp2_with fail
          go_roundw
          case rel => exact ⟨k + 1, by omega, by go_num, by rw [← HM.out]; exact HBN.out, HB2.out⟩
          case measure => simp [intOf]; omega
      · obtain rfl : k = l.length := by omega
        rw [List.take_length] at HBK
        have HRES : Hid (s.bytes F = bs (padL n (fileL d.data.toList l F))) := by
          show _ = _
          rw [HBE.out]
          conv => rhs; rw [← HN3.out, padL_full]
        have hcv := blkB_conv (n := n) HBK.out (by rw [padL_length _ _ (by rw [HN3.out]; exact Nat.le_refl _)])
        clear hA hBk
        go_wp2_with fail
        go_ret
        exact ⟨by rw [HRES.out]; rfl, hB⟩
end Go.Proofs.Ythdmcjiccbgknaa

namespace Go.Proofs.Ythdmcjiccbgknaa
set_option linter.unusedVariables false
set_option linter.unusedSimpArgs false
open Go.RowKit

/-- A row of pieces, and what stands behind them. -/
def PRow (w : World) (g : Nat) (c : List Pc) (rest : List Value) : Prop := Blk w g 83 (pc c ++ rest).toArray
theorem PRow.at_ {w : World} {g : Nat} {c : List Pc} {rest : List Value} (h : PRow w g c rest) (i : Nat) (hi : i < c.length) : w.cell? ⟨g, i * 3, none⟩ = some (.int .i64 (gp c i).f) ∧ w.cell? ⟨g, i * 3 + 1, none⟩ = some (.int .i64 (gp c i).a) ∧ w.cell? ⟨g, i * 3 + 2, none⟩ = some (.string (gp c i).t) := by
  have h1 := pc_at c i hi
  have hl := pc_length c
  simp only [Blk.cell h, List.getElem?_toArray]
  rw [List.getElem?_append_left (by omega), List.getElem?_append_left (by omega), List.getElem?_append_left (by omega)]
  exact h1
theorem PRow.free {w : World} {g : Nat} {c : List Pc} {rest : List Value} (h : PRow w g c rest) (i : Nat) : w.frozen? ⟨g, i, none⟩ = false := by
  unfold PRow Blk at h
  simp [World.frozen?, h]
theorem pc_set : ∀ (c : List Pc) (i : Nat) (x : Pc), i < c.length → (((pc c).set (i * 3) (.int .i64 x.f)).set (i * 3 + 1) (.int .i64 x.a)).set (i * 3 + 2) (.string x.t) = pc (c.set i x)
  | [], i, x, h => by simp at h
  | p :: c, 0, x, _ => rfl
  | p :: c, i + 1, x, h => by
    have := pc_set c i x (by simpa using h)
    rw [pc_cons, show (i + 1) * 3 = i * 3 + 1 + 1 + 1 by omega]
    simp only [List.set_cons_succ]
    rw [pc_cons, ← this]
theorem PRow.set {w : World} {g i : Nat} {c : List Pc} {rest : List Value} (h : PRow w g c rest) (hi : i < c.length) (x : Pc) :
    PRow (((w.setCell ⟨g, i * 3, none⟩ (.int .i64 x.f)).setCell ⟨g, i * 3 + 1, none⟩ (.int .i64 x.a)).setCell ⟨g, i * 3 + 2, none⟩ (.string x.t)) g (c.set i x) rest := by
  have h1 := blk_set (blk_set (blk_set h (i := i * 3) (.int .i64 x.f)) (i := i * 3 + 1) (.int .i64 x.a)) (i := i * 3 + 2) (.string x.t)
  have hl := pc_length c
  unfold PRow
  rw [← pc_set c i x hi, List.setIfInBounds_toArray, List.setIfInBounds_toArray, List.setIfInBounds_toArray,
    List.set_append_left _ _ (by omega), List.set_append_left _ _ (by rw [List.length_set]; omega), List.set_append_left _ _ (by rw [List.length_set, List.length_set]; omega)] at *
  exact h1

theorem filt_first {P : Pc → Bool} {l : List Pc} {k : Nat} (hk : k < l.length) (hp : P (gp l k) = true) (hn : ∀ i, i < k → P (gp l i) = false) : (l.take (k + 1)).filter (fun p => !P p) = l.take k := by
  rw [take_gp l k hk, List.filter_append, List.filter_cons_of_neg (by simp [hp]), List.filter_nil, List.append_nil, List.filter_eq_self]
  intro x hx
  obtain ⟨i, hi, rfl⟩ := List.mem_iff_getElem.1 hx
  rw [List.length_take] at hi
  rw [List.getElem_take, ← gp_get l i (by omega), hn i (by omega)]; rfl
theorem filt_none {P : Pc → Bool} {l : List Pc} (hn : ∀ i, i < l.length → P (gp l i) = false) : l.filter (fun p => !P p) = l := by
  rw [List.filter_eq_self]
  intro x hx
  obtain ⟨i, hi, rfl⟩ := List.mem_iff_getElem.1 hx
  rw [← gp_get l i hi, hn i hi]; rfl
theorem gp_drop {c l : List Pc} {j : Nat} (h : c.drop j = l.drop j) (hc : c.length = l.length) (hj : j < l.length) : gp c j = gp l j := by
  rw [gp_get c j (by omega), gp_get l j hj]
  have := congrArg (fun x => x[0]?) h
  simp only [List.getElem?_drop, Nat.add_zero] at this
  rw [List.getElem?_eq_getElem (by omega), List.getElem?_eq_getElem hj] at this
  injection this
structure DelAt (P : Pc → Bool) (l : List Pc) (i j : Nat) (c : List Pc) : Prop where
  ij : i < j
  jl : j ≤ l.length
  cl : c.length = l.length
  tk : c.take i = (l.take j).filter fun p => !P p
  dr : c.drop j = l.drop j
theorem DelAt.skip {P : Pc → Bool} {l : List Pc} {i j : Nat} {c : List Pc} (h : DelAt P l i j c) (hj : j < l.length) (hp : P (gp l j) = true) : DelAt P l i (j + 1) c := by
  refine ⟨by have := h.ij; omega, by omega, h.cl, ?_, ?_⟩
  · rw [h.tk, take_gp l j hj, List.filter_append, List.filter_cons_of_neg (by simp [hp]), List.filter_nil, List.append_nil]
  · rw [← List.drop_drop, ← List.drop_drop, h.dr]
theorem DelAt.keep {P : Pc → Bool} {l : List Pc} {i j : Nat} {c : List Pc} (h : DelAt P l i j c) (hj : j < l.length) (hp : P (gp l j) = false) : DelAt P l (i + 1) (j + 1) (c.set i (gp l j)) := by
  have h1 := h.ij
  have h2 := h.cl
  refine ⟨by omega, by omega, by rw [List.length_set, h.cl], ?_, ?_⟩
  · rw [take_gp l j hj, List.filter_append, List.filter_cons_of_pos (by simp [hp]), List.filter_nil, ← h.tk, List.take_succ_eq_append_getElem (by rw [List.length_set]; omega), List.take_set_of_le (Nat.le_refl _), List.getElem_set_self]
  · rw [List.drop_set_of_lt (by omega), ← List.drop_drop, ← List.drop_drop, h.dr]

theorem run_clearP (w : World) (ty : TypeId) (g i k n c2 : Nat) (c : List Pc) (rest : List Value) (h : PRow w g c rest) (hk : i + k = c.length) (hk0 : 0 < k) :
    ∃ w' rest', (Builtin.clear_ #[66] ty #[.slice (some ⟨g, i * 3, none⟩) k c2]).run Try.prog w = .ok (.tuple #[]) w' ∧ PRow w' g (c.take i) rest' ∧ rest'.length = k * 3 + rest.length ∧ w.grownBy w' (some g) := by
  have hu := run_underlying (P := Try.prog) Try.underlying66
  obtain ⟨i0, hq, hz, hi, _⟩ := info_parts infoP
  obtain ⟨k, rfl⟩ : ∃ m, k = m + 1 := ⟨k - 1, by omega⟩
  obtain ⟨zs, hzs⟩ : ∃ zs, (Builtin.zeroCells (Value.agg #[.int .i64 0, .int .i64 0, .string (bs [])]).cells (k + 1)).toList = zs := ⟨_, rfl⟩
  have hzl : zs.length = (k + 1) * 3 := by rw [← hzs]; simp [size_zeroCells, Value.cells]
  have hz1 : ∀ v ∈ zs, v.oneCell' = true := by
    intro v hv
    rw [← hzs] at hv
    simp [Builtin.zeroCells, Value.cells] at hv
    obtain ⟨a, _, rfl⟩ := hv
    have : a % 3 = 0 ∨ a % 3 = 1 ∨ a % 3 = 2 := by omega
    rcases this with h | h | h <;> simp [h] <;> rfl
  have hst := run_storeCells_at (P := Try.prog) g (i * 3) 83 zs 0 (pc c ++ rest).toArray w h (by simp [pc_length]; omega) hz1
  simp only [Nat.add_zero] at hst
  refine ⟨w.setRow g (List.take (i * 3) (pc c ++ rest).toArray.toList ++ zs ++ List.drop (i * 3 + zs.length) (pc c ++ rest).toArray.toList).toArray, zs ++ rest, ?_, ?_, by rw [List.length_append, hzl], ⟨rfl, rfl, rfl, ?_, ?_⟩⟩
  · simp [Builtin.clear_, hu, zeroValue, typeInfo, hq, hz, hzs, hst]
  · have e : (List.take (i * 3) (pc c ++ rest).toArray.toList ++ zs ++ List.drop (i * 3 + zs.length) (pc c ++ rest).toArray.toList) = pc (c.take i) ++ (zs ++ rest) := by
      simp only [List.append_assoc]
      rw [List.take_append_of_le_length (by rw [pc_length]; omega), pc_take, hzl, List.drop_append_of_le_length (by rw [pc_length]; omega), List.drop_eq_nil_of_le (by rw [pc_length]; omega)]
      rfl
    unfold PRow
    rw [← e]
    exact setRow_heap w g _ _ _ _ h
  · simp [World.setRow]
  · exact fun k hk hne => setRow_other w g k _ (fun e => hne (by rw [e]))
theorem wpList_clearP (w : World) {ops : Array Oper} {rest0 : List Oper} {o : Oper} {a : Act} {Q : Exit → Act → World → Prop} (hgd : o.guard = none) (d : Operand)
    (ho : o.op = .call { callee := .builtin .clear, args := #[d], argTypes := #[66] }) (g i k c2 : Nat) (c : List Pc) (rest : List Value) (h : PRow w g c rest) (hk : i + k = c.length) (hk0 : 0 < k)
    (hd : a.eval d = .slice (some ⟨g, i * 3, none⟩) k c2)
    (hh : ∀ w' rest', Hid (PRow w' g (c.take i) rest') → Hid (rest'.length = k * 3 + rest.length) → w.grownBy w' (some g) → wpList Try.prog ops Q rest0 (a.put o.dst (.tuple #[])) w') : wpList Try.prog ops Q (o :: rest0) a w := by
  obtain ⟨w', rest', hr, h1, h2, h3⟩ := run_clearP w o.type g i k k c2 c rest h hk hk0
  refine wpList_plain hgd fun _ hK => ?_
  unfold Oper.wp execOp
  simp only [ho, resolve, invoke, builtin, Sem.run_bind, Sem.run_pure, Result.andThen_ok, List.map_toArray, List.map_cons, List.map_nil, hd, hr]
  exact hK _ _ (hh w' rest' h1 h2 h3)
theorem PRow.own {w : World} {g cap : Nat} {c : List Pc} {rest : List Value} (h : PRow w g c rest) (hl : c.length * 3 + rest.length = cap * 3) (hm : cap ≤ maxLen) : OwnP w (.slice (some ⟨g, 0, none⟩) c.length cap) c := by
  refine ⟨pc_length c, .inr ⟨g, cap, _, rfl, Nat.zero_le _, h, by omega, hm, ?_, ?_⟩⟩
  · simp [pc_length]; omega
  · rw [← pc_length c]; simp
theorem OwnP.prow {w : World} {v : Value} {l : List Pc} (h : OwnP w v l) (h0 : 0 < l.length) : ∃ g cap rest, v = .slice (some ⟨g, 0, none⟩) l.length cap ∧ PRow w g l rest ∧ l.length * 3 + rest.length = cap * 3 ∧ cap ≤ maxLen := by
  rcases h.form with ⟨_, rfl⟩ | ⟨g, cap, cur, rfl, hg, h1, h2, h3, h4⟩
  · simp at h0
  · have hl : cur.toList.length = cap * 3 := by rw [Array.length_toList, h3]
    refine ⟨g, cap, cur.toList.drop (l.length * 3), rfl, ?_, ?_, h2⟩
    · unfold PRow Blk
      rw [← h4, List.take_append_drop, Array.toArray_toList]
      exact hg
    · rw [List.length_drop, hl]; omega
theorem PRow.grown {w w' : World} {g : Nat} {c : List Pc} {rest : List Value} {row : Option Nat} (h : PRow w g c rest) (hb : w.grownBy w' row) (hg : some g ≠ row) : PRow w' g c rest := Blk.grown h hb hg
theorem grown_trans {a b c : World} {r : Option Nat} (h : a.grownBy b r) (k : b.grownBy c r) : a.grownBy c r :=
  ⟨k.os.trans h.os, k.tape.trans h.tape, k.output.trans h.output, Nat.le_trans h.size k.size, fun i hi hne => (k.block i (Nat.lt_of_lt_of_le hi h.size) hne).trans (h.block i hi hne)⟩

def DelPost (P : Pc → Bool) (l : List Pc) (v : Value) (w : World) (e : Ending) (w' : World) : Prop := ∃ v', e = .returned v' ∧ OwnP w' v' (l.filter fun p => !P p) ∧ v'.ownBlock = v.ownBlock ∧ w.grownBy w' v.ownBlock
def DelRel (P : Pc → Bool) (l : List Pc) (w : World) (g : Nat) (rest : List Value) (x y : Value) (wl : World) : Prop := ∃ (i j : Nat) (c : List Pc), x = .int .i64 i ∧ y = .int .i64 j ∧ DelAt P l i j c ∧ PRow wl g c rest ∧ w.grownBy wl (some g)
theorem tells_keep {w w' : World} {fv : Value} {P : Pc → Bool} (h : Tells w fv P) (hs : w.heap.size ≤ w'.heap.size) (hb : ∀ F g, fv = .func (.func F) #[] #[.pointer (some ⟨g, 0, none⟩)] → w'.heap[g]? = w.heap[g]?) : Tells w' fv P := by
  obtain ⟨F, g, rfl, hF, hg, hT⟩ := h
  exact ⟨F, g, rfl, hF, by omega, fun p w2 h1 h2 => hT p w2 (by omega) (h2.trans (hb F g rfl))⟩

set_option maxRecDepth 100000 in
set_option maxHeartbeats 4000000 in
theorem deleteP (v : Value) (F : FuncId) (gf : Nat) (l : List Pc) (P : Pc → Bool) (w : World) (hF : F = 88) (hr : OwnP w v l) (hT : Tells w (.func (.func F) #[] #[.pointer (some ⟨gf, 0, none⟩)]) P) (hgf : gf < w.heap.size) (hne : v.ownBlock ≠ some gf) (hl : l.length ≤ 1000000) :
    Calls Try.prog 87 #[v, .func (.func F) #[] #[.pointer (some ⟨gf, 0, none⟩)]] w (DelPost P l v w) := by
  subst hF
  have HI := Lib.hid (indexP v _ l P w hr hT hl)
  have HR := Lib.hid hr
  have HT := Lib.hid hT
  clear hT
  go_enter Try.func87, Try.ntmps87
  go_wp2_with fail
  refine HI.out.mono ?_; rintro e w1 ⟨r, rfl, hfst, hB1⟩
  clear HI
  rcases hfst with ⟨rfl, hno⟩ | ⟨k, rfl, hk, hp, hn⟩
  · have HF : Hid (DelPost P l v w (.returned v) w1) := ⟨v, rfl, by rw [filt_none hno]; exact HR.out.heap (fun k _ hk => hB1.block k hk), rfl, grown_below hB1 _⟩
    clear hno hB1 hr
    go_wp2_with fail
    go_ret
    exact HF.out
  · obtain ⟨g, cap, rest, rfl, hrow, hlen, hm⟩ := hr.prow (by omega)
    have hrow1 : PRow w1 g l rest := hrow.grown (grown_below hB1 none) (by simp)
    have hgl := hrow.lt
    have HG1 : Hid (w.grownBy w1 (some g)) := grown_below hB1 _
    have HD0 : Hid (DelAt P l k (k + 1) l) := ⟨by omega, by omega, rfl, (filt_first hk hp hn).symm, rfl⟩
    have HROW := Lib.hid hrow1
    have HLEN := Lib.hid hlen
    have hkc : (k : Int) < l.length := by omega
    have hn0 : ¬ g = gf := fun e => hne (by rw [e]; rfl)
    have q3 : ((k : Int) == -1) = false := by simp
    have q4 : ¬ (k : Int) = -1 := by omega
    clear hp hn hrow hrow1 hlen hr hne hB1
    go_wp2_with fail
    go_loopw [5, 6, 7] (fun x y u wl => DelRel P l w g rest x y wl) (fun _ y _ _ => l.length - (intOf y).toNat)
    case atStart => exact ⟨k, k + 1, l, rfl, by go_num, HD0.out, HROW.out, HG1.out⟩
    case round =>
      obtain ⟨i, j, c, rfl, rfl, hD, hrow, hG⟩ := hrel
      have hij := hD.ij
      have hjl := hD.jl
      by_cases hlt : j < l.length
      · have hgc := gp_drop hD.dr hD.cl hlt
        have h1 := hrow.at_ j (by rw [hD.cl]; exact hlt)
        rw [hgc] at h1
        obtain ⟨c1, c2, c3⟩ := h1
        have HDD := Lib.hid hD
        obtain ⟨xf, hxf⟩ : ∃ n, (gp l j).f = n := ⟨_, rfl⟩
        obtain ⟨xa, hxa⟩ : ∃ n, (gp l j).a = n := ⟨_, rfl⟩
        obtain ⟨xt, hxt⟩ : ∃ n, (gp l j).t = n := ⟨_, rfl⟩
        have hx : gp l j = ⟨xf, xa, xt⟩ := by rw [← hxf, ← hxa, ← hxt]
        rw [hxf] at c1
        rw [hxa] at c2
        rw [hxt] at c3
        have HX := Lib.hid hx
        have hT2 := HT.out
        obtain ⟨_, _, he, _, _, hTc⟩ := hT2
        injection he with he1 _ he2
        injection he1 with he1
        subst he1
        obtain rfl : gf = _ := by simpa using he2
        have hbn := below_new wr (.cells #[.int .i64 xf, .int .i64 xa, .string xt] 83)
        have HC := Lib.hid (hTc (gp l j) (wr.alloc (.cells #[.int .i64 xf, .int .i64 xa, .string xt] 83)) (by have := hG.size; have := hbn.size; omega) ((hbn.block gf (by have := hG.size; omega)).trans (hG.block gf hgf (by intro e; injection e with e; exact hn0 e.symm))))
        rw [hx] at HC
        unfold pv at HC
        simp only at HC
        have HROW2 : Hid (PRow (wr.alloc (.cells #[.int .i64 xf, .int .i64 xa, .string xt] 83)) g c rest) := hrow.grown (grown_below hbn none) (by simp)
        have HG2 : Hid (w.grownBy (wr.alloc (.cells #[.int .i64 xf, .int .i64 xa, .string xt] 83)) (some g)) := grown_trans hG (grown_below hbn _)
        obtain ⟨R, hR⟩ : ∃ R, P ⟨xf, xa, xt⟩ = R := ⟨_, rfl⟩
        rw [hR] at HC
        have HRR := Lib.hid hR
        have hcl : c.length = l.length := hD.cl
        have q1 : (j : Int) < l.length := by omega
        have q2 : (i : Int) < l.length := by omega
        have hbz := Blk.new wr 83 #[.int .i64 xf, .int .i64 xa, .string xt]
        have HBZ := Lib.hid hbz
        have HCL := Lib.hid hcl
        clear hD hrow hG hgc hxf hxa hxt hx he2 hTc hbn hR hcl hbz
        go_wp2_with fail
        refine HC.out.mono ?_; rintro e w2 ⟨rfl, hB2⟩
        clear HC
        have hrow2 : PRow w2 g c rest := HROW2.out.grown (grown_below hB2 none) (by simp)
        have HG3 : Hid (w.grownBy w2 (some g)) := grown_trans HG2.out (grown_below hB2 _)
        cases R
        · have hb2 : Blk w2 wr.heap.size 83 #[.int .i64 xf, .int .i64 xa, .string xt] := HBZ.out.below hB2 HBZ.out.lt
          have x1 : w2.cell? ⟨wr.heap.size, 0, none⟩ = some (.int .i64 xf) := hb2.cell 0
          have x2 : w2.cell? ⟨wr.heap.size, 1, none⟩ = some (.int .i64 xa) := hb2.cell 1
          have x3 : w2.cell? ⟨wr.heap.size, 2, none⟩ = some (.string xt) := hb2.cell 2
          obtain ⟨y1, y2, y3⟩ := hrow2.at_ i (by rw [HCL.out]; omega)
          have z1 := hrow2.free (i * 3)
          have z2 := hrow2.free (i * 3 + 1)
          have z3 := hrow2.free (i * 3 + 2)
          have HN := Lib.hid (hrow2.set (i := i) (by rw [HCL.out]; omega) ⟨xf, xa, xt⟩)
          have HGS : Hid (w2.grownBy (((w2.setCell ⟨g, i * 3, none⟩ (.int .i64 xf)).setCell ⟨g, i * 3 + 1, none⟩ (.int .i64 xa)).setCell ⟨g, i * 3 + 2, none⟩ (.string xt)) (some g)) := grown_trans (grown_set _ _ _ _) (grown_trans (grown_set _ _ _ _) (grown_set _ _ _ _))
          have HDN := Lib.hid (HDD.out.keep hlt (by rw [HX.out]; exact HRR.out))
          rw [HX.out] at HDN
          clear hrow2 hb2 hB2
          go_wp2_with fail
          go_roundw
          case rel => exact ⟨i + 1, j + 1, _, by go_num, by go_num, HDN.out, HN.out, grown_trans HG3.out HGS.out⟩
          case measure => simp [intOf]; omega
        · have HDN := Lib.hid (HDD.out.skip hlt (by rw [HX.out]; exact HRR.out))
          have HROW3 := Lib.hid hrow2
          clear hrow2 hB2
          go_wp2_with fail
          go_roundw
          case rel => exact ⟨i, j + 1, c, rfl, by go_num, HDN.out, HROW3.out, HG3.out⟩
          case measure => simp [intOf]; omega
      · obtain rfl : j = l.length := by omega
        have hcl := hD.cl
        have HDD := Lib.hid hD
        have HROW := Lib.hid hrow
        have HG3 := Lib.hid hG
        have HCL := Lib.hid hcl
        have y1 : (0 : Int) ≤ (i : Int) := by omega
        have y2 : (i : Int) ≤ l.length := by omega
        have y3 : ((i : Int)).toNat = i := by omega
        have y4 : l.length ≤ cap := by have := HLEN.out; omega
        have y5 : ¬ cap = i := by omega
        have y6 : (l.length : Int) ≤ cap := by omega
        have y7 : (i : Int) ≤ cap := by omega
        clear hD hrow hG hcl
        go_wp2_with (refine wpList_clearP _ rfl _ rfl g i (l.length - i) (cap - i) c rest HROW.out (by rw [HCL.out]; omega) (by omega) rfl ?_; intro w3 rest3 HR3 HL3 hG4)
        go_ret
        refine ⟨_, rfl, ?_, rfl, grown_trans HG3.out hG4⟩
        have h5 := HR3.out.own (cap := cap) (by rw [HL3.out, List.length_take, HCL.out]; have := HLEN.out; omega) hm
        rw [List.length_take, HCL.out, Nat.min_eq_left (by omega), HDD.out.tk, List.take_length] at h5
        exact h5
end Go.Proofs.Ythdmcjiccbgknaa

namespace Go.Proofs.Ythdmcjiccbgknaa
set_option linter.unusedVariables false
set_option linter.unusedSimpArgs false
open Go.RowKit

/-- The pending writes are now the row v', which lies where the old one lay, or in a new block. -/
theorem DAt.repend {B : Nat → Prop} {w w' : World} {db : Nat} {v u v' : Value} {s : Dk} {l : List Pc} (h0 : B db) (h : DAt w db v u s) (hv : ∀ k, v.ownBlock = some k → B k) (hu : ∀ k, u.ownBlock = some k → B k)
    (hg : w.grownBy w' v.ownBlock) (hown : OwnP w' v' l) (hb : ∀ k, v'.ownBlock = some k → v.ownBlock = some k ∨ w.heap.size ≤ k) (hok : Dk.ok { s with pend := l }) : Op B w (w'.setCell ⟨db, 8, none⟩ v') db { s with pend := l } := by
  have hs : (w'.setCell ⟨db, 8, none⟩ v').heap.size = w'.heap.size := by simp [World.setCell]
  have ho : ∀ k, k ≠ db → (w'.setCell ⟨db, 8, none⟩ v').heap[k]? = w'.heap[k]? := fun k hk => Below.heap_setCell w' ⟨db, 8, none⟩ v' k hk
  have hbx : Blk w' db 68 (dcells s v u) := (hg.block db h.bx.lt (fun e => h.n1 e.symm)).trans h.bx
  have hn1 : v'.ownBlock ≠ some db := fun e => by
    rcases hb _ e with h1 | h1
    · exact h.n1 h1
    · have := h.bx.lt; omega
  refine ⟨⟨.inl h0, v', u, ⟨?_, hown.heap (fun k hk _ => ho k (fun e => hn1 (by rw [hk, e]))), ?_, hn1, h.n2, ?_, ?_, hok⟩, ?_, fun k hk => .inl (hu k hk)⟩, ?_⟩
  · have := blk_set hbx (i := 8) v'
    have hc : (dcells s v u).setIfInBounds 8 v' = dcells { s with pend := l } v' u := by
      obtain ⟨a0, a1, a2, a3, a4, a5, a6, a7, hd⟩ := eight h.ok.dl
      simp only [dcells, hd]; rfl
    rw [hc] at this
    exact this
  · refine h.kp.heap (by rw [hs]; exact hg.size) fun k hk hkl => (ho k (fun e => h.n2 (by rw [hk, e]))).trans (hg.block k hkl (fun e => h.n3 k hk e.symm))
  · intro k hk hv'
    rcases hb k hv' with h1 | h1
    · exact h.n3 k hk h1
    · have := h.n4 k hk; omega
  · intro k hk
    have := h.n4 k hk
    rw [hs]
    exact Nat.lt_of_lt_of_le this hg.size
  · intro k hk
    rcases hb k hk with h1 | h1
    · exact .inl (hv k h1)
    · refine .inr ⟨h1, ?_⟩
      rw [hs]; exact hown.lt k hk
  · refine ⟨hg.os, hg.tape, hg.output, by rw [hs]; exact hg.size, fun k hk hB => (ho k (fun e => hB (by rw [e]; exact h0))).trans (hg.block k hk (fun e => hB (hv k e.symm)))⟩
theorem Op.drew {B : Nat → Prop} {w w1 : World} {db : Nat} {s : Dk} (h : Op B w w1 db s) : Op B w w1.drew db s := h.below ⟨rfl, rfl, rfl, Nat.le_refl _, fun _ _ => rfl⟩
theorem below_drewN (w : World) (n : Nat) : Below w.heap.size w (w.drewN n) := ⟨rfl, rfl, rfl, Nat.le_refl _, fun _ _ => rfl⟩

set_option maxRecDepth 100000 in
set_option maxHeartbeats 4000000 in
theorem settleP {B : Nat → Prop} {w : World} {db : Nat} {s : Dk} (hB0 : DiskAt B w db s) (F : Nat) (hF : F < 8) (b : ByteArray) (hb : b.size ≤ 16777216) :
    Calls Try.prog 60 #[.pointer (some ⟨db, 0, none⟩), .int .i64 F, .string b] w fun e w' => e = .returned (.tuple #[]) ∧ Op B w w' db (s.settle F b) := by
  have h : DiskAt (fun k => B k ∧ k < w.heap.size) w db s := hB0.mono fun k hk hb => ⟨hb, hk⟩
  clear hB0
  have hbn := below_new w (.cells #[.int .i64 (F : Int)] 3)
  obtain ⟨W0, hW0⟩ : ∃ W0, w.alloc (.cells #[.int .i64 (F : Int)] 3) = W0 := ⟨_, rfl⟩
  have h1 := h.below hbn
  rw [hW0] at h1 hbn
  have cf := h1.cells.2.2.2.1 F hF
  have fz := h1.cells.2.2.2.2 F
  have q0 : (0 : Int) ≤ (F : Int) := by omega
  have q8 : (F : Int) < 8 := by omega
  have q9 : ((F : Int)).toNat = F := by omega
  have hd := h1.set_dur F hF b hb
  have HOK := Lib.hid (h.ok.settle F b hb)
  have HLT := h.lt
  have hblk : Blk W0 w.heap.size 3 #[.int .i64 (F : Int)] := by rw [← hW0]; exact Blk.new _ _ _
  have cb := hblk.cell 0
  have HBN := Lib.hid hbn
  have HBLK := Lib.hid hblk
  have HW := Lib.hid hW0
  have HD := Lib.hid hd
  have HPN := Lib.hid h.ok.pn
  have hne : w.heap.size ≠ db := by omega
  clear h h1 hbn hd hblk
  go_enter Try.func60, Try.ntmps60
  go_wp2_with fail
  clear hW0
  go_region
  all_goals
    obtain ⟨W1, hW1⟩ : ∃ W1, (W0.setCell ⟨db, F, none⟩ (.string b)).drew = W1 := ⟨_, rfl⟩
    rw [hW1]
    have HD1 := HD.out.drew
    rw [hW1] at HD1
    have hb1 : Blk W1 w.heap.size 3 #[.int .i64 (F : Int)] := by
      rw [← hW1]
      exact (Below.heap_setCell W0 ⟨db, F, none⟩ (.string b) w.heap.size hne).trans HBLK.out
    obtain ⟨h0, v, u, d, hv, hu⟩ := HD1.at_
    have c8 := d.c_tail.1
    have f8 := d.free 8
    have HEQ : Hid ((fun p : Pc => !isPc F p) = fun p => !decide (p.f = F)) := by
      show _ = _
      funext p
      have : isPc F p = decide (p.f = F) := by unfold isPc; rw [Bool.eq_iff_iff, decide_eq_true_iff, decide_eq_true_iff]; omega
      rw [this]
    have hvne : v.ownBlock ≠ some w.heap.size := fun e => by
      rcases hv _ e with h | h
      · exact Nat.lt_irrefl _ h.2
      · have := h.1
        rw [← HW.out] at this
        simp at this
        omega
    have HC := Lib.hid (deleteP v 88 w.heap.size s.pend (isPc F) W1 rfl d.own ⟨_, _, rfl, .inr rfl, hb1.lt, fun p w' hs hw' => setlC p F w.heap.size w' (by have := hb1.lt; omega) (by
      have hb2 : Blk w' w.heap.size 3 #[.int .i64 (F : Int)] := hw'.trans hb1
      rw [hb2.cell]; rfl)⟩ hb1.lt hvne HPN.out)
    have HDD := Lib.hid d
    have HD2 := Lib.hid HD1
    clear cf fz cb HBLK hW1 HD1 hb1 d hvne
    go_wp2_with fail
    refine HC.out.mono ?_; rintro e w3 ⟨v', rfl, hown, hbl, hg⟩
    have hdb : w3.cell? ⟨db, 8, none⟩ = some v ∧ w3.frozen? ⟨db, 8, none⟩ = false := by
      have hh := hg.block db HDD.out.bx.lt (fun e => HDD.out.n1 e.symm)
      constructor
      · rw [← c8]; unfold World.cell?; rw [hh]
      · rw [← f8]; unfold World.frozen?; rw [hh]
    obtain ⟨g1, g2⟩ := hdb
    have hrp := HDD.out.repend h0 hv hu hg hown (fun k hk => .inl (by rw [← hbl]; exact hk)) (by rw [HEQ.out]; exact HOK.out)
    rw [HEQ.out] at hrp
    have HR := Lib.hid (Op.pre HBN.out (HD2.out.trans hrp))
    obtain ⟨A, cap, rfl, -⟩ := hown.cells
    clear hown hbl hg hrp HC c8 f8
    go_wp2_with fail
    go_end0
    exact ⟨rfl, HR.out.mono fun k _ h => h.1⟩
end Go.Proofs.Ythdmcjiccbgknaa
