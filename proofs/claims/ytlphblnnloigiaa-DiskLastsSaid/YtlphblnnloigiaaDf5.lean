/-
  Layer 6: bytes.
-/
import Derived.Test.YtlphblnnloigiaaDf4
namespace Go.Proofs.Ytlphblnnloigiaa
set_option linter.unusedVariables false
set_option linter.unusedSimpArgs false
open Go.RowKit

theorem madeCells_one (z : Value) (hz : z.cells = #[z]) (n : Nat) : (madeCells z.cells (n * 1)).toList = List.replicate n z := by
  rw [hz]
  apply List.ext_getElem
  · simp [madeCells]
  · intro i h1 h2
    have : i % 1 = 0 := Nat.mod_one i
    simp [madeCells, this]
theorem mkB_all (n : Nat) (hn : n ≤ 16777216) : ∀ w : World, (Instr.makeSlice 59 (.int .i64 (n : Int)) (.int .i64 (n : Int))).run Try.prog w = .ok (.slice (some ⟨w.heap.size, 0, none⟩) n n) (w.alloc (.cells (cl (List.replicate n 0)).toArray 5)) := by
  obtain ⟨i0, hi, hz0, hz1, hz2⟩ := info_parts info5
  intro w
  have hr := run_makeSlice (P := Try.prog) w 59 5 i0 (.int .u8 0) Try.underlying59 hi hz0 .i64 .i64 n n (by omega) (by omega) (by rw [hz1]; omega) (by rw [hz2]; omega) (by omega)
  rw [hz1] at hr
  simp only [Int.toNat_natCast] at hr
  have e : madeCells (Value.int IntKind.u8 0).cells (n * 1) = (cl (List.replicate n 0)).toArray := by
    refine Array.ext' ?_
    rw [madeCells_one _ rfl n]
    simp [cl]
  rw [e] at hr
  exact hr

/-- A block of bytes. -/
def BlkB (w : World) (g : Nat) (l : List UInt8) : Prop := Blk w g 5 (cl l).toArray
theorem byteCells_cl (l : List UInt8) : Lib.byteCells l = cl l := rfl
theorem run_copyS (w : World) (ty : TypeId) (g o dLen dCap : Nat) (t : ByteArray) (l : List UInt8) (hg : BlkB w g l) (hle : t.size ≤ dLen) (hfit : o + t.size ≤ l.length) :
    ∃ w', (Builtin.copy_ #[59, 9] ty #[.slice (some ⟨g, o, none⟩) dLen dCap, .string t]).run Try.prog w = .ok (goInt t.size) w' ∧ BlkB w' g (spl l o t.data.toList) ∧ w.grownBy w' (some g) := by
  have hsz : (Try.prog.info? 5).map (·.size) = some 1 := by kernel_rfl
  refine ⟨_, Lib.run_copy_row_string (P := Try.prog) w 59 9 ty 5 g o dLen dCap t (cl l).toArray 5 Try.underlying59 hsz hg hle (by simpa [cl] using hfit), ?_, ?_⟩
  · have e : (List.take o (cl l).toArray.toList ++ Lib.byteCells t.data.toList ++ List.drop (o + t.size) (cl l).toArray.toList) = cl (spl l o t.data.toList) := by
      rw [byteCells_cl]
      unfold spl cl
      rw [dl_len]
      simp [List.map_take, List.map_drop]
    rw [e]
    exact setRow_heap w g _ _ _ _ hg
  · exact ⟨rfl, rfl, rfl, by simp [World.setRow], fun k hk hne => setRow_other w g k _ (fun e => hne (by rw [e]))⟩
theorem wp_copyS (w : World) {o : Oper} {a : Act} {K : Act → World → Prop} {Q : Exit → Act → World → Prop} (d s : Operand)
    (ho : o.op = .call { callee := .builtin .copy, args := #[d, s], argTypes := #[59, 9] }) (g off dLen dCap : Nat) (t : ByteArray) (l : List UInt8) (hg : BlkB w g l)
    (hd : a.eval d = .slice (some ⟨g, off, none⟩) dLen dCap) (hs : a.eval s = .string t) (hle : t.size ≤ dLen) (hfit : off + t.size ≤ l.length)
    (h : ∀ w', Hid (BlkB w' g (spl l off t.data.toList)) → w.grownBy w' (some g) → K (a.put o.dst (goInt t.size)) w') : o.wp Try.prog a w K Q := by
  obtain ⟨w', hr, h2, h3⟩ := run_copyS w o.type g off dLen dCap t l hg hle hfit
  unfold Oper.wp execOp
  simp only [ho, resolve, invoke, builtin, Sem.run_bind, Sem.run_pure, Result.andThen_ok, List.map_toArray, List.map_cons, List.map_nil, hd, hs, hr]
  exact h w' h2 h3
theorem wpList_copyS (w : World) {ops : Array Oper} {rest : List Oper} {o : Oper} {a : Act} {Q : Exit → Act → World → Prop} (hgd : o.guard = none) (d s : Operand)
    (ho : o.op = .call { callee := .builtin .copy, args := #[d, s], argTypes := #[59, 9] }) (g off dLen dCap : Nat) (t : ByteArray) (l : List UInt8) (hg : BlkB w g l)
    (hd : a.eval d = .slice (some ⟨g, off, none⟩) dLen dCap) (hs : a.eval s = .string t) (hle : t.size ≤ dLen) (hfit : off + t.size ≤ l.length)
    (h : ∀ w', Hid (BlkB w' g (spl l off t.data.toList)) → w.grownBy w' (some g) → wpList Try.prog ops Q rest (a.put o.dst (goInt t.size)) w') : wpList Try.prog ops Q (o :: rest) a w :=
  wpList_plain hgd fun _ hK => wp_copyS w d s ho g off dLen dCap t l hg hd hs hle hfit fun w' h2 h3 => hK _ _ (h w' h2 h3)
theorem step_copyS {ops : Array Oper} {o : Oper} {a : Act} {w : World} {K : Act → World → Prop} {Q : Exit → Act → World → Prop} {E : Prop} (hgd : o.guard = none) (d s : Operand)
    (ho : o.op = .call { callee := .builtin .copy, args := #[d, s], argTypes := #[59, 9] }) (g off dLen dCap : Nat) (t : ByteArray) (l : List UInt8) (hg : BlkB w g l)
    (hd : a.eval d = .slice (some ⟨g, off, none⟩) dLen dCap) (hs : a.eval s = .string t) (hle : t.size ≤ dLen) (hfit : off + t.size ≤ l.length)
    (h : ∀ w', Hid (BlkB w' g (spl l off t.data.toList)) → w.grownBy w' (some g) → K (a.put o.dst (goInt t.size)) w') :
    if Region.wanted o (yielded ops a.tmps) = true then Oper.wp Try.prog o a w K Q else E := by
  have hw : Region.wanted o (yielded ops a.tmps) = true := by simp [Region.wanted, hgd]
  rw [if_pos hw]
  exact wp_copyS w d s ho g off dLen dCap t l hg hd hs hle hfit h
theorem BlkB.drew {w : World} {g : Nat} {l : List UInt8} (h : BlkB w g l) : BlkB w.drew g l := h

theorem fileL_snoc (d : List UInt8) (l : List Pc) (f k : Nat) (h : k < l.length) : fileL d (l.take (k + 1)) f = if (gp l k).f = f then pput (fileL d (l.take k) f) (gp l k).a (gp l k).l else fileL d (l.take k) f := by
  rw [take_gp l k h, fileL_append, fileL_one]
theorem fileL_take_le (d : List UInt8) (l : List Pc) (f k : Nat) : (fileL d (l.take k) f).length ≤ (fileL d l f).length := by
  conv => rhs; rw [← List.take_append_drop k l, fileL_append]
  exact fileL_mono _ _ _
theorem blkB_conv {w : World} {g n : Nat} {l : List UInt8} (h : BlkB w g l) (hl : l.length = n) : (convert 59 9 (.slice (some ⟨g, 0, none⟩) n n)).run Try.prog w = .ok (.string (bs l)) w := by
  subst hl
  refine run_convert_bytes_back (P := Try.prog) w 59 9 5 ⟨g, 0, none⟩ l.length l Try.underlying59 Try.underlying5 Try.underlying9 fun j hj => ?_
  rw [Addr.add_lit, Nat.zero_add, Blk.cell h]
  simp [cl, hj]
theorem below_copy {w w1 w2 : World} {g : Nat} (h : Below w.heap.size w w1) (hg : w.heap.size ≤ g) (h2 : w1.grownBy w2 (some g)) : Below w.heap.size w w2 := h.trans (Below.of_grown h2 h.size hg)
theorem grown_drew {w w2 : World} {g : Nat} (h : w.drew.grownBy w2 (some g)) : w.grownBy w2 (some g) := ⟨h.os, h.tape, h.output, h.size, h.block⟩

def BytRel (w : World) (g n : Nat) (D : List UInt8) (l : List Pc) (F : Nat) (i : Value) (wl : World) : Prop := ∃ k : Nat, k ≤ l.length ∧ i = .int .i64 k ∧ BlkB wl g (padL n (fileL D (l.take k) F)) ∧ Below w.heap.size w wl
def BytPost (w : World) (s : Dk) (F : Nat) (e : Ending) (w' : World) : Prop := e = .returned (.string (s.bytes F)) ∧ Below w.heap.size w w'
set_option maxRecDepth 100000 in
set_option maxHeartbeats 4000000 in
theorem bytesP {B : Nat → Prop} {w : World} {db : Nat} {s : Dk} (h : DiskAt B w db s) (F : Nat) (hF : F < 8) :
    Calls Try.prog 23 #[.pointer (some ⟨db, 0, none⟩), .int .i64 F] w (BytPost w s F) := by
  have HI := Lib.hid (isPendingP h F)
  have HH := Lib.hid h
  have q0 : (0 : Int) ≤ (F : Int) := by omega
  have q8 : (F : Int) < 8 := by omega
  rcases hp : s.pending F
  · rw [hp] at HI
    have HE : Hid (s.bytes F = s.d F) := by
      refine Dk.bytes_none fun p hpm hpf => ?_
      have : s.pending F = true := by
        unfold Dk.pending
        rw [List.any_eq_true]
        exact ⟨p, hpm, by simp [hpf]⟩
      rw [hp] at this; cases this
    clear hp h
    go_enter Try.func23, Try.ntmps23
    go_wp2_with fail
    refine HI.out.mono ?_; rintro e w1 ⟨rfl, hB⟩
    have cf := (HH.out.below hB).cells.2.2.2.1 F hF
    go_wp2_with fail
    go_ret
    exact ⟨by rw [HE.out]; rfl, hB⟩
  · rw [hp] at HI
    clear hp
    have hbl := h.ok.bytes_le F
    have hps := Lib.hid h.ok.ps
    have hpn := h.ok.pn
    obtain ⟨n, hn⟩ : ∃ n, s.size F = n := ⟨_, rfl⟩
    have hn2 : (s.bytes F).size = n := by rw [← hn]; unfold Dk.size; rw [if_pos ⟨q0, q8⟩]; rfl
    have HBE : Hid (s.bytes F = bs (fileL (s.d F).data.toList s.pend F)) := rfl
    have hn3 : (fileL (s.d F).data.toList s.pend F).length = n := by rw [← hn2, HBE.out, bs_size]
    have hmk := mkB_all n (by omega)
    rw [hn2] at hbl
    have HN3 := Lib.hid hn3
    have HNN := Lib.hid hn
    have HDL := Lib.hid (fileL_mono (s.d F).data.toList s.pend F)
    clear h hn hn2 hn3
    go_enter Try.func23, Try.ntmps23
    go_wp2_with fail
    refine HI.out.mono ?_; rintro e w1 ⟨rfl, hB1⟩
    have HZ := Lib.hid (sizeP (HH.out.below hB1) F)
    rw [HNN.out] at HZ
    clear HI
    go_wp2_with fail
    refine HZ.out.mono ?_; rintro e w2 ⟨rfl, hB2⟩
    clear HZ
    have hB3 := chainB (chainB hB1 hB2) (below_new w2 (.cells (cl (List.replicate n 0)).toArray 5))
    have hD3 := HH.out.below hB3
    have cf := hD3.cells.2.2.2.1 F hF
    obtain ⟨d, hd⟩ : ∃ d, s.d F = d := ⟨_, rfl⟩
    rw [hd] at cf HBE HN3 HDL
    have hB2' := hB2.size
    have hB1' := hB1.size
    have HG : Hid (BlkB (w2.alloc (.cells (cl (List.replicate n 0)).toArray 5)) w2.heap.size (List.replicate n 0)) := Blk.new _ _ _
    have hwg : w.heap.size ≤ w2.heap.size := by omega
    have hdn : d.size ≤ n := by rw [← dl_len, ← HN3.out]; exact HDL.out
    have HB3 := Lib.hid hB3
    have HD := Lib.hid hd
    clear hB1 hB2 hB3 hD3 hd hB2' hB1'
    obtain ⟨_, v, u, dd, _⟩ := HH.out
    have HC8 := Lib.hid dd.c_tail.1
    obtain ⟨A, cap, rfl, -, -, -, hA⟩ := dd.own.cells
    obtain ⟨l, hl⟩ : ∃ l, s.pend = l := ⟨_, rfl⟩
    rw [hl] at HC8 hA hps HBE HN3 hpn
    clear dd hl
    go_wp2_with (refine wpList_copyS _ rfl _ _ rfl w2.heap.size 0 n n d (List.replicate n 0) HG.out rfl rfl hdn (by rw [List.length_replicate]; omega) ?_; intro w3 HC3 hG3; have c8 := keep_below (below_copy HB3.out hwg hG3) HC8.out; have HB4 := Lib.hid (below_copy HB3.out hwg hG3); clear hG3)
    have HC4 : Hid (BlkB w3 w2.heap.size (padL n d.data.toList)) := by
      have := HC3.out
      rw [pad_nil _ _ (by rw [dl_len]; exact hdn)] at this
      exact this
    clear HC3 HB3 HG c8
    go_loopw [7, 37] (fun x i wl => BytRel w w2.heap.size n d.data.toList l F i wl) (fun _ i _ => l.length - (intOf i).toNat)
    case atStart => exact ⟨0, by omega, rfl, HC4.out, HB4.out⟩
    case round =>
      obtain ⟨k, hk, rfl, hBk, hB⟩ := hrel
      have HBK := Lib.hid hBk
      by_cases hlt : k < l.length
      · obtain ⟨b, rfl, hb, hc⟩ := hA (by omega)
        have c1 := (hB.cell (p := ⟨b, k * 3, none⟩) hb).trans (hc k hlt).1
        have c2 := (hB.cell (p := ⟨b, k * 3 + 1, none⟩) hb).trans (hc k hlt).2.1
        have c3 := (hB.cell (p := ⟨b, k * 3 + 2, none⟩) hb).trans (hc k hlt).2.2
        have hmem : gp l k ∈ l := by rw [gp_get l k hlt]; exact List.getElem_mem hlt
        have HP := hps.out (gp l k) hmem
        have HSN := Lib.hid (fileL_snoc d.data.toList l F k hlt)
        have HRE := Lib.hid (fileL_reach d.data.toList l F (gp l k) hmem)
        rw [HN3.out] at HRE
        have HLE := Lib.hid (fileL_take_le d.data.toList l F k)
        rw [HN3.out] at HLE
        unfold Pc.l at HSN
        obtain ⟨xf, hxf⟩ : ∃ n, (gp l k).f = n := ⟨_, rfl⟩
        obtain ⟨xa, hxa⟩ : ∃ n, (gp l k).a = n := ⟨_, rfl⟩
        obtain ⟨xt, hxt⟩ : ∃ n, (gp l k).t = n := ⟨_, rfl⟩
        rw [hxf] at c1 HSN HRE
        rw [hxa] at c2 HSN HP HRE
        rw [hxt] at c3 HSN HP HRE
        have p1 := HP.2.1
        have p3 := HP.2.2.1
        have HB2 := Lib.hid (hB.trans ((below_new wr (.cells #[.int .i64 xf, .int .i64 xa, .string xt] 54)).mono hB.size))
        have HBN : Hid (BlkB (wr.alloc (.cells #[.int .i64 xf, .int .i64 xa, .string xt] 54)) w2.heap.size (padL n (fileL d.data.toList (l.take k) F))) := (hBk.below (below_new wr _) hBk.lt)
        have q1 : (k : Int) < l.length := by omega
        clear hA hc hxf hxa hxt HP hB hmem hBk
        by_cases hf : xf = F
        · subst hf
          have hre : xa + xt.size ≤ n := HRE.out rfl
          have HLL : Hid ((padL n (fileL d.data.toList (l.take k) xf)).length = n) := padL_length _ _ HLE.out
          have HNEW : Hid (spl (padL n (fileL d.data.toList (l.take k) xf)) xa xt.data.toList = padL n (fileL d.data.toList (l.take (k + 1)) xf)) := by
            show _ = _
            rw [HSN.out, if_pos rfl, pad_put _ _ _ _ HLE.out (by rw [dl_len]; exact hre)]
          have a1 : (0 : Int) ≤ (xa : Int) := by omega
          have a2 : (xa : Int) ≤ (n : Int) := by omega
          have a3 : ¬ n = xa := by omega
          have a4 : ((xa : Int)).toNat = xa := by omega
          clear HSN HRE
          go_wp2_with fail
          go_region_law (refine step_copyS rfl _ _ rfl w2.heap.size xa (n - xa) (n - xa) xt _ HBN.out (by simp [Act.eval, Act.put]) (by simp [Act.eval, Act.put]) (by omega) (by rw [HLL.out]; omega) ?_; intro w5 HC5 hG5)
          all_goals
            have hB5 : Hid (Below w.heap.size w w5) := by
              have h5 : (wr.alloc (.cells #[.int .i64 xf, .int .i64 xa, .string xt] 54)).grownBy w5 (some w2.heap.size) := ⟨hG5.os, hG5.tape, hG5.output, hG5.size, hG5.block⟩
              exact below_copy HB2.out hwg h5
            rw [HNEW.out] at HC5
            clear hG5
            go_wp2_with fail
            go_roundw
            case rel => exact ⟨k + 1, by omega, by go_num, HC5.out, hB5.out⟩
            case measure => simp [intOf]; omega
        · have hq : ((xf : Int) == (F : Int)) = false := by simp; omega
          have HM : Hid (padL n (fileL d.data.toList (l.take k) F) = padL n (fileL d.data.toList (l.take (k + 1)) F)) := by show _ = _; rw [HSN.out, if_neg hf]
          have hf2 : ¬ (xf : Int) = (F : Int) := by omega
          clear HSN HRE
          go_wp2_with fail
          go_roundw
          case rel => exact ⟨k + 1, by omega, by go_num, by rw [← HM.out]; exact HBN.out, HB2.out⟩
          case measure => simp [intOf]; omega
      · obtain rfl : k = l.length := by omega
        rw [List.take_length] at HBK
        have HRES : Hid (s.bytes F = bs (padL n (fileL d.data.toList l F))) := by
          show _ = _
          rw [HBE.out]
          conv => rhs; rw [← HN3.out, padL_full]
        have hcv := blkB_conv (n := n) HBK.out (by rw [padL_length _ _ (by rw [HN3.out]; exact Nat.le_refl _)])
        clear hA hBk
        go_wp2_with fail
        go_ret
        exact ⟨by rw [HRES.out]; rfl, hB⟩
end Go.Proofs.Ytlphblnnloigiaa
