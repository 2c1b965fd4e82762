/-
  Layer 6: slices.DeleteFunc of pieces.
-/
import Derived.Test.YtlphblnnloigiaaDf5
namespace Go.Proofs.Ytlphblnnloigiaa
set_option linter.unusedVariables false
set_option linter.unusedSimpArgs false
open Go.RowKit

/-- A row of pieces, and what stands behind them. -/
def PRow (w : World) (g : Nat) (c : List Pc) (rest : List Value) : Prop := Blk w g 54 (pc c ++ rest).toArray
theorem PRow.at_ {w : World} {g : Nat} {c : List Pc} {rest : List Value} (h : PRow w g c rest) (i : Nat) (hi : i < c.length) : w.cell? ⟨g, i * 3, none⟩ = some (.int .i64 (gp c i).f) ∧ w.cell? ⟨g, i * 3 + 1, none⟩ = some (.int .i64 (gp c i).a) ∧ w.cell? ⟨g, i * 3 + 2, none⟩ = some (.string (gp c i).t) := by
  have h1 := pc_at c i hi
  have hl := pc_length c
  simp only [Blk.cell h, List.getElem?_toArray]
  rw [List.getElem?_append_left (by omega), List.getElem?_append_left (by omega), List.getElem?_append_left (by omega)]
  exact h1
theorem PRow.free {w : World} {g : Nat} {c : List Pc} {rest : List Value} (h : PRow w g c rest) (i : Nat) : w.frozen? ⟨g, i, none⟩ = false := by
  unfold PRow Blk at h
  simp [World.frozen?, h]
theorem pc_set : ∀ (c : List Pc) (i : Nat) (x : Pc), i < c.length → (((pc c).set (i * 3) (.int .i64 x.f)).set (i * 3 + 1) (.int .i64 x.a)).set (i * 3 + 2) (.string x.t) = pc (c.set i x)
  | [], i, x, h => by simp at h
  | p :: c, 0, x, _ => rfl
  | p :: c, i + 1, x, h => by
    have := pc_set c i x (by simpa using h)
    rw [pc_cons, show (i + 1) * 3 = i * 3 + 1 + 1 + 1 by omega]
    simp only [List.set_cons_succ]
    rw [pc_cons, ← this]
theorem PRow.set {w : World} {g i : Nat} {c : List Pc} {rest : List Value} (h : PRow w g c rest) (hi : i < c.length) (x : Pc) :
    PRow (((w.setCell ⟨g, i * 3, none⟩ (.int .i64 x.f)).setCell ⟨g, i * 3 + 1, none⟩ (.int .i64 x.a)).setCell ⟨g, i * 3 + 2, none⟩ (.string x.t)) g (c.set i x) rest := by
  have h1 := blk_set (blk_set (blk_set h (i := i * 3) (.int .i64 x.f)) (i := i * 3 + 1) (.int .i64 x.a)) (i := i * 3 + 2) (.string x.t)
  have hl := pc_length c
  unfold PRow
  rw [← pc_set c i x hi, List.setIfInBounds_toArray, List.setIfInBounds_toArray, List.setIfInBounds_toArray,
    List.set_append_left _ _ (by omega), List.set_append_left _ _ (by rw [List.length_set]; omega), List.set_append_left _ _ (by rw [List.length_set, List.length_set]; omega)] at *
  exact h1

theorem filt_first {P : Pc → Bool} {l : List Pc} {k : Nat} (hk : k < l.length) (hp : P (gp l k) = true) (hn : ∀ i, i < k → P (gp l i) = false) : (l.take (k + 1)).filter (fun p => !P p) = l.take k := by
  rw [take_gp l k hk, List.filter_append, List.filter_cons_of_neg (by simp [hp]), List.filter_nil, List.append_nil, List.filter_eq_self]
  intro x hx
  obtain ⟨i, hi, rfl⟩ := List.mem_iff_getElem.1 hx
  rw [List.length_take] at hi
  rw [List.getElem_take, ← gp_get l i (by omega), hn i (by omega)]; rfl
theorem filt_none {P : Pc → Bool} {l : List Pc} (hn : ∀ i, i < l.length → P (gp l i) = false) : l.filter (fun p => !P p) = l := by
  rw [List.filter_eq_self]
  intro x hx
  obtain ⟨i, hi, rfl⟩ := List.mem_iff_getElem.1 hx
  rw [← gp_get l i hi, hn i hi]; rfl
theorem gp_drop {c l : List Pc} {j : Nat} (h : c.drop j = l.drop j) (hc : c.length = l.length) (hj : j < l.length) : gp c j = gp l j := by
  rw [gp_get c j (by omega), gp_get l j hj]
  have := congrArg (fun x => x[0]?) h
  simp only [List.getElem?_drop, Nat.add_zero] at this
  rw [List.getElem?_eq_getElem (by omega), List.getElem?_eq_getElem hj] at this
  injection this
structure DelAt (P : Pc → Bool) (l : List Pc) (i j : Nat) (c : List Pc) : Prop where
  ij : i < j
  jl : j ≤ l.length
  cl : c.length = l.length
  tk : c.take i = (l.take j).filter fun p => !P p
  dr : c.drop j = l.drop j
theorem DelAt.skip {P : Pc → Bool} {l : List Pc} {i j : Nat} {c : List Pc} (h : DelAt P l i j c) (hj : j < l.length) (hp : P (gp l j) = true) : DelAt P l i (j + 1) c := by
  refine ⟨by have := h.ij; omega, by omega, h.cl, ?_, ?_⟩
  · rw [h.tk, take_gp l j hj, List.filter_append, List.filter_cons_of_neg (by simp [hp]), List.filter_nil, List.append_nil]
  · rw [← List.drop_drop, ← List.drop_drop, h.dr]
theorem DelAt.keep {P : Pc → Bool} {l : List Pc} {i j : Nat} {c : List Pc} (h : DelAt P l i j c) (hj : j < l.length) (hp : P (gp l j) = false) : DelAt P l (i + 1) (j + 1) (c.set i (gp l j)) := by
  have h1 := h.ij
  have h2 := h.cl
  refine ⟨by omega, by omega, by rw [List.length_set, h.cl], ?_, ?_⟩
  · rw [take_gp l j hj, List.filter_append, List.filter_cons_of_pos (by simp [hp]), List.filter_nil, ← h.tk, List.take_succ_eq_append_getElem (by rw [List.length_set]; omega), List.take_set_of_le (Nat.le_refl _), List.getElem_set_self]
  · rw [List.drop_set_of_lt (by omega), ← List.drop_drop, ← List.drop_drop, h.dr]

theorem run_clearP (w : World) (ty : TypeId) (g i k n c2 : Nat) (c : List Pc) (rest : List Value) (h : PRow w g c rest) (hk : i + k = c.length) (hk0 : 0 < k) :
    ∃ w' rest', (Builtin.clear_ #[48] ty #[.slice (some ⟨g, i * 3, none⟩) k c2]).run Try.prog w = .ok (.tuple #[]) w' ∧ PRow w' g (c.take i) rest' ∧ rest'.length = k * 3 + rest.length ∧ w.grownBy w' (some g) := by
  have hu := run_underlying (P := Try.prog) Try.underlying48
  obtain ⟨i0, hq, hz, hi, _⟩ := info_parts infoP
  obtain ⟨k, rfl⟩ : ∃ m, k = m + 1 := ⟨k - 1, by omega⟩
  obtain ⟨zs, hzs⟩ : ∃ zs, (Builtin.zeroCells (Value.agg #[.int .i64 0, .int .i64 0, .string (bs [])]).cells (k + 1)).toList = zs := ⟨_, rfl⟩
  have hzl : zs.length = (k + 1) * 3 := by rw [← hzs]; simp [size_zeroCells, Value.cells]
  have hz1 : ∀ v ∈ zs, v.oneCell' = true := by
    intro v hv
    rw [← hzs] at hv
    simp [Builtin.zeroCells, Value.cells] at hv
    obtain ⟨a, _, rfl⟩ := hv
    have : a % 3 = 0 ∨ a % 3 = 1 ∨ a % 3 = 2 := by omega
    rcases this with h | h | h <;> simp [h] <;> rfl
  have hst := run_storeCells_at (P := Try.prog) g (i * 3) 54 zs 0 (pc c ++ rest).toArray w h (by simp [pc_length]; omega) hz1
  simp only [Nat.add_zero] at hst
  refine ⟨w.setRow g (List.take (i * 3) (pc c ++ rest).toArray.toList ++ zs ++ List.drop (i * 3 + zs.length) (pc c ++ rest).toArray.toList).toArray, zs ++ rest, ?_, ?_, by rw [List.length_append, hzl], ⟨rfl, rfl, rfl, ?_, ?_⟩⟩
  · simp [Builtin.clear_, hu, zeroValue, typeInfo, hq, hz, hzs, hst]
  · have e : (List.take (i * 3) (pc c ++ rest).toArray.toList ++ zs ++ List.drop (i * 3 + zs.length) (pc c ++ rest).toArray.toList) = pc (c.take i) ++ (zs ++ rest) := by
      simp only [List.append_assoc]
      rw [List.take_append_of_le_length (by rw [pc_length]; omega), pc_take, hzl, List.drop_append_of_le_length (by rw [pc_length]; omega), List.drop_eq_nil_of_le (by rw [pc_length]; omega)]
      rfl
    unfold PRow
    rw [← e]
    exact setRow_heap w g _ _ _ _ h
  · simp [World.setRow]
  · exact fun k hk hne => setRow_other w g k _ (fun e => hne (by rw [e]))
theorem wpList_clearP (w : World) {ops : Array Oper} {rest0 : List Oper} {o : Oper} {a : Act} {Q : Exit → Act → World → Prop} (hgd : o.guard = none) (d : Operand)
    (ho : o.op = .call { callee := .builtin .clear, args := #[d], argTypes := #[48] }) (g i k c2 : Nat) (c : List Pc) (rest : List Value) (h : PRow w g c rest) (hk : i + k = c.length) (hk0 : 0 < k)
    (hd : a.eval d = .slice (some ⟨g, i * 3, none⟩) k c2)
    (hh : ∀ w' rest', Hid (PRow w' g (c.take i) rest') → Hid (rest'.length = k * 3 + rest.length) → w.grownBy w' (some g) → wpList Try.prog ops Q rest0 (a.put o.dst (.tuple #[])) w') : wpList Try.prog ops Q (o :: rest0) a w := by
  obtain ⟨w', rest', hr, h1, h2, h3⟩ := run_clearP w o.type g i k k c2 c rest h hk hk0
  refine wpList_plain hgd fun _ hK => ?_
  unfold Oper.wp execOp
  simp only [ho, resolve, invoke, builtin, Sem.run_bind, Sem.run_pure, Result.andThen_ok, List.map_toArray, List.map_cons, List.map_nil, hd, hr]
  exact hK _ _ (hh w' rest' h1 h2 h3)
theorem PRow.own {w : World} {g cap : Nat} {c : List Pc} {rest : List Value} (h : PRow w g c rest) (hl : c.length * 3 + rest.length = cap * 3) (hm : cap ≤ maxLen) : OwnP w (.slice (some ⟨g, 0, none⟩) c.length cap) c := by
  refine ⟨pc_length c, .inr ⟨g, cap, _, rfl, Nat.zero_le _, h, by omega, hm, ?_, ?_⟩⟩
  · simp [pc_length]; omega
  · rw [← pc_length c]; simp
theorem OwnP.prow {w : World} {v : Value} {l : List Pc} (h : OwnP w v l) (h0 : 0 < l.length) : ∃ g cap rest, v = .slice (some ⟨g, 0, none⟩) l.length cap ∧ PRow w g l rest ∧ l.length * 3 + rest.length = cap * 3 ∧ cap ≤ maxLen := by
  rcases h.form with ⟨_, rfl⟩ | ⟨g, cap, cur, rfl, hg, h1, h2, h3, h4⟩
  · simp at h0
  · have hl : cur.toList.length = cap * 3 := by rw [Array.length_toList, h3]
    refine ⟨g, cap, cur.toList.drop (l.length * 3), rfl, ?_, ?_, h2⟩
    · unfold PRow Blk
      rw [← h4, List.take_append_drop, Array.toArray_toList]
      exact hg
    · rw [List.length_drop, hl]; omega
theorem PRow.grown {w w' : World} {g : Nat} {c : List Pc} {rest : List Value} {row : Option Nat} (h : PRow w g c rest) (hb : w.grownBy w' row) (hg : some g ≠ row) : PRow w' g c rest := Blk.grown h hb hg
theorem grown_trans {a b c : World} {r : Option Nat} (h : a.grownBy b r) (k : b.grownBy c r) : a.grownBy c r :=
  ⟨k.os.trans h.os, k.tape.trans h.tape, k.output.trans h.output, Nat.le_trans h.size k.size, fun i hi hne => (k.block i (Nat.lt_of_lt_of_le hi h.size) hne).trans (h.block i hi hne)⟩

def DelPost (P : Pc → Bool) (l : List Pc) (v : Value) (w : World) (e : Ending) (w' : World) : Prop := ∃ v', e = .returned v' ∧ OwnP w' v' (l.filter fun p => !P p) ∧ v'.ownBlock = v.ownBlock ∧ w.grownBy w' v.ownBlock
def DelRel (P : Pc → Bool) (l : List Pc) (w : World) (g : Nat) (rest : List Value) (x y : Value) (wl : World) : Prop := ∃ (i j : Nat) (c : List Pc), x = .int .i64 i ∧ y = .int .i64 j ∧ DelAt P l i j c ∧ PRow wl g c rest ∧ w.grownBy wl (some g)
theorem tells_keep {w w' : World} {fv : Value} {P : Pc → Bool} (h : Tells w fv P) (hs : w.heap.size ≤ w'.heap.size) (hb : ∀ F g, fv = .func (.func F) #[] #[.pointer (some ⟨g, 0, none⟩)] → w'.heap[g]? = w.heap[g]?) : Tells w' fv P := by
  obtain ⟨F, g, rfl, hF, hg, hT⟩ := h
  exact ⟨F, g, rfl, hF, by omega, fun p w2 h1 h2 => hT p w2 (by omega) (h2.trans (hb F g rfl))⟩

set_option maxRecDepth 100000 in
set_option maxHeartbeats 4000000 in
theorem deleteP (v : Value) (F : FuncId) (gf : Nat) (l : List Pc) (P : Pc → Bool) (w : World) (hF : F = 33) (hr : OwnP w v l) (hT : Tells w (.func (.func F) #[] #[.pointer (some ⟨gf, 0, none⟩)]) P) (hgf : gf < w.heap.size) (hne : v.ownBlock ≠ some gf) (hl : l.length ≤ 1000000) :
    Calls Try.prog 32 #[v, .func (.func F) #[] #[.pointer (some ⟨gf, 0, none⟩)]] w (DelPost P l v w) := by
  subst hF
  have HI := Lib.hid (indexP v _ l P w hr hT hl)
  have HR := Lib.hid hr
  have HT := Lib.hid hT
  clear hT
  go_enter Try.func32, Try.ntmps32
  go_wp2_with fail
  refine HI.out.mono ?_; rintro e w1 ⟨r, rfl, hfst, hB1⟩
  clear HI
  rcases hfst with ⟨rfl, hno⟩ | ⟨k, rfl, hk, hp, hn⟩
  · have HF : Hid (DelPost P l v w (.returned v) w1) := ⟨v, rfl, by rw [filt_none hno]; exact HR.out.heap (fun k _ hk => hB1.block k hk), rfl, grown_below hB1 _⟩
    clear hno hB1 hr
    go_wp2_with fail
    go_ret
    exact HF.out
  · obtain ⟨g, cap, rest, rfl, hrow, hlen, hm⟩ := hr.prow (by omega)
    have hrow1 : PRow w1 g l rest := hrow.grown (grown_below hB1 none) (by simp)
    have hgl := hrow.lt
    have HG1 : Hid (w.grownBy w1 (some g)) := grown_below hB1 _
    have HD0 : Hid (DelAt P l k (k + 1) l) := ⟨by omega, by omega, rfl, (filt_first hk hp hn).symm, rfl⟩
    have HROW := Lib.hid hrow1
    have HLEN := Lib.hid hlen
    have hkc : (k : Int) < l.length := by omega
    have hn0 : ¬ g = gf := fun e => hne (by rw [e]; rfl)
    have q3 : ((k : Int) == -1) = false := by simp
    have q4 : ¬ (k : Int) = -1 := by omega
    clear hp hn hrow hrow1 hlen hr hne hB1
    go_wp2_with fail
    go_loopw [5, 6, 7] (fun x y u wl => DelRel P l w g rest x y wl) (fun _ y _ _ => l.length - (intOf y).toNat)
    case atStart => exact ⟨k, k + 1, l, rfl, by go_num, HD0.out, HROW.out, HG1.out⟩
    case round =>
      obtain ⟨i, j, c, rfl, rfl, hD, hrow, hG⟩ := hrel
      have hij := hD.ij
      have hjl := hD.jl
      by_cases hlt : j < l.length
      · have hgc := gp_drop hD.dr hD.cl hlt
        have h1 := hrow.at_ j (by rw [hD.cl]; exact hlt)
        rw [hgc] at h1
        obtain ⟨c1, c2, c3⟩ := h1
        have HDD := Lib.hid hD
        obtain ⟨xf, hxf⟩ : ∃ n, (gp l j).f = n := ⟨_, rfl⟩
        obtain ⟨xa, hxa⟩ : ∃ n, (gp l j).a = n := ⟨_, rfl⟩
        obtain ⟨xt, hxt⟩ : ∃ n, (gp l j).t = n := ⟨_, rfl⟩
        have hx : gp l j = ⟨xf, xa, xt⟩ := by rw [← hxf, ← hxa, ← hxt]
        rw [hxf] at c1
        rw [hxa] at c2
        rw [hxt] at c3
        have HX := Lib.hid hx
        have hT2 := HT.out
        obtain ⟨_, _, he, _, _, hTc⟩ := hT2
        injection he with he1 _ he2
        injection he1 with he1
        subst he1
        obtain rfl : gf = _ := by simpa using he2
        have hbn := below_new wr (.cells #[.int .i64 xf, .int .i64 xa, .string xt] 54)
        have HC := Lib.hid (hTc (gp l j) (wr.alloc (.cells #[.int .i64 xf, .int .i64 xa, .string xt] 54)) (by have := hG.size; have := hbn.size; omega) ((hbn.block gf (by have := hG.size; omega)).trans (hG.block gf hgf (by intro e; injection e with e; exact hn0 e.symm))))
        rw [hx] at HC
        unfold pv at HC
        simp only at HC
        have HROW2 : Hid (PRow (wr.alloc (.cells #[.int .i64 xf, .int .i64 xa, .string xt] 54)) g c rest) := hrow.grown (grown_below hbn none) (by simp)
        have HG2 : Hid (w.grownBy (wr.alloc (.cells #[.int .i64 xf, .int .i64 xa, .string xt] 54)) (some g)) := grown_trans hG (grown_below hbn _)
        obtain ⟨R, hR⟩ : ∃ R, P ⟨xf, xa, xt⟩ = R := ⟨_, rfl⟩
        rw [hR] at HC
        have HRR := Lib.hid hR
        have hcl : c.length = l.length := hD.cl
        have q1 : (j : Int) < l.length := by omega
        have q2 : (i : Int) < l.length := by omega
        have hbz := Blk.new wr 54 #[.int .i64 xf, .int .i64 xa, .string xt]
        have HBZ := Lib.hid hbz
        have HCL := Lib.hid hcl
        clear hD hrow hG hgc hxf hxa hxt hx he2 hTc hbn hR hcl hbz
        go_wp2_with fail
        refine HC.out.mono ?_; rintro e w2 ⟨rfl, hB2⟩
        clear HC
        have hrow2 : PRow w2 g c rest := HROW2.out.grown (grown_below hB2 none) (by simp)
        have HG3 : Hid (w.grownBy w2 (some g)) := grown_trans HG2.out (grown_below hB2 _)
        cases R
        · have hb2 : Blk w2 wr.heap.size 54 #[.int .i64 xf, .int .i64 xa, .string xt] := HBZ.out.below hB2 HBZ.out.lt
          have x1 : w2.cell? ⟨wr.heap.size, 0, none⟩ = some (.int .i64 xf) := hb2.cell 0
          have x2 : w2.cell? ⟨wr.heap.size, 1, none⟩ = some (.int .i64 xa) := hb2.cell 1
          have x3 : w2.cell? ⟨wr.heap.size, 2, none⟩ = some (.string xt) := hb2.cell 2
          obtain ⟨y1, y2, y3⟩ := hrow2.at_ i (by rw [HCL.out]; omega)
          have z1 := hrow2.free (i * 3)
          have z2 := hrow2.free (i * 3 + 1)
          have z3 := hrow2.free (i * 3 + 2)
          have HN := Lib.hid (hrow2.set (i := i) (by rw [HCL.out]; omega) ⟨xf, xa, xt⟩)
          have HGS : Hid (w2.grownBy (((w2.setCell ⟨g, i * 3, none⟩ (.int .i64 xf)).setCell ⟨g, i * 3 + 1, none⟩ (.int .i64 xa)).setCell ⟨g, i * 3 + 2, none⟩ (.string xt)) (some g)) := grown_trans (grown_set _ _ _ _) (grown_trans (grown_set _ _ _ _) (grown_set _ _ _ _))
          have HDN := Lib.hid (HDD.out.keep hlt (by rw [HX.out]; exact HRR.out))
          rw [HX.out] at HDN
          clear hrow2 hb2 hB2
          go_wp2_with fail
          go_roundw
          case rel => exact ⟨i + 1, j + 1, _, by go_num, by go_num, HDN.out, HN.out, grown_trans HG3.out HGS.out⟩
          case measure => simp [intOf]; omega
        · have HDN := Lib.hid (HDD.out.skip hlt (by rw [HX.out]; exact HRR.out))
          have HROW3 := Lib.hid hrow2
          clear hrow2 hB2
          go_wp2_with fail
          go_roundw
          case rel => exact ⟨i, j + 1, c, rfl, by go_num, HDN.out, HROW3.out, HG3.out⟩
          case measure => simp [intOf]; omega
      · obtain rfl : j = l.length := by omega
        have hcl := hD.cl
        have HDD := Lib.hid hD
        have HROW := Lib.hid hrow
        have HG3 := Lib.hid hG
        have HCL := Lib.hid hcl
        have y1 : (0 : Int) ≤ (i : Int) := by omega
        have y2 : (i : Int) ≤ l.length := by omega
        have y3 : ((i : Int)).toNat = i := by omega
        have y4 : l.length ≤ cap := by have := HLEN.out; omega
        have y5 : ¬ cap = i := by omega
        have y6 : (l.length : Int) ≤ cap := by omega
        have y7 : (i : Int) ≤ cap := by omega
        clear hD hrow hG hcl
        go_wp2_with (refine wpList_clearP _ rfl _ rfl g i (l.length - i) (cap - i) c rest HROW.out (by rw [HCL.out]; omega) (by omega) rfl ?_; intro w3 rest3 HR3 HL3 hG4)
        go_ret
        refine ⟨_, rfl, ?_, rfl, grown_trans HG3.out hG4⟩
        have h5 := HR3.out.own (cap := cap) (by rw [HL3.out, List.length_take, HCL.out]; have := HLEN.out; omega) hm
        rw [List.length_take, HCL.out, Nat.min_eq_left (by omega), HDD.out.tk, List.take_length] at h5
        exact h5
end Go.Proofs.Ytlphblnnloigiaa
