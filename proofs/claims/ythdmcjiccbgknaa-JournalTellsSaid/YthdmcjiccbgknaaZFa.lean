/-
  Layer 6: the closures of isPending and settle; IndexFunc, ContainsFunc; isFile, isPending.
  Layer 6: check, Down, Start, Lose, count.
  Layer 6: slices.Clone of ints and of pieces, Arm, survives.
  Layer 6: Size, bytes.
-/
import Derived.Test.YthdmcjiccbgknaaDm
import Derived.Lib.MinMax
import Derived.Lib.BufferWrite
import Derived.Laws.IdiomStrings
namespace Go.Proofs.Ythdmcjiccbgknaa
set_option linter.unusedVariables false
set_option linter.unusedSimpArgs false
open Go.RowKit

def isPc (f : Int) (p : Pc) : Bool := decide ((p.f : Int) = f)

set_option maxRecDepth 100000 in
set_option maxHeartbeats 1000000 in
theorem pendC (p : Pc) (f : Int) (g : Nat) (w : World) (hg : g < w.heap.size) (d1 : w.cell? ⟨g, 0, none⟩ = some (.int .i64 f)) :
    Calls Try.prog 99 #[pv p, .pointer (some ⟨g, 0, none⟩)] w fun e w' => e = .returned (.bool (isPc f p)) ∧ Below w.heap.size w w' := by
  unfold pv isPc
  have e1 := keep_below (below_new w (.cells #[.int .i64 p.f, .int .i64 p.a, .string p.t] 83)) d1
  have hb0 := Lib.hid (below_new w (.cells #[.int .i64 p.f, .int .i64 p.a, .string p.t] 83))
  go_enter Try.func99, Try.ntmps99
  go_wp2_with fail
  go_ret
  exact ⟨rfl, hb0.out⟩
set_option maxRecDepth 100000 in
set_option maxHeartbeats 1000000 in
theorem setlC (p : Pc) (f : Int) (g : Nat) (w : World) (hg : g < w.heap.size) (d1 : w.cell? ⟨g, 0, none⟩ = some (.int .i64 f)) :
    Calls Try.prog 88 #[pv p, .pointer (some ⟨g, 0, none⟩)] w fun e w' => e = .returned (.bool (isPc f p)) ∧ Below w.heap.size w w' := by
  unfold pv isPc
  have e1 := keep_below (below_new w (.cells #[.int .i64 p.f, .int .i64 p.a, .string p.t] 83)) d1
  have hb0 := Lib.hid (below_new w (.cells #[.int .i64 p.f, .int .i64 p.a, .string p.t] 83))
  go_enter Try.func88, Try.ntmps88
  go_wp2_with fail
  go_ret
  exact ⟨rfl, hb0.out⟩

/-- The first index at which P holds, or -1. -/
def FirstAt (P : Pc → Bool) (l : List Pc) (r : Int) : Prop := (r = -1 ∧ ∀ i, i < l.length → P (gp l i) = false) ∨ ∃ k : Nat, r = k ∧ k < l.length ∧ P (gp l k) = true ∧ ∀ i, i < k → P (gp l i) = false
def IdxPost (P : Pc → Bool) (l : List Pc) (w : World) (e : Ending) (w' : World) : Prop :=
  ∃ r : Int, e = .returned (.int .i64 r) ∧ FirstAt P l r ∧ Below w.heap.size w w'
/-- A function value that tells P. -/
def Tells (w : World) (fv : Value) (P : Pc → Bool) : Prop := ∃ (F : FuncId) (g : Nat), fv = .func (.func F) #[] #[.pointer (some ⟨g, 0, none⟩)] ∧ (F = 99 ∨ F = 88) ∧ g < w.heap.size ∧ ∀ (p : Pc) (w' : World), w.heap.size ≤ w'.heap.size → w'.heap[g]? = w.heap[g]? → Calls Try.prog F #[pv p, .pointer (some ⟨g, 0, none⟩)] w' fun e w2 => e = .returned (.bool (P p)) ∧ Below w'.heap.size w' w2
theorem any_of_first {P : Pc → Bool} {l : List Pc} {r : Int} (h : FirstAt P l r) : l.any P = decide (0 ≤ r) := by
  rcases h with ⟨rfl, h⟩ | ⟨k, rfl, hk, hp, _⟩
  · rw [decide_eq_false (by omega), List.any_eq_false]
    intro x hx
    obtain ⟨i, hi, rfl⟩ := List.mem_iff_getElem.1 hx
    rw [← gp_get l i hi, h i hi]; simp
  · rw [decide_eq_true (by omega), List.any_eq_true]
    exact ⟨l[k], List.getElem_mem hk, by rw [← gp_get l k hk]; exact hp⟩
theorem chainB {a b c : World} (h : Below a.heap.size a b) (k : Below b.heap.size b c) : Below a.heap.size a c := h.trans (k.mono h.size)

set_option maxRecDepth 100000 in
set_option maxHeartbeats 2000000 in
theorem indexP (v fv : Value) (l : List Pc) (P : Pc → Bool) (w : World) (hr : OwnP w v l) (hT : Tells w fv P) (hl : l.length ≤ 1000000) :
    Calls Try.prog 100 #[v, fv] w (IdxPost P l w) := by
  obtain ⟨A, cap, rfl, -, -, -, hA⟩ := hr.cells
  clear hr
  obtain ⟨F, g, rfl, hF, hg, hT⟩ := hT
  have HT := Lib.hid hT; clear hT
  rcases hF with rfl | rfl
  all_goals
    go_enter Try.func100, Try.ntmps100
    go_wp2_with fail
    go_loopw [5, 8] (fun u i wl => ∃ k : Nat, k ≤ l.length ∧ i = .int .i64 k ∧ (∀ i, i < k → P (gp l i) = false) ∧ Below w.heap.size w wl) (fun _ i _ => l.length - (intOf i).toNat)
    case atStart => exact ⟨0, by omega, rfl, fun i h => by omega, Below.refl _ _⟩
    case round =>
      obtain ⟨k, hk, rfl, hnot, hB⟩ := hrel
      have HNOT := Lib.hid hnot; clear hnot
      by_cases hlt : k < l.length
      · obtain ⟨b, rfl, hb, hc⟩ := hA (by omega)
        have c1 := (hB.cell (p := ⟨b, k * 3, none⟩) hb).trans (hc k hlt).1
        have c2 := (hB.cell (p := ⟨b, k * 3 + 1, none⟩) hb).trans (hc k hlt).2.1
        have c3 := (hB.cell (p := ⟨b, k * 3 + 2, none⟩) hb).trans (hc k hlt).2.2
        have HX := Lib.hid (HT.out (gp l k) wr hB.size (hB.block g hg))
        unfold pv at HX
        obtain ⟨R, hR⟩ : ∃ R, P (gp l k) = R := ⟨_, rfl⟩
        obtain ⟨xf, hxf⟩ : ∃ n, (gp l k).f = n := ⟨_, rfl⟩
        obtain ⟨xa, hxa⟩ : ∃ n, (gp l k).a = n := ⟨_, rfl⟩
        obtain ⟨xt, hxt⟩ : ∃ n, (gp l k).t = n := ⟨_, rfl⟩
        rw [hxf] at c1
        rw [hxa] at c2
        rw [hxt] at c3
        rw [hR, hxf, hxa, hxt] at HX
        have HR := Lib.hid hR
        clear hA hc hxf hxa hxt hR
        have q1 : (k : Int) < l.length := by omega
        go_wp2_with fail
        refine HX.out.mono ?_; rintro e w1 ⟨rfl, hB1⟩
        have hB2 := chainB hB hB1
        cases R
        · go_wp2_with fail
          go_roundw
          case rel => exact ⟨k + 1, by omega, by go_num, fun i hi => if h : i = k then by rw [h]; exact HR.out else HNOT.out i (by omega), hB2⟩
          case measure => simp [intOf]; omega
        · go_wp2_with fail
          go_ret
          exact ⟨k, rfl, .inr ⟨k, rfl, hlt, HR.out, HNOT.out⟩, hB2⟩
      · obtain rfl : k = l.length := by omega
        go_wp2_with fail
        go_ret
        exact ⟨-1, rfl, .inl ⟨rfl, HNOT.out⟩, hB⟩

set_option maxRecDepth 100000 in
theorem containsP (v fv : Value) (l : List Pc) (P : Pc → Bool) (w : World) (hr : OwnP w v l) (hT : Tells w fv P) (hl : l.length ≤ 1000000) :
    Calls Try.prog 98 #[v, fv] w fun e w' => e = .returned (.bool (l.any P)) ∧ Below w.heap.size w w' := by
  have HI := Lib.hid (indexP v fv l P w hr hT hl)
  clear hr hT
  go_enter Try.func98, Try.ntmps98
  go_wp2_with fail
  refine HI.out.mono ?_; rintro e w1 ⟨r, rfl, hr, hB⟩
  have HR : Hid (l.any P = decide (0 ≤ r)) := any_of_first hr
  clear hr
  by_cases h0 : 0 ≤ r
  all_goals
    go_wp2_with fail
    go_ret
    exact ⟨by rw [HR.out]; first | rfl | (simp; omega), hB⟩

theorem isFileP (f : Int) (w : World) : Calls Try.prog 90 #[.int .i64 f] w fun e w' => e = .returned (.bool (isF f)) ∧ w = w' := by
  have HF : Hid (isF f = decide (0 ≤ f ∧ f < 8)) := rfl
  by_cases h1 : 0 ≤ f
  · have d1 : decide (f ≥ 0) = true := by simp [h1]
    by_cases h2 : f < 8
    all_goals
      go_enter Try.func90, Try.ntmps90
      go_wp2_with fail
      go_ret
      exact ⟨by rw [HF.out]; simp [h1, h2], rfl⟩
  · have d1 : decide (f ≥ 0) = false := by simp; omega
    go_enter Try.func90, Try.ntmps90
    go_wp2_with fail
    go_ret
    exact ⟨by rw [HF.out, decide_eq_false (by omega)]; rfl, rfl⟩

theorem pending_eq (s : Dk) (f : Nat) : (s.pend.any (isPc f)) = s.pending f := by
  unfold Dk.pending
  congr 1; funext p; unfold isPc; rw [Bool.eq_iff_iff, decide_eq_true_iff, decide_eq_true_iff]; omega
set_option maxRecDepth 100000 in
set_option maxHeartbeats 1000000 in
theorem isPendingP {B : Nat → Prop} {w : World} {db : Nat} {s : Dk} (h : DiskAt B w db s) (f : Nat) :
    Calls Try.prog 86 #[.pointer (some ⟨db, 0, none⟩), .int .i64 f] w fun e w' => e = .returned (.bool (s.pending f)) ∧ Below w.heap.size w w' := by
  obtain ⟨_, v, u, h, _⟩ := h
  have hb0 := below_new w (.cells #[.int .i64 (f : Int)] 3)
  have c8 := keep_below hb0 h.c_tail.1
  have HC := Lib.hid (containsP v (.func (.func 99) #[] #[.pointer (some ⟨w.heap.size, 0, none⟩)]) s.pend (isPc f) (w.alloc (.cells #[.int .i64 (f : Int)] 3)) (h.own.heap (fun k _ hk => hb0.block k hk))
    ⟨_, _, rfl, .inl rfl, by simp, fun p w' hs hw' => pendC p f w.heap.size w' (by have := size_new w (.cells #[.int .i64 (f : Int)] 3); omega) (by
      have := (Blk.new w 3 #[.int .i64 (f : Int)])
      have hb2 : Blk w' w.heap.size 3 #[.int .i64 (f : Int)] := hw'.trans this
      rw [hb2.cell]; rfl)⟩ h.ok.pn)
  have HP := Lib.hid (pending_eq s f)
  have HB := Lib.hid hb0
  clear h hb0
  go_enter Try.func86, Try.ntmps86
  go_wp2_with fail
  refine HC.out.mono ?_; rintro e w1 ⟨rfl, hB⟩
  rw [HP.out]
  go_wp2_with fail
  go_ret
  exact ⟨rfl, chainB HB.out hB⟩
end Go.Proofs.Ythdmcjiccbgknaa

namespace Go.Proofs.Ythdmcjiccbgknaa
set_option linter.unusedVariables false
set_option linter.unusedSimpArgs false
open Go.RowKit

def Dk.chkL (s : Dk) (fs : List Int) : Int := if s.down = true then 10 else if fs.all isF = true then 0 else 1
set_option maxRecDepth 100000 in
set_option maxHeartbeats 1000000 in
theorem checkP {B : Nat → Prop} {w : World} {db : Nat} {s : Dk} (h : DiskAt B w db s) (v : Value) (fs : List Int) (hr : IRow w w.heap.size v fs) (hl : fs.length ≤ 1000) :
    Calls Try.prog 64 #[.pointer (some ⟨db, 0, none⟩), v] w fun e w' => e = .returned (.int .i64 (s.chkL fs)) ∧ w = w' := by
  obtain ⟨c9, -, -, -, -⟩ := h.cells
  obtain ⟨A, cap, rfl, -, -, -, hA⟩ := hr
  have HC : Hid (s.chkL fs = if s.down = true then 10 else if fs.all isF = true then 0 else 1) := rfl
  generalize s.chkL fs = C at *
  clear h
  rcases hd : s.down
  · rw [hd] at HC c9
    clear hd
    go_enter Try.func64, Try.ntmps64
    go_wp2_with fail
    go_loop [6, 13] (fun u i => ∃ k : Nat, k ≤ fs.length ∧ i = .int .i64 k ∧ ∀ j (h : j < fs.length), j < k → isF fs[j] = true) (fun _ i => fs.length - (intOf i).toNat)
    case atStart => exact ⟨0, by omega, rfl, fun j h h2 => by omega⟩
    case round =>
      obtain ⟨k, hk, rfl, hall⟩ := hrel
      have HALL := Lib.hid hall; clear hall
      by_cases hlt : k < fs.length
      · obtain ⟨b, off, rfl, hb, hc⟩ := hA (by omega)
        have c1 := hc k hlt
        obtain ⟨x, hx⟩ : ∃ x, fs[k] = x := ⟨_, rfl⟩
        rw [hx] at c1
        have HX := Lib.hid hx
        obtain ⟨q, hq⟩ : ∃ q, isF x = q := ⟨_, rfl⟩
        have HI := Lib.hid (isFileP x w)
        rw [hq] at HI
        have HQ := Lib.hid hq
        have q1 : (k : Int) < fs.length := by omega
        clear hA hc hx hq
        go_wp2_with fail
        refine HI.out.mono ?_; rintro e w1 ⟨rfl, rfl⟩
        cases q
        · go_wp2_with fail
          go_ret
          refine ⟨?_, rfl⟩
          rw [HC.out, if_neg (by simp), if_neg]
          · rfl
          · intro h
            rw [List.all_eq_true] at h
            have := h fs[k] (List.getElem_mem hlt)
            rw [HX.out, HQ.out] at this
            cases this
        · go_wp2_with fail
          go_round
          case rel => exact ⟨k + 1, by omega, by go_num, fun j h hj => if e : j = k then by subst e; rw [HX.out]; exact HQ.out else HALL.out j h (by omega)⟩
          case measure => simp [intOf]; omega
      · obtain rfl : k = fs.length := by omega
        go_wp2_with fail
        go_ret
        refine ⟨?_, rfl⟩
        rw [HC.out, if_neg (by simp), if_pos]
        · rfl
        · rw [List.all_eq_true]
          intro x hx
          obtain ⟨j, hj, rfl⟩ := List.mem_iff_getElem.1 hx
          exact HALL.out j hj hj
  · rw [hd] at HC c9
    clear hd
    go_enter Try.func64, Try.ntmps64
    go_wp2_with fail
    go_ret
    exact ⟨by rw [HC.out]; rfl, rfl⟩
theorem chk_one (s : Dk) (f : Int) : s.chkL [f] = s.chk f := by
  unfold Dk.chkL Dk.chk
  cases s.down <;> cases h : isF f <;> simp [h]

theorem downP {B : Nat → Prop} {w : World} {db : Nat} {s : Dk} (h : DiskAt B w db s) :
    Calls Try.prog 74 #[.pointer (some ⟨db, 0, none⟩)] w fun e w' => e = .returned (.bool s.down) ∧ w = w' := by
  obtain ⟨c9, -, -, -, -⟩ := h.cells
  go_enter Try.func74, Try.ntmps74
  go_wp2_with fail
  go_ret
  exact ⟨rfl, rfl⟩
theorem startP {B : Nat → Prop} {w : World} {db : Nat} {s : Dk} (h : DiskAt B w db s) :
    Calls Try.prog 20 #[.pointer (some ⟨db, 0, none⟩)] w fun e w' => e = .returned (.tuple #[]) ∧ Op B w w' db s.start := by
  obtain ⟨c9, -, -, -, fz⟩ := h.cells
  have f9 := fz 9
  have HO := Lib.hid (h.set_down false)
  clear fz h
  go_enter Try.func20, Try.ntmps20
  go_wp2_with fail
  go_end0
  exact ⟨rfl, HO.out⟩
set_option maxHeartbeats 1000000 in
theorem loseP {B : Nat → Prop} {w : World} {db : Nat} {s : Dk} (h : DiskAt B w db s) (n : Int) (hn : n ≤ 9223372036854775807) :
    Calls Try.prog 22 #[.pointer (some ⟨db, 0, none⟩), .int .i64 n] w fun e w' => e = .returned (.tuple #[]) ∧ Op B w w' db (s.lose n) := by
  obtain ⟨-, c10, -, -, fz⟩ := h.cells
  have f10 := fz 10
  have HO := Lib.hid (h.set_lost n.toNat (by omega))
  have e : ((n.toNat : Nat) : Int) = max n 0 := by omega
  rw [e] at HO
  clear fz h e
  go_enter Try.func22, Try.ntmps22
  go_wp2_with fail
  go_end0
  exact ⟨rfl, HO.out⟩

set_option maxHeartbeats 1000000 in
theorem countP {B : Nat → Prop} {w : World} {db : Nat} {s : Dk} (h : DiskAt B w db s) :
    Calls Try.prog 68 #[.pointer (some ⟨db, 0, none⟩)] w fun e w' => e = .returned (.bool s.due) ∧ Op B w w' db s.tick := by
  obtain ⟨c9, -, c11, -, fz⟩ := h.cells
  have f11 := fz 11
  have hca := h.ok.ca
  have HR := Lib.hid (Op.refl h)
  have HS := Lib.hid (h.set_calls (s.calls - 1) (by omega))
  clear fz h
  obtain ⟨dur, pend, down, lost, c, keep⟩ := s
  simp only at c9 c11 hca
  rcases down with _ | _
  · by_cases h0 : c = 0
    · subst h0
      have HD : Hid (Dk.due ⟨dur, pend, false, lost, 0, keep⟩ = false) := rfl
      have HT : Hid (Dk.tick ⟨dur, pend, false, lost, 0, keep⟩ = ⟨dur, pend, false, lost, 0, keep⟩) := rfl
      rw [HT.out, HD.out]
      go_enter Try.func68, Try.ntmps68
      go_wp2_with fail
      go_ret
      exact ⟨rfl, HR.out⟩
    · obtain ⟨m, rfl⟩ : ∃ m, c = m + 1 := ⟨c - 1, by omega⟩
      have HD : Hid (Dk.due ⟨dur, pend, false, lost, m + 1, keep⟩ = decide (m = 0)) := by
        show _ = _
        unfold Dk.due; simp
      have HT : Hid (Dk.tick ⟨dur, pend, false, lost, m + 1, keep⟩ = ⟨dur, pend, false, lost, m, keep⟩) := rfl
      rw [HT.out, HD.out]
      obtain ⟨C, hC⟩ : ∃ C : Int, ((m + 1 : Nat) : Int) = C := ⟨_, rfl⟩
      rw [hC] at c11
      have e : ((m + 1 - 1 : Nat) : Int) = C - 1 := by omega
      simp only [e] at HS
      have q0 : ¬ C = 0 := by omega
      have q1 : 1 ≤ C := by omega
      have q3 : C ≤ 9223372036854775807 := by omega
      have HE : Hid (decide (C - 1 = 0) = decide (m = 0)) := by
        show _ = _
        rw [Bool.eq_iff_iff, decide_eq_true_iff, decide_eq_true_iff]; omega
      clear hC e
      go_enter Try.func68, Try.ntmps68
      go_wp2_with fail
      go_ret
      refine ⟨?_, HS.out⟩
      rw [← HE.out]
      rfl
  · have HD : Hid (Dk.due ⟨dur, pend, true, lost, c, keep⟩ = false) := rfl
    have HT : Hid (Dk.tick ⟨dur, pend, true, lost, c, keep⟩ = ⟨dur, pend, true, lost, c, keep⟩) := rfl
    rw [HT.out, HD.out]
    go_enter Try.func68, Try.ntmps68
    go_wp2_with fail
    go_ret
    exact ⟨rfl, HR.out⟩
end Go.Proofs.Ythdmcjiccbgknaa

namespace Go.Proofs.Ythdmcjiccbgknaa
set_option linter.unusedVariables false
set_option linter.unusedSimpArgs false
open Go.RowKit

/-- A copy of a row of ints, in a block of its own. -/
def CloneI (w : World) (l : List Int) (e : Ending) (w' : World) : Prop := ∃ u, e = .returned u ∧ IRow w' w'.heap.size u l ∧ (∀ k, u.ownBlock = some k → w.heap.size ≤ k ∧ k < w'.heap.size) ∧ Below w.heap.size w w'
def CloneP (w : World) (l : List Pc) (e : Ending) (w' : World) : Prop := ∃ u, e = .returned u ∧ OwnP w' u l ∧ (∀ k, u.ownBlock = some k → w.heap.size ≤ k ∧ k < w'.heap.size) ∧ Below w.heap.size w w'

theorem irow_of_own {w : World} {base : Nat} {v : Value} {l : List Int} (h : w.ownsRow base 3 1 v l.length (iv l)) : IRow w w.heap.size v l := by
  rcases h.2 with ⟨rfl, h0⟩ | ⟨g, cap, cur, rfl, hb, hg, h1, h2, h3, h4⟩
  · obtain rfl : l = [] := List.eq_nil_of_length_eq_zero h0
    exact irow_nil _ _
  · refine ⟨_, cap, rfl, h1, h2, (fun e => by cases e), fun _ => ⟨g, 0, rfl, (Array.getElem?_eq_some_iff.1 hg).1, fun i hi => ?_⟩⟩
    rw [Nat.zero_add, h.cellAt i (by omega), iv_get, List.getElem?_eq_getElem hi]; rfl

set_option maxRecDepth 100000 in
set_option maxHeartbeats 1000000 in
theorem cloneI (v : Value) (l : List Int) (w : World) (hr : IRow w w.heap.size v l) (hlen : l.length ≤ 1000000) :
    Calls Try.prog 67 #[v] w (CloneI w l) := by
  obtain ⟨A, cap, rfl, hc1, hc2, hnil, hA⟩ := hr
  have heq := fun (A : Option Addr) (n c n1 c1 : Nat) (w : World) => Lib.run_eql_slice_nil (P := Try.prog) w 37 3 A n c n1 c1 Try.underlying37
  rcases A with _ | ⟨b, off, sp⟩
  · have h0 : l.length = 0 := by
      rcases Nat.eq_zero_or_pos l.length with h | h
      · exact h
      · obtain ⟨b, off, h, _⟩ := hA h; cases h
    have hc := hnil rfl
    obtain rfl : l = [] := List.eq_nil_of_length_eq_zero h0
    subst hc
    clear hnil hA h0 hlen hc1 hc2
    go_enter Try.func67, Try.ntmps67
    go_wp2_with fail
    go_ret
    exact ⟨_, rfl, irow_nil _ _, (fun k hk => by simp [Value.ownBlock] at hk), Below.refl _ _⟩
  · obtain ⟨i0, hi, hz0, hz1, hz2⟩ := info_parts infoI
    have hcl : ∀ j u, (iv l)[j]? = some u → w.cell? ((⟨b, off, sp⟩ : Addr).add j) = some u := by
      rcases Nat.eq_zero_or_pos l.length with h | h
      · obtain rfl : l = [] := List.eq_nil_of_length_eq_zero h
        intro j u hu; simp [iv] at hu
      · obtain ⟨b', off', h1, h2, h3⟩ := hA h
        injection h1 with h1
        rw [h1]
        intro j u hu
        rw [Addr.add_lit]
        have hj : j < l.length := by rw [← iv_length]; exact (List.getElem?_eq_some_iff.1 hu).1
        rw [iv_get, List.getElem?_eq_getElem hj] at hu
        rw [h3 j hj]; exact hu
    have HCL : Hid (∀ j u, (iv l)[j]? = some u → (w.alloc (.cells #[] 3)).cell? ((⟨b, off, sp⟩ : Addr).add j) = some u) := fun j u hu => keep_below (below_new _ _) (hcl j u hu)
    have hown : (w.alloc (.cells #[] 3)).ownsRow w.heap.size 3 1 (.slice (some ⟨w.heap.size, 0, none⟩) 0 0) 0 [] := World.ownsRow_made w #[] 0 (Nat.le_refl _) (by decide) rfl
    have HOWN := Lib.hid hown
    clear hcl hA hnil hown
    go_enter Try.func67, Try.ntmps67
    go_wp2_with (at_builtin; refine wpList_append_own _ rfl _ _ 37 rfl w.heap.size 3 i0 (.int .i64 0) 1 8 Try.underlying37 hi hz0 hz1 hz2 rfl (by decide) _ 0 [] rfl HOWN.out ⟨b, off, sp⟩ l.length cap (iv l) rfl ?c1 HCL.out ?c2 ?c3 ?c4 ?c5 ?_)
    case c1 => rw [iv_length]; omega
    case c2 => intro u hu; unfold iv at hu; obtain ⟨x, _, rfl⟩ := List.mem_map.1 hu; rfl
    case c3 => unfold maxLen; omega
    case c4 => omega
    case c5 => simp
    intro v' w1 h1 h2 _
    have H1 : Hid (w1.ownsRow w.heap.size 3 1 v' l.length (iv l)) := by
      show World.ownsRow _ _ _ _ _ _ _
      simpa using h1
    clear h1
    go_wp2_with fail
    go_ret
    refine ⟨_, rfl, irow_of_own H1.out, fun k hk => World.ownsRow.lt H1.out k hk, ?_⟩
    exact (below_new w _).trans (Below.of_grown h2 (by simp) (Nat.le_refl _))

set_option maxRecDepth 100000 in
set_option maxHeartbeats 1000000 in
theorem survivesP (p : Pc) (i : Nat) (v : Value) (keep : List Int) (w : World) (hr : IRow w w.heap.size v keep) (hl : keep.length ≤ maxLen) (hi : i ≤ 1000000) (ht : p.t.size ≤ 32) :
    Calls Try.prog 59 #[pv p, .int .i64 i, v] w fun e w' => e = .returned (.int .i64 (surv p i keep)) ∧ Below w.heap.size w w' := by
  unfold maxLen at hl
  have hb0 := below_new w (.cells #[.int .i64 p.f, .int .i64 p.a, .string p.t] 83)
  have HB := Lib.hid hb0
  obtain ⟨A, cap, rfl, -, -, -, hA⟩ := hr
  have HS : Hid (surv p i keep = if keep.getD i 0 = 1 then p.t.size else if keep.getD i 0 = 2 then min 16 p.t.size else 0) := rfl
  generalize surv p i keep = R at *
  unfold pv
  by_cases hlt : i < keep.length
  · obtain ⟨b, off, rfl, hb, hc⟩ := hA (by omega)
    have c1 := keep_below hb0 (hc i hlt)
    have hx : keep.getD i 0 = keep[i] := by rw [List.getD_eq_getElem?_getD, List.getElem?_eq_getElem hlt]; rfl
    rw [hx] at HS
    obtain ⟨x, hx⟩ : ∃ x, keep[i] = x := ⟨_, rfl⟩
    rw [hx] at c1 HS
    have q1 : (i : Int) < keep.length := by omega
    have d1 : decide ((i : Int) ≥ keep.length) = false := by simp; omega
    have d2 : decide (keep.length ≤ i) = false := by simp; omega
    clear hA hc hx hb0
    by_cases h1 : x = 1
    · subst h1
      have HR : Hid (R = p.t.size) := HS.out
      clear HS
      go_enter Try.func59, Try.ntmps59
      go_wp2_with fail
      go_ret
      exact ⟨by rw [HR.out]; rfl, HB.out⟩
    · by_cases h2 : x = 2
      · subst h2
        have HR : Hid (R = min 16 p.t.size) := HS.out
        clear HS
        go_enter Try.func59, Try.ntmps59
        go_wp2_with fail
        go_ret
        refine ⟨?_, HB.out⟩
        rw [HR.out, show ((min 16 p.t.size : Nat) : Int) = min 16 (p.t.size : Int) by omega]; rfl
      · have HR : Hid (R = 0) := by show _ = _; rw [HS.out, if_neg h1, if_neg h2]
        clear HS
        go_enter Try.func59, Try.ntmps59
        go_wp2_with fail
        go_ret
        exact ⟨by rw [HR.out]; rfl, HB.out⟩
  · have hx : keep.getD i 0 = 0 := by rw [List.getD_eq_getElem?_getD, List.getElem?_eq_none (by omega)]; rfl
    rw [hx] at HS
    have HR : Hid (R = 0) := HS.out
    have d1 : decide ((i : Int) ≥ keep.length) = true := by simp; omega
    have d2 : decide (keep.length ≤ i) = true := by simp; omega
    clear hA HS hx hb0
    go_enter Try.func59, Try.ntmps59
    go_wp2_with fail
    go_ret
    exact ⟨by rw [HR.out]; rfl, HB.out⟩

/-- Arm's two stores. -/
theorem DiskAt.set_arm {B : Nat → Prop} {w w1 : World} {db : Nat} {s : Dk} (h : DiskAt B w db s) (n : Int) (hn : n ≤ 9223372036854775807) (l : List Int) (hl : l.length ≤ 1000000) (u : Value) (hu : IRow w1 w1.heap.size u l) (hnew : ∀ k, u.ownBlock = some k → w.heap.size ≤ k ∧ k < w1.heap.size) (hb : Below w.heap.size w w1) :
    Op B w ((w1.setCell ⟨db, 11, none⟩ (.int .i64 (max n 0))).setCell ⟨db, 12, none⟩ u) db (s.arm n l) := by
  have e : ((n.toNat : Nat) : Int) = max n 0 := by omega
  obtain ⟨h0, v, u0, d, hv, hu0⟩ := h
  have d1 := d.heap hb.size (fun k hk _ => hb.block k hk)
  have hs1 : (w1.setCell ⟨db, 11, none⟩ (.int .i64 (max n 0))).heap.size = w1.heap.size := by simp [World.setCell]
  have hlt := d.bx.lt
  have d2 : DAt (w1.setCell ⟨db, 11, none⟩ (.int .i64 (max n 0))) db v u0 { s with calls := n.toNat } := by
    refine d1.store ?_ d1.own d1.kp d1.n1 d1.n2 d1.n3 d1.n4 ⟨d.ok.dl, d.ok.ds, d.ok.ps, d.ok.pn, d.ok.kn, d.ok.lo, by show n.toNat ≤ _; omega⟩
    obtain ⟨a0, a1, a2, a3, a4, a5, a6, a7, hd⟩ := eight d.ok.dl
    simp only [dcells, hd, e]; rfl
  refine ⟨⟨.inl h0, v, u, ?_, fun k hk => .inl (hv k hk), fun k hk => .inr ?_⟩, ?_⟩
  · refine d2.store ?_ d2.own (hu.heap (by rw [hs1]; exact Nat.le_refl _) fun k hk hkl => Below.heap_setCell _ _ _ _ (fun e => ?_)) d.n1 (fun e => ?_) (fun k hk hv2 => ?_) (fun k hk => ?_) (d.ok.arm n l hn hl)
    · obtain ⟨a0, a1, a2, a3, a4, a5, a6, a7, hd⟩ := eight d.ok.dl
      simp only [dcells, hd, Dk.arm]; rfl
    · have := hnew k hk; simp only at e; omega
    · have := hnew _ e; omega
    · have := hnew k hk; have := d.own.lt k hv2; omega
    · rw [hs1]; exact (hnew k hk).2
  · have := hnew k hk
    refine ⟨this.1, ?_⟩
    simp [World.setCell]; omega
  · exact (Fr.below hb).trans ((fr_set (B := B) h0).trans (fr_set (B := B) h0) fun _ _ h => h) fun _ _ h => h

set_option maxRecDepth 100000 in
set_option maxHeartbeats 1000000 in
theorem armP {B : Nat → Prop} {w : World} {db : Nat} {s : Dk} (h : DiskAt B w db s) (n : Int) (hn : n ≤ 9223372036854775807) (v : Value) (l : List Int) (hr : IRow w w.heap.size v l) (hl : l.length ≤ 1000000) :
    Calls Try.prog 32 #[.pointer (some ⟨db, 0, none⟩), .int .i64 n, v] w fun e w' => e = .returned (.tuple #[]) ∧ Op B w w' db (s.arm n l) := by
  have HC := Lib.hid (cloneI v l w hr hl)
  have HH := Lib.hid h
  clear h hr
  go_enter Try.func32, Try.ntmps32
  go_wp2_with fail
  refine HC.out.mono ?_; rintro e w1 ⟨u, rfl, hu, hnew, hb⟩
  obtain ⟨-, -, c11, -, fz⟩ := (HH.out.below hb).cells
  have f11 := fz 11
  have f12 := fz 12
  obtain ⟨_, _, _, dd, _⟩ := HH.out.below hb
  have c12 := dd.c_tail.2.2.2.2
  have HO := Lib.hid (HH.out.set_arm n hn l hl u hu hnew hb)
  obtain ⟨A, cap, rfl, -⟩ := hu
  clear fz dd hnew hb
  go_wp2_with fail
  go_end0
  exact ⟨rfl, HO.out⟩
end Go.Proofs.Ythdmcjiccbgknaa

namespace Go.Proofs.Ythdmcjiccbgknaa
set_option linter.unusedVariables false
set_option linter.unusedSimpArgs false
open Go.RowKit

def szL (n : Nat) (l : List Pc) (f : Nat) : Nat := l.foldl (fun n p => if p.f = f then max n (p.a + p.t.size) else n) n
theorem fileL_size (d : List UInt8) (l : List Pc) (f : Nat) : (fileL d l f).length = szL d.length l f := by
  induction l generalizing d with
  | nil => rfl
  | cons p l ih =>
    rw [fileL_cons, ih]
    unfold szL
    rw [List.foldl_cons]
    by_cases h : p.f = f
    · rw [if_pos h, if_pos h, pput_length, Pc.l_length]
    · rw [if_neg h, if_neg h]
theorem take_gp (l : List Pc) (k : Nat) (h : k < l.length) : l.take (k + 1) = l.take k ++ [gp l k] := by
  rw [gp_get l k h, List.take_succ_eq_append_getElem h]
theorem szL_snoc (n : Nat) (l : List Pc) (f k : Nat) (h : k < l.length) : szL n (l.take (k + 1)) f = if (gp l k).f = f then max (szL n (l.take k) f) ((gp l k).a + (gp l k).t.size) else szL n (l.take k) f := by
  rw [take_gp l k h]; simp [szL]
theorem szL_le (n : Nat) (l : List Pc) (f m : Nat) (hn : n ≤ m) (h : ∀ p ∈ l, p.a + p.t.size ≤ m) : szL n l f ≤ m := by
  induction l generalizing n with
  | nil => exact hn
  | cons p l ih =>
    unfold szL
    rw [List.foldl_cons]
    refine ih _ ?_ (fun q hq => h q (by simp [hq]))
    have := h p (by simp)
    split <;> omega

set_option maxRecDepth 100000 in
set_option maxHeartbeats 2000000 in
theorem sizeP {B : Nat → Prop} {w : World} {db : Nat} {s : Dk} (h : DiskAt B w db s) (f : Int) :
    Calls Try.prog 82 #[.pointer (some ⟨db, 0, none⟩), .int .i64 f] w fun e w' => e = .returned (.int .i64 (s.size f)) ∧ Below w.heap.size w w' := by
  have HI := Lib.hid (isFileP f w)
  have HZ : Hid (s.size f = if 0 ≤ f ∧ f < 8 then (s.bytes f.toNat).size else 0) := rfl
  generalize s.size f = Z at *
  by_cases hF : 0 ≤ f ∧ f < 8
  · have hb1 : isF f = true := by simp [isF, hF]
    rw [hb1] at HI
    obtain ⟨F, rfl⟩ : ∃ F : Nat, f = F := ⟨f.toNat, by omega⟩
    have hF8 : F < 8 := by omega
    have HZ2 : Hid (Z = szL (s.d F).size s.pend F) := by
      show _ = _
      rw [HZ.out, if_pos hF]
      show (s.bytes F).size = _
      rw [Dk.bytes, bs_size, fileL_size, dl_len]
    clear HZ
    have hps := h.ok.ps
    have hdl := h.ok.d_le F
    have hpn := h.ok.pn
    have cf := h.cells.2.2.2.1 F hF8
    obtain ⟨_, v, u, h, _⟩ := h
    have c8 := h.c_tail.1
    obtain ⟨A, cap, rfl, -, -, -, hA⟩ := h.own.cells
    have HPS := Lib.hid hps
    obtain ⟨l, hl⟩ : ∃ l, s.pend = l := ⟨_, rfl⟩
    obtain ⟨d, hd⟩ : ∃ d, s.d F = d := ⟨_, rfl⟩
    rw [hl] at c8 hA HPS HZ2 hpn
    rw [hd] at cf hdl HZ2
    have q0 : (0 : Int) ≤ (F : Int) := by omega
    have q8 : (F : Int) < 8 := by omega
    clear h hps hl hd hF hb1
    go_enter Try.func82, Try.ntmps82
    go_wp2_with fail
    refine HI.out.mono ?_; rintro e w1 ⟨rfl, rfl⟩
    go_wp2_with fail
    go_loopw [5, 7, 24] (fun z x i wl => ∃ k n : Nat, k ≤ l.length ∧ i = .int .i64 k ∧ z = .int .i64 n ∧ n ≤ 16777216 ∧ Hid (n = szL d.size (l.take k) F) ∧ Below w.heap.size w wl) (fun _ _ i _ => l.length - (intOf i).toNat)
    case atStart => exact ⟨0, d.size, by omega, rfl, rfl, hdl, Lib.hid rfl, Below.refl _ _⟩
    case round =>
      obtain ⟨k, n, hk, rfl, rfl, hn, HN, hB⟩ := hrel
      by_cases hlt : k < l.length
      · obtain ⟨b, rfl, hb, hc⟩ := hA (by omega)
        have c1 := (hB.cell (p := ⟨b, k * 3, none⟩) hb).trans (hc k hlt).1
        have c2 := (hB.cell (p := ⟨b, k * 3 + 1, none⟩) hb).trans (hc k hlt).2.1
        have c3 := (hB.cell (p := ⟨b, k * 3 + 2, none⟩) hb).trans (hc k hlt).2.2
        have HP := HPS.out (gp l k) (by rw [gp_get l k hlt]; exact List.getElem_mem hlt)
        have HSN := Lib.hid (szL_snoc d.size l F k hlt)
        rw [← HN.out] at HSN
        have HSL : Hid (szL d.size (l.take (k + 1)) F ≤ 16777216) := Lib.hid (szL_le _ _ _ _ hdl fun p hp => (HPS.out p (List.mem_of_mem_take hp)).2.1)
        obtain ⟨xf, hxf⟩ : ∃ n, (gp l k).f = n := ⟨_, rfl⟩
        obtain ⟨xa, hxa⟩ : ∃ n, (gp l k).a = n := ⟨_, rfl⟩
        obtain ⟨xt, hxt⟩ : ∃ n, (gp l k).t = n := ⟨_, rfl⟩
        rw [hxf] at c1 HSN
        rw [hxa] at c2 HSN HP
        rw [hxt] at c3 HSN HP
        have p1 := HP.2.1
        have HB2 := Lib.hid (hB.trans ((below_new wr (.cells #[.int .i64 xf, .int .i64 xa, .string xt] 83)).mono hB.size))
        have q1 : (k : Int) < l.length := by omega
        have q2 : (xa : Int) + xt.size ≤ 16777216 := by omega
        clear hA hc hxf hxa hxt HP hB HN
        by_cases hf : xf = F
        · subst hf
          have HM : Hid (max n (xa + xt.size) = szL d.size (l.take (k + 1)) xf) := by show _ = _; rw [HSN.out, if_pos rfl]
          have hcast : max (n : Int) ((xa : Int) + xt.size) = ((max n (xa + xt.size) : Nat) : Int) := by omega
          have hmx : max n (xa + xt.size) ≤ 16777216 := by omega
          have HCA := Lib.hid hcast
          have HMX := Lib.hid hmx
          clear HSN hcast hmx
          go_wp2_with fail
          go_roundw
          case rel => exact ⟨k + 1, max n (xa + xt.size), by omega, by go_num, by first | rfl | (rw [← HCA.out]) | (rw [← HCA.out]; rfl), HMX.out, HM, HB2.out⟩
          case measure => simp [intOf]; omega
        · have hq : ((xf : Int) == (F : Int)) = false := by simp; omega
          have HM : Hid (n = szL d.size (l.take (k + 1)) F) := by show _ = _; rw [HSN.out, if_neg hf]
          have hf2 : ¬ (xf : Int) = (F : Int) := by omega
          clear HSN
          go_wp2_with fail
          go_roundw
          case rel => exact ⟨k + 1, n, by omega, by go_num, rfl, hn, HM, HB2.out⟩
          case measure => simp [intOf]; omega
      · obtain rfl : k = l.length := by omega
        have HF : Hid (n = Z) := by show _ = _; rw [HZ2.out, HN.out, List.take_length]
        clear HN hA
        go_wp2_with fail
        go_ret
        exact ⟨by rw [← HF.out]; rfl, hB⟩
  · have hb1 : isF f = false := by simp only [isF, decide_eq_false_iff_not]; exact hF
    rw [hb1] at HI
    have HR : Hid (Z = 0) := by show _ = _; rw [HZ.out, if_neg hF]
    clear HZ hF hb1 h
    go_enter Try.func82, Try.ntmps82
    go_wp2_with fail
    refine HI.out.mono ?_; rintro e w1 ⟨rfl, rfl⟩
    go_wp2_with fail
    go_ret
    exact ⟨by rw [HR.out]; rfl, Below.refl _ _⟩
end Go.Proofs.Ythdmcjiccbgknaa
