/-
  Layer 6: the closures of isPending and settle; IndexFunc, ContainsFunc; isFile, isPending.
-/
import Derived.Test.YtlphblnnloigiaaDm
namespace Go.Proofs.Ytlphblnnloigiaa
set_option linter.unusedVariables false
set_option linter.unusedSimpArgs false
open Go.RowKit

def isPc (f : Int) (p : Pc) : Bool := decide ((p.f : Int) = f)

set_option maxRecDepth 100000 in
set_option maxHeartbeats 1000000 in
theorem pendC (p : Pc) (f : Int) (g : Nat) (w : World) (hg : g < w.heap.size) (d1 : w.cell? ⟨g, 0, none⟩ = some (.int .i64 f)) :
    Calls Try.prog 35 #[pv p, .pointer (some ⟨g, 0, none⟩)] w fun e w' => e = .returned (.bool (isPc f p)) ∧ Below w.heap.size w w' := by
  unfold pv isPc
  have e1 := keep_below (below_new w (.cells #[.int .i64 p.f, .int .i64 p.a, .string p.t] 54)) d1
  have hb0 := Lib.hid (below_new w (.cells #[.int .i64 p.f, .int .i64 p.a, .string p.t] 54))
  go_enter Try.func35, Try.ntmps35
  go_wp2_with fail
  go_ret
  exact ⟨rfl, hb0.out⟩
set_option maxRecDepth 100000 in
set_option maxHeartbeats 1000000 in
theorem setlC (p : Pc) (f : Int) (g : Nat) (w : World) (hg : g < w.heap.size) (d1 : w.cell? ⟨g, 0, none⟩ = some (.int .i64 f)) :
    Calls Try.prog 33 #[pv p, .pointer (some ⟨g, 0, none⟩)] w fun e w' => e = .returned (.bool (isPc f p)) ∧ Below w.heap.size w w' := by
  unfold pv isPc
  have e1 := keep_below (below_new w (.cells #[.int .i64 p.f, .int .i64 p.a, .string p.t] 54)) d1
  have hb0 := Lib.hid (below_new w (.cells #[.int .i64 p.f, .int .i64 p.a, .string p.t] 54))
  go_enter Try.func33, Try.ntmps33
  go_wp2_with fail
  go_ret
  exact ⟨rfl, hb0.out⟩

/-- The first index at which P holds, or -1. -/
def FirstAt (P : Pc → Bool) (l : List Pc) (r : Int) : Prop := (r = -1 ∧ ∀ i, i < l.length → P (gp l i) = false) ∨ ∃ k : Nat, r = k ∧ k < l.length ∧ P (gp l k) = true ∧ ∀ i, i < k → P (gp l i) = false
def IdxPost (P : Pc → Bool) (l : List Pc) (w : World) (e : Ending) (w' : World) : Prop :=
  ∃ r : Int, e = .returned (.int .i64 r) ∧ FirstAt P l r ∧ Below w.heap.size w w'
/-- A function value that tells P. -/
def Tells (w : World) (fv : Value) (P : Pc → Bool) : Prop := ∃ (F : FuncId) (g : Nat), fv = .func (.func F) #[] #[.pointer (some ⟨g, 0, none⟩)] ∧ (F = 35 ∨ F = 33) ∧ g < w.heap.size ∧ ∀ (p : Pc) (w' : World), w.heap.size ≤ w'.heap.size → w'.heap[g]? = w.heap[g]? → Calls Try.prog F #[pv p, .pointer (some ⟨g, 0, none⟩)] w' fun e w2 => e = .returned (.bool (P p)) ∧ Below w'.heap.size w' w2
theorem any_of_first {P : Pc → Bool} {l : List Pc} {r : Int} (h : FirstAt P l r) : l.any P = decide (0 ≤ r) := by
  rcases h with ⟨rfl, h⟩ | ⟨k, rfl, hk, hp, _⟩
  · rw [decide_eq_false (by omega), List.any_eq_false]
    intro x hx
    obtain ⟨i, hi, rfl⟩ := List.mem_iff_getElem.1 hx
    rw [← gp_get l i hi, h i hi]; simp
  · rw [decide_eq_true (by omega), List.any_eq_true]
    exact ⟨l[k], List.getElem_mem hk, by rw [← gp_get l k hk]; exact hp⟩
theorem chainB {a b c : World} (h : Below a.heap.size a b) (k : Below b.heap.size b c) : Below a.heap.size a c := h.trans (k.mono h.size)

set_option maxRecDepth 100000 in
set_option maxHeartbeats 2000000 in
theorem indexP (v fv : Value) (l : List Pc) (P : Pc → Bool) (w : World) (hr : OwnP w v l) (hT : Tells w fv P) (hl : l.length ≤ 1000000) :
    Calls Try.prog 36 #[v, fv] w (IdxPost P l w) := by
  obtain ⟨A, cap, rfl, -, -, -, hA⟩ := hr.cells
  clear hr
  obtain ⟨F, g, rfl, hF, hg, hT⟩ := hT
  have HT := Lib.hid hT; clear hT
  rcases hF with rfl | rfl
  all_goals
    go_enter Try.func36, Try.ntmps36
    go_wp2_with fail
    go_loopw [5, 8] (fun u i wl => ∃ k : Nat, k ≤ l.length ∧ i = .int .i64 k ∧ (∀ i, i < k → P (gp l i) = false) ∧ Below w.heap.size w wl) (fun _ i _ => l.length - (intOf i).toNat)
    case atStart => exact ⟨0, by omega, rfl, fun i h => by omega, Below.refl _ _⟩
    case round =>
      obtain ⟨k, hk, rfl, hnot, hB⟩ := hrel
      have HNOT := Lib.hid hnot; clear hnot
      by_cases hlt : k < l.length
      · obtain ⟨b, rfl, hb, hc⟩ := hA (by omega)
        have c1 := (hB.cell (p := ⟨b, k * 3, none⟩) hb).trans (hc k hlt).1
        have c2 := (hB.cell (p := ⟨b, k * 3 + 1, none⟩) hb).trans (hc k hlt).2.1
        have c3 := (hB.cell (p := ⟨b, k * 3 + 2, none⟩) hb).trans (hc k hlt).2.2
        have HX := Lib.hid (HT.out (gp l k) wr hB.size (hB.block g hg))
        unfold pv at HX
        obtain ⟨R, hR⟩ : ∃ R, P (gp l k) = R := ⟨_, rfl⟩
        obtain ⟨xf, hxf⟩ : ∃ n, (gp l k).f = n := ⟨_, rfl⟩
        obtain ⟨xa, hxa⟩ : ∃ n, (gp l k).a = n := ⟨_, rfl⟩
        obtain ⟨xt, hxt⟩ : ∃ n, (gp l k).t = n := ⟨_, rfl⟩
        rw [hxf] at c1
        rw [hxa] at c2
        rw [hxt] at c3
        rw [hR, hxf, hxa, hxt] at HX
        have HR := Lib.hid hR
        clear hA hc hxf hxa hxt hR
        have q1 : (k : Int) < l.length := by omega
        go_wp2_with fail
        refine HX.out.mono ?_; rintro e w1 ⟨rfl, hB1⟩
        have hB2 := chainB hB hB1
        cases R
        · go_wp2_with fail
          go_roundw
          case rel => exact ⟨k + 1, by omega, by go_num, fun i hi => if h : i = k then by rw [h]; exact HR.out else HNOT.out i (by omega), hB2⟩
          case measure => simp [intOf]; omega
        · go_wp2_with fail
          go_ret
          exact ⟨k, rfl, .inr ⟨k, rfl, hlt, HR.out, HNOT.out⟩, hB2⟩
      · obtain rfl : k = l.length := by omega
        go_wp2_with fail
        go_ret
        exact ⟨-1, rfl, .inl ⟨rfl, HNOT.out⟩, hB⟩

set_option maxRecDepth 100000 in
theorem containsP (v fv : Value) (l : List Pc) (P : Pc → Bool) (w : World) (hr : OwnP w v l) (hT : Tells w fv P) (hl : l.length ≤ 1000000) :
    Calls Try.prog 34 #[v, fv] w fun e w' => e = .returned (.bool (l.any P)) ∧ Below w.heap.size w w' := by
  have HI := Lib.hid (indexP v fv l P w hr hT hl)
  clear hr hT
  go_enter Try.func34, Try.ntmps34
  go_wp2_with fail
  refine HI.out.mono ?_; rintro e w1 ⟨r, rfl, hr, hB⟩
  have HR : Hid (l.any P = decide (0 ≤ r)) := any_of_first hr
  clear hr
  by_cases h0 : 0 ≤ r
  all_goals
    go_wp2_with fail
    go_ret
    exact ⟨by rw [HR.out]; first | rfl | (simp; omega), hB⟩

theorem isFileP (f : Int) (w : World) : Calls Try.prog 27 #[.int .i64 f] w fun e w' => e = .returned (.bool (isF f)) ∧ w = w' := by
  have HF : Hid (isF f = decide (0 ≤ f ∧ f < 8)) := rfl
  by_cases h1 : 0 ≤ f
  · have d1 : decide (f ≥ 0) = true := by simp [h1]
    by_cases h2 : f < 8
    all_goals
      go_enter Try.func27, Try.ntmps27
      go_wp2_with fail
      go_ret
      exact ⟨by rw [HF.out]; simp [h1, h2], rfl⟩
  · have d1 : decide (f ≥ 0) = false := by simp; omega
    go_enter Try.func27, Try.ntmps27
    go_wp2_with fail
    go_ret
    exact ⟨by rw [HF.out, decide_eq_false (by omega)]; rfl, rfl⟩

theorem pending_eq (s : Dk) (f : Nat) : (s.pend.any (isPc f)) = s.pending f := by
  unfold Dk.pending
  congr 1; funext p; unfold isPc; rw [Bool.eq_iff_iff, decide_eq_true_iff, decide_eq_true_iff]; omega
set_option maxRecDepth 100000 in
set_option maxHeartbeats 1000000 in
theorem isPendingP {B : Nat → Prop} {w : World} {db : Nat} {s : Dk} (h : DiskAt B w db s) (f : Nat) :
    Calls Try.prog 31 #[.pointer (some ⟨db, 0, none⟩), .int .i64 f] w fun e w' => e = .returned (.bool (s.pending f)) ∧ Below w.heap.size w w' := by
  obtain ⟨_, v, u, h, _⟩ := h
  have hb0 := below_new w (.cells #[.int .i64 (f : Int)] 3)
  have c8 := keep_below hb0 h.c_tail.1
  have HC := Lib.hid (containsP v (.func (.func 35) #[] #[.pointer (some ⟨w.heap.size, 0, none⟩)]) s.pend (isPc f) (w.alloc (.cells #[.int .i64 (f : Int)] 3)) (h.own.heap (fun k _ hk => hb0.block k hk))
    ⟨_, _, rfl, .inl rfl, by simp, fun p w' hs hw' => pendC p f w.heap.size w' (by have := size_new w (.cells #[.int .i64 (f : Int)] 3); omega) (by
      have := (Blk.new w 3 #[.int .i64 (f : Int)])
      have hb2 : Blk w' w.heap.size 3 #[.int .i64 (f : Int)] := hw'.trans this
      rw [hb2.cell]; rfl)⟩ h.ok.pn)
  have HP := Lib.hid (pending_eq s f)
  have HB := Lib.hid hb0
  clear h hb0
  go_enter Try.func31, Try.ntmps31
  go_wp2_with fail
  refine HC.out.mono ?_; rintro e w1 ⟨rfl, hB⟩
  rw [HP.out]
  go_wp2_with fail
  go_ret
  exact ⟨rfl, chainB HB.out hB⟩
end Go.Proofs.Ytlphblnnloigiaa
