/-
  slices.Backward over nodes.
-/
import Derived.Test.YtmnhnighlgpjmaaGreatIter
namespace Go.Proofs.YtmnhnighlgpjmaaGreat
set_option linter.unusedVariables false
set_option linter.unusedSimpArgs false
open Go.RowKit Go.Shelf
attribute [local go_sem] Oper.semAt_some

abbrev PairLt (n : Nat) := { x : Nat × Nat // n ≠ 0 → x.2 < n }
/-- Which pair comes in round j. -/
def bpair (n : Nat) (L : List Nat) (j : Nat) : PairLt n := if h : n ≠ 0 → L.getD (L.length - 1 - j) 0 < n then ⟨(L.length - 1 - j, L.getD (L.length - 1 - j) 0), h⟩ else ⟨(0, 0), fun h => by simp only; omega⟩
theorem bpair_val {n : Nat} {L : List Nat} (hL : ∀ x ∈ L, x < n) {j : Nat} (hj : j < L.length) : (bpair n L j).1 = (L.length - 1 - j, L.getD (L.length - 1 - j) 0) := by
  unfold bpair
  have h : L.getD (L.length - 1 - j) 0 < n := by
    rw [List.getD_eq_getElem?_getD, List.getElem?_eq_getElem (by omega)]
    exact hL _ (List.getElem_mem _)
  rw [dif_pos (fun _ => h)]
/-- What lies below B but for block g is as it was. -/
def KeepBut (B g : Nat) (W W' : World) : Prop := ∀ k, k < B → k ≠ g → W'.heap[k]? = W.heap[k]?
theorem KeepBut.cell {B g : Nat} {W W' : World} (h : KeepBut B g W W') {b o : Nat} (hb : b < B) (hg : b ≠ g) : W'.cell? ⟨b, o, none⟩ = W.cell? ⟨b, o, none⟩ := World.cell?_of_block (a := ⟨b, o, none⟩) (h b hb hg)
theorem KeepBut.trans {B g : Nat} {X Y Z : World} (h : KeepBut B g X Y) (k : KeepBut B g Y Z) : KeepBut B g X Z := fun i hi hg => (k i hi hg).trans (h i hi hg)
theorem keepBut_grown {B g : Nat} {W W' : World} (h : W.grownBy W' (some g)) (hB : B ≤ W.heap.size) : KeepBut B g W W' := fun k hk hg => h.block k (by omega) (fun e => hg (by injection e))

set_option maxRecDepth 100000 in
set_option maxHeartbeats 2000000 in
theorem back1_in (F : Fence) (n : Nat) (h7 : F.fn 96) (hro : F.round = none) (hn : 1 ≤ n) (l Bs n₀ gh b off cap nn : Nat) (L : List Nat) (hL : ∀ x ∈ L, x < nn) (hlen : L.length ≤ 1000000) (hb : b < n₀) (hbg : b ≠ gh) (hBs0 : Bs < n₀) (hBsg : Bs ≠ gh) (J Jx : List (PairLt nn) → World → Prop)
    (hY : ∀ pre (x : PairLt nn) W, J pre W → pre.length < L.length → YieldAt F (n - 1) Tryz.prog l #[.int .i64 (x.1.1 : Nat), .int .i64 (x.1.2 : Nat)] W fun e W' =>
      (e = .returned (.bool true) ∧ J (pre ++ [x]) W' ∧ KeepBut n₀ gh W W') ∨ (e = .returned (.bool false) ∧ Jx (pre ++ [x]) W'))
    (W : World) (hBs : W.cell? ⟨Bs, 0, none⟩ = some (.slice (some ⟨b, off, none⟩) L.length cap)) (hc : ∀ j (h : j < L.length), W.cell? ⟨b, off + j, none⟩ = some (.int .i64 (L.getD j 0 : Nat))) (h0 : J [] W) :
    CallsIn F n Tryz.prog 96 #[.func (.yield l) #[] #[], .pointer (some ⟨Bs, 0, none⟩)] W fun e W' => (∃ v, e = .returned v) ∧
      ((∃ ys, ys = upto (bpair nn L) L.length ∧ J ys W') ∨ (∃ pre, Jx pre W')) := by
  refine callsIn_of_wp Tryz.func96 rfl h7 ?_ hro
  simp only [Tryz.ntmps96, List.size_toArray, List.length_cons, List.length_nil, Nat.reduceAdd, Nat.reduceSub, Array.replicate_succ, Array.replicate_zero, List.push_toArray, List.append_toArray, List.nil_append, List.cons_append]
  have hw0 : IntKind.i64.wrap ((L.length : Int) - 1) = (L.length : Int) - 1 := IntWalk.i64_in _ (by omega)
  gi_wp2
  gi_loopw [3] (fun i wr => ∃ k : Nat, k ≤ L.length ∧ i = .int .i64 ((L.length : Int) - 1 - k) ∧ J (upto (bpair nn L) k) wr ∧ KeepBut n₀ gh W wr)
    (fun i _ => (intOf i + 1).toNat)
  case atStart => exact ⟨0, Nat.zero_le _, by simp, h0, fun _ _ _ => rfl⟩
  case round =>
    obtain ⟨k, hk, rfl, hJs, hnx⟩ := hrel
    by_cases hlt : k < L.length
    · obtain ⟨fn, tmps, assign, body, hy, hR⟩ := hY _ (bpair nn L k) wr hJs (by rw [upto_length]; exact hlt)
      have hv := bpair_val hL hlt
      rw [hv] at hy
      dsimp only at hy
      obtain ⟨m, hm⟩ : ∃ m, L.length - 1 - k = m := ⟨_, rfl⟩
      have hmi : (L.length : Int) - 1 - k = m := by omega
      have hml : m < L.length := by omega
      rw [hm] at hy
      have hcx := (hnx.cell (o := off + m) hb hbg).trans (hc m hml)
      have hBx := (hnx.cell (o := 0) hBs0 hBsg).trans hBs
      have hge : (0 : Int) ≤ m := by omega
      have hmlt : (m : Int) < L.length := by omega
      have hdec : decide ((m : Int) ≥ 0) = true := by rw [decide_eq_true_iff]; omega
      have hdec2 : decide ((0 : Int) ≤ (m : Int)) = true := by rw [decide_eq_true_iff]; omega
      have hw1 : IntKind.i64.wrap ((m : Int) - 1) = (m : Int) - 1 := IntWalk.i64_in _ (by omega)
      rw [hmi]
      have HM : Hid ((m : Int) - 1 = (L.length : Int) - 1 - ((k + 1 : Nat) : Int)) := Lib.hid (by omega)
      obtain ⟨yv, hyv⟩ : ∃ y, L.getD m 0 = y := ⟨_, rfl⟩
      rw [hyv] at hy hcx
      clear hm hmi hv hyv
      gi_wp2
      refine hR.mono ?_
      rintro e W3 (⟨rfl, hJ3, hk3⟩ | ⟨rfl, hJx3⟩)
      · gi_wp2
        go_roundw
        case rel => exact ⟨k + 1, by omega, by rw [HM.out], by rw [upto_succ]; exact hJ3, hnx.trans hk3⟩
        case measure => simp [intOf]
      · gi_wp2
        refine bodyPost_ret (results_none rfl _ _ _) rfl ?_
        exact ⟨⟨_, rfl⟩, .inr ⟨_, hJx3⟩⟩
    · obtain rfl : k = L.length := by omega
      have hm1 : (L.length : Int) - 1 - L.length = -1 := by omega
      rw [hm1]
      gi_wp2
      go_end0
      exact ⟨⟨_, rfl⟩, .inl ⟨_, rfl, hJs⟩⟩

set_option maxRecDepth 100000 in
set_option maxHeartbeats 1000000 in
theorem back1_none_in (F : Fence) (n : Nat) (h7 : F.fn 96) (hro : F.round = none) (l Bs cap : Nat) (A : Option Addr) {α : Type} (J : List α → World → Prop) (W : World) (hBs : W.cell? ⟨Bs, 0, none⟩ = some (.slice A 0 cap)) (h0 : J [] W) :
    CallsIn F n Tryz.prog 96 #[.func (.yield l) #[] #[], .pointer (some ⟨Bs, 0, none⟩)] W fun e W' => (∃ v, e = .returned v) ∧ J [] W' := by
  refine callsIn_of_wp Tryz.func96 rfl h7 ?_ hro
  simp only [Tryz.ntmps96, List.size_toArray, List.length_cons, List.length_nil, Nat.reduceAdd, Nat.reduceSub, Array.replicate_succ, Array.replicate_zero, List.push_toArray, List.append_toArray, List.nil_append, List.cons_append]
  gi_wp2
  gi_loopw [3] (fun i wr => i = .int .i64 (-1) ∧ J [] wr) (fun _ _ => 0)
  case atStart => exact ⟨rfl, h0⟩
  case round =>
    obtain ⟨rfl, hJs⟩ := hrel
    gi_wp2
    go_end0
    exact ⟨⟨_, rfl⟩, hJs⟩

set_option maxHeartbeats 1000000 in
theorem backP (a : Option Addr) (len cap : Nat) (w : World) :
    Calls Tryz.prog 79 #[.slice a len cap] w fun e w' => e = .returned (.func (.func 96) #[] #[.pointer (some ⟨w.heap.size, 0, none⟩)]) ∧ w' = w.alloc (.cells #[.slice a len cap] 33) := by
  go_enter Tryz.func79, Tryz.ntmps79
  go_wp2
  go_ret
  exact ⟨rfl, rfl⟩

theorem back_stops (F : Fence) (n : Nat) (h7 : F.fn 96) (hro : F.round = none) (hn : 1 ≤ n) (Bs base gh nn : Nat) (sv : Value) (L : List Nat) (w : World) (hL : ∀ x ∈ L, x < nn) (hlen : L.length ≤ 1000000) (hBs : Bs < w.heap.size) (hBsg : Bs ≠ gh)
    (hc : w.cell? ⟨Bs, 0, none⟩ = some sv) (hI : OwnI w base sv (zi L)) (hg : sv.ownBlock ≠ some gh) :
    SeqStopsK F n Tryz.prog 96 #[.pointer (some ⟨Bs, 0, none⟩)] (fun x : PairLt nn => #[Value.int .i64 (x.1.1 : Nat), Value.int .i64 (x.1.2 : Nat)]) (KeepBut w.heap.size gh) (fun ys => ys = upto (bpair nn L) L.length) (fun _ => True) L.length w := fun l J Jx W hW _ _ hY h0 => by
  have hc' := (hW.cell (p := ⟨Bs, 0, none⟩) hBs).trans hc
  rcases hI.form with ⟨rfl, h1⟩ | ⟨g, cap, cur, rfl, h2, h3, h4, h5, h6, h7'⟩
  · have hz : L = [] := List.eq_nil_of_length_eq_zero (by rw [← zi_length, h1]; rfl)
    subst hz
    exact (back1_none_in F n h7 hro l Bs 0 none J W hc' h0).mono fun e W' ⟨he, hj⟩ => ⟨he, .inl ⟨_, rfl, hj⟩⟩
  · rw [zi_length] at hc'
    have hgl : g < w.heap.size := (Array.getElem?_eq_some_iff.1 h3).1
    refine (back1_in F n h7 hro hn l Bs w.heap.size gh g 0 cap nn L hL hlen hgl (fun e => hg (by rw [e]; rfl)) hBs hBsg J Jx hY W hc' (fun j hj => ?_) h0).mono ?_
    · rw [Nat.zero_add, (hW.cell (p := ⟨g, j, none⟩) hgl), hI.cell j (by rw [zi_length]; exact hj)]
      simp [zi, List.getD_eq_getElem?_getD, hj]
    · rintro e W' ⟨he, ⟨ys, rfl, hj⟩ | ⟨pre, hj⟩⟩
      · exact ⟨he, .inl ⟨_, rfl, hj⟩⟩
      · exact ⟨he, .inr ⟨_, trivial, hj⟩⟩
end Go.Proofs.YtmnhnighlgpjmaaGreat
