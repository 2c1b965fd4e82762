/-
  Layer 6: settle.
-/
import Derived.Test.YtlphblnnloigiaaDf6
import Derived.RegionTactic
import Derived.ChangeAlike
namespace Go.Proofs.Ytlphblnnloigiaa
set_option linter.unusedVariables false
set_option linter.unusedSimpArgs false
open Go.RowKit

/-- The pending writes are now the row v', which lies where the old one lay, or in a new block. -/
theorem DAt.repend {B : Nat → Prop} {w w' : World} {db : Nat} {v u v' : Value} {s : Dk} {l : List Pc} (h0 : B db) (h : DAt w db v u s) (hv : ∀ k, v.ownBlock = some k → B k) (hu : ∀ k, u.ownBlock = some k → B k)
    (hg : w.grownBy w' v.ownBlock) (hown : OwnP w' v' l) (hb : ∀ k, v'.ownBlock = some k → v.ownBlock = some k ∨ w.heap.size ≤ k) (hok : Dk.ok { s with pend := l }) : Op B w (w'.setCell ⟨db, 8, none⟩ v') db { s with pend := l } := by
  have hs : (w'.setCell ⟨db, 8, none⟩ v').heap.size = w'.heap.size := by simp [World.setCell]
  have ho : ∀ k, k ≠ db → (w'.setCell ⟨db, 8, none⟩ v').heap[k]? = w'.heap[k]? := fun k hk => Below.heap_setCell w' ⟨db, 8, none⟩ v' k hk
  have hbx : Blk w' db 50 (dcells s v u) := (hg.block db h.bx.lt (fun e => h.n1 e.symm)).trans h.bx
  have hn1 : v'.ownBlock ≠ some db := fun e => by
    rcases hb _ e with h1 | h1
    · exact h.n1 h1
    · have := h.bx.lt; omega
  refine ⟨⟨.inl h0, v', u, ⟨?_, hown.heap (fun k hk _ => ho k (fun e => hn1 (by rw [hk, e]))), ?_, hn1, h.n2, ?_, ?_, hok⟩, ?_, fun k hk => .inl (hu k hk)⟩, ?_⟩
  · have := blk_set hbx (i := 8) v'
    have hc : (dcells s v u).setIfInBounds 8 v' = dcells { s with pend := l } v' u := by
      obtain ⟨a0, a1, a2, a3, a4, a5, a6, a7, hd⟩ := eight h.ok.dl
      simp only [dcells, hd]; rfl
    rw [hc] at this
    exact this
  · refine h.kp.heap (by rw [hs]; exact hg.size) fun k hk hkl => (ho k (fun e => h.n2 (by rw [hk, e]))).trans (hg.block k hkl (fun e => h.n3 k hk e.symm))
  · intro k hk hv'
    rcases hb k hv' with h1 | h1
    · exact h.n3 k hk h1
    · have := h.n4 k hk; omega
  · intro k hk
    have := h.n4 k hk
    rw [hs]
    exact Nat.lt_of_lt_of_le this hg.size
  · intro k hk
    rcases hb k hk with h1 | h1
    · exact .inl (hv k h1)
    · refine .inr ⟨h1, ?_⟩
      rw [hs]; exact hown.lt k hk
  · refine ⟨hg.os, hg.tape, hg.output, by rw [hs]; exact hg.size, fun k hk hB => (ho k (fun e => hB (by rw [e]; exact h0))).trans (hg.block k hk (fun e => hB (hv k e.symm)))⟩
theorem Op.drew {B : Nat → Prop} {w w1 : World} {db : Nat} {s : Dk} (h : Op B w w1 db s) : Op B w w1.drew db s := h.below ⟨rfl, rfl, rfl, Nat.le_refl _, fun _ _ => rfl⟩
theorem below_drewN (w : World) (n : Nat) : Below w.heap.size w (w.drewN n) := ⟨rfl, rfl, rfl, Nat.le_refl _, fun _ _ => rfl⟩

set_option maxRecDepth 100000 in
set_option maxHeartbeats 4000000 in
theorem settleP {B : Nat → Prop} {w : World} {db : Nat} {s : Dk} (hB0 : DiskAt B w db s) (F : Nat) (hF : F < 8) (b : ByteArray) (hb : b.size ≤ 16777216) :
    Calls Try.prog 25 #[.pointer (some ⟨db, 0, none⟩), .int .i64 F, .string b] w fun e w' => e = .returned (.tuple #[]) ∧ Op B w w' db (s.settle F b) := by
  have h : DiskAt (fun k => B k ∧ k < w.heap.size) w db s := hB0.mono fun k hk hb => ⟨hb, hk⟩
  clear hB0
  have hbn := below_new w (.cells #[.int .i64 (F : Int)] 3)
  obtain ⟨W0, hW0⟩ : ∃ W0, w.alloc (.cells #[.int .i64 (F : Int)] 3) = W0 := ⟨_, rfl⟩
  have h1 := h.below hbn
  rw [hW0] at h1 hbn
  have cf := h1.cells.2.2.2.1 F hF
  have fz := h1.cells.2.2.2.2 F
  have q0 : (0 : Int) ≤ (F : Int) := by omega
  have q8 : (F : Int) < 8 := by omega
  have q9 : ((F : Int)).toNat = F := by omega
  have hd := h1.set_dur F hF b hb
  have HOK := Lib.hid (h.ok.settle F b hb)
  have HLT := h.lt
  have hblk : Blk W0 w.heap.size 3 #[.int .i64 (F : Int)] := by rw [← hW0]; exact Blk.new _ _ _
  have cb := hblk.cell 0
  have HBN := Lib.hid hbn
  have HBLK := Lib.hid hblk
  have HW := Lib.hid hW0
  have HD := Lib.hid hd
  have HPN := Lib.hid h.ok.pn
  have hne : w.heap.size ≠ db := by omega
  clear h h1 hbn hd hblk
  go_enter Try.func25, Try.ntmps25
  go_wp2_with fail
  clear hW0
  go_region
  all_goals
    obtain ⟨W1, hW1⟩ : ∃ W1, (W0.setCell ⟨db, F, none⟩ (.string b)).drew = W1 := ⟨_, rfl⟩
    rw [hW1]
    have HD1 := HD.out.drew
    rw [hW1] at HD1
    have hb1 : Blk W1 w.heap.size 3 #[.int .i64 (F : Int)] := by
      rw [← hW1]
      exact (Below.heap_setCell W0 ⟨db, F, none⟩ (.string b) w.heap.size hne).trans HBLK.out
    obtain ⟨h0, v, u, d, hv, hu⟩ := HD1.at_
    have c8 := d.c_tail.1
    have f8 := d.free 8
    have HEQ : Hid ((fun p : Pc => !isPc F p) = fun p => !decide (p.f = F)) := by
      show _ = _
      funext p
      have : isPc F p = decide (p.f = F) := by unfold isPc; rw [Bool.eq_iff_iff, decide_eq_true_iff, decide_eq_true_iff]; omega
      rw [this]
    have hvne : v.ownBlock ≠ some w.heap.size := fun e => by
      rcases hv _ e with h | h
      · exact Nat.lt_irrefl _ h.2
      · have := h.1
        rw [← HW.out] at this
        simp at this
        omega
    have HC := Lib.hid (deleteP v 33 w.heap.size s.pend (isPc F) W1 rfl d.own ⟨_, _, rfl, .inr rfl, hb1.lt, fun p w' hs hw' => setlC p F w.heap.size w' (by have := hb1.lt; omega) (by
      have hb2 : Blk w' w.heap.size 3 #[.int .i64 (F : Int)] := hw'.trans hb1
      rw [hb2.cell]; rfl)⟩ hb1.lt hvne HPN.out)
    have HDD := Lib.hid d
    have HD2 := Lib.hid HD1
    clear cf fz cb HBLK hW1 HD1 hb1 d hvne
    go_wp2_with fail
    refine HC.out.mono ?_; rintro e w3 ⟨v', rfl, hown, hbl, hg⟩
    have hdb : w3.cell? ⟨db, 8, none⟩ = some v ∧ w3.frozen? ⟨db, 8, none⟩ = false := by
      have hh := hg.block db HDD.out.bx.lt (fun e => HDD.out.n1 e.symm)
      constructor
      · rw [← c8]; unfold World.cell?; rw [hh]
      · rw [← f8]; unfold World.frozen?; rw [hh]
    obtain ⟨g1, g2⟩ := hdb
    have hrp := HDD.out.repend h0 hv hu hg hown (fun k hk => .inl (by rw [← hbl]; exact hk)) (by rw [HEQ.out]; exact HOK.out)
    rw [HEQ.out] at hrp
    have HR := Lib.hid (Op.pre HBN.out (HD2.out.trans hrp))
    obtain ⟨A, cap, rfl, -⟩ := hown.cells
    clear hown hbl hg hrp HC c8 f8
    go_wp2_with fail
    go_end0
    exact ⟨rfl, HR.out.mono fun k _ h => h.1⟩
end Go.Proofs.Ytlphblnnloigiaa
