/-
  Layer 6: Write, New, Copy.
-/
import Derived.Test.YtcfngdlgllanhaaDf11
namespace Go.Proofs.Ytcfngdlgllanhaa
set_option linter.unusedVariables false
set_option linter.unusedSimpArgs false
open Go.RowKit

theorem raw_keep (s : Dk) (f a : Int) (t : ByteArray) : (s.raw f a t).2.keep = s.keep := by
  unfold Dk.raw
  split
  · rfl
  split
  · rfl
  split
  · rfl
  split <;> rfl
theorem tick_keep (s : Dk) : s.tick.keep = s.keep := by unfold Dk.tick; split <;> rfl

set_option maxRecDepth 100000 in
set_option maxHeartbeats 2000000 in
theorem writeP {B : Nat → Prop} {w : World} {db : Nat} {s : Dk} (h : DiskAt B w db s) (f a : Int) (t : ByteArray) (hn : s.pend.length + t.size ≤ 1000000) :
    Calls Try.prog 11 #[.pointer (some ⟨db, 0, none⟩), .int .i64 f, .int .i64 a, .string t] w fun e w' => e = .returned (.int .i64 (s.write f a t).1) ∧ Op B w w' db (s.write f a t).2 := by
  have HC := Lib.hid (countP h)
  have HR : Hid (s.write f a t = if s.due = true then (10, (s.tick.raw f a t).2.crash s.keep) else s.tick.raw f a t) := rfl
  have HKE : Hid ((s.tick.raw f a t).2.keep = s.keep) := by rw [raw_keep, tick_keep]; exact Lib.hid rfl
  have HKN := Lib.hid h.ok.kn
  have hn2 : s.tick.pend.length + t.size ≤ 1000000 := by rw [Dk.tick_pend]; exact hn
  generalize s.write f a t = R at *
  clear h hn
  rcases hd : s.due
  · rw [hd] at HC
    have HR2 : Hid (R = s.tick.raw f a t) := by show _ = _; rw [HR.out, hd, if_neg (by simp)]
    clear hd HR
    go_enter Try.func11, Try.ntmps11
    go_wp2_with fail
    refine HC.out.mono ?_; rintro e w1 ⟨rfl, ho⟩
    have HW := Lib.hid (rawP ho.at_ f a t hn2)
    have HO := Lib.hid ho
    clear ho HC
    go_wp2_with fail
    refine HW.out.mono ?_; rintro e w2 ⟨rfl, ho2⟩
    have HO2 := Lib.hid (HO.out.trans ho2)
    rw [← HR2.out] at HO2 ⊢
    clear ho2
    go_wp2_with fail
    go_ret
    exact ⟨rfl, HO2.out⟩
  · rw [hd] at HC
    have HR2 : Hid (R = (10, (s.tick.raw f a t).2.crash s.keep)) := by show _ = _; rw [HR.out, hd, if_pos rfl]
    clear hd HR
    go_enter Try.func11, Try.ntmps11
    go_wp2_with fail
    refine HC.out.mono ?_; rintro e w1 ⟨rfl, ho⟩
    have HW := Lib.hid (rawP ho.at_ f a t hn2)
    have HO := Lib.hid ho
    clear ho HC
    go_wp2_with fail
    refine HW.out.mono ?_; rintro e w2 ⟨rfl, ho2⟩
    have ho3 := HO.out.trans ho2
    obtain ⟨h0, v, u, d, _, _⟩ := ho3.at_
    have c12 := d.c_tail.2.2.2.2
    have hkr := d.kp
    rw [HKE.out] at hkr
    have HCR := Lib.hid (crashP ho3.at_ u s.keep hkr (Nat.le_trans HKN.out (by decide)))
    have HO3 := Lib.hid ho3
    clear ho2 ho3 d hkr
    go_wp2_with fail
    refine HCR.out.mono ?_; rintro e w4 ⟨rfl, ho4⟩
    have HO4 := Lib.hid (HO3.out.trans ho4)
    clear ho4
    go_wp2_with fail
    go_ret
    exact ⟨by rw [HR2.out]; rfl, by rw [HR2.out]; exact HO4.out⟩

/-- A new disk. -/
def NewPost (s : Dk) (w : World) (e : Ending) (w' : World) : Prop := ∃ c, e = .returned (.pointer (some ⟨c, 0, none⟩)) ∧ w.heap.size ≤ c ∧ DiskAt (fun k => w.heap.size ≤ k ∧ k < w'.heap.size) w' c s ∧ Below w.heap.size w w'
def zcells : Array Value := #[.string { data := #[] }, .string { data := #[] }, .string { data := #[] }, .string { data := #[] }, .string { data := #[] }, .string { data := #[] }, .string { data := #[] }, .string { data := #[] }, .slice none 0 0, .bool false, .int .i64 0, .int .i64 0, .slice none 0 0]
theorem zcells_eq : dcells dk0 (.slice none 0 0) (.slice none 0 0) = zcells := rfl
set_option maxRecDepth 100000 in
set_option maxHeartbeats 2000000 in
theorem newP (w : World) : Calls Try.prog 6 #[] w (NewPost dk0 w) := by
  have HF : Hid (NewPost dk0 w (.returned (.pointer (some ⟨w.heap.size, 0, none⟩))) (w.alloc (.cells zcells 53))) := by
    refine ⟨_, rfl, Nat.le_refl _, ⟨⟨Nat.le_refl _, by simp⟩, .slice none 0 0, .slice none 0 0, ⟨?_, OwnP.nil _, irow_nil _ _, (by simp [Value.ownBlock]), (by simp [Value.ownBlock]), (fun k hk => by simp [Value.ownBlock] at hk), (fun k hk => by simp [Value.ownBlock] at hk), dk0_ok⟩, (fun k hk => by simp [Value.ownBlock] at hk), (fun k hk => by simp [Value.ownBlock] at hk)⟩, below_new _ _⟩
    rw [zcells_eq]; exact Blk.new _ _ _
  unfold zcells at HF
  go_enter Try.func6, Try.ntmps6
  go_wp2_with fail
  go_ret
  exact HF.out

set_option maxRecDepth 100000 in
set_option maxHeartbeats 4000000 in
theorem copyPP {B : Nat → Prop} {w : World} {db : Nat} {s : Dk} (h : DiskAt B w db s) :
    Calls Try.prog 10 #[.pointer (some ⟨db, 0, none⟩)] w (NewPost s w) := by
  obtain ⟨h0, v, u, d, hv, hu⟩ := h.tight
  obtain ⟨a0, a1, a2, a3, a4, a5, a6, a7, hdur⟩ := eight d.ok.dl
  have hbx := d.bx
  unfold dcells at hbx
  rw [hdur] at hbx
  have b0 := hbx.cell 0
  have b1 := hbx.cell 1
  have b2 := hbx.cell 2
  have b3 := hbx.cell 3
  have b4 := hbx.cell 4
  have b5 := hbx.cell 5
  have b6 := hbx.cell 6
  have b7 := hbx.cell 7
  have b8 := hbx.cell 8
  have b9 := hbx.cell 9
  have b10 := hbx.cell 10
  have b11 := hbx.cell 11
  have b12 := hbx.cell 12
  obtain ⟨A, cap, rfl, -⟩ := d.own.cells
  obtain ⟨A2, cap2, rfl, -⟩ := d.kp
  have hlt := d.bx.lt
  obtain ⟨W1, hW1⟩ : ∃ W1, w.alloc (.cells #[.string a0, .string a1, .string a2, .string a3, .string a4, .string a5, .string a6, .string a7, .slice A s.pend.length cap, .bool s.down, .int .i64 s.lost, .int .i64 s.calls, .slice A2 s.keep.length cap2] 53) = W1 := ⟨_, rfl⟩
  have hb1 : Below w.heap.size w W1 := by rw [← hW1]; exact below_new _ _
  have hs1 : W1.heap.size = w.heap.size + 1 := by rw [← hW1]; simp
  have hk1 : Blk W1 w.heap.size 53 (dcells s (.slice A s.pend.length cap) (.slice A2 s.keep.length cap2)) := by
    rw [← hW1]
    have := Blk.new w 53 (dcells s (.slice A s.pend.length cap) (.slice A2 s.keep.length cap2))
    unfold dcells at this ⊢
    rw [hdur] at this ⊢
    exact this
  have d1 := d.heap hb1.size (fun k hk _ => hb1.block k hk)
  have e8 := d1.c_tail.1
  have HC := Lib.hid (cloneP _ s.pend W1 d1.own d1.ok.pn)
  have HD1 := Lib.hid d1
  have HK1 := Lib.hid hk1
  have HB1 := Lib.hid hb1
  have HS1 := Lib.hid hs1
  have HDUR := Lib.hid hdur
  have HOK := Lib.hid d.ok
  clear d hdur hbx d1 hk1 hb1 hs1
  go_enter Try.func10, Try.ntmps10
  go_wp2_with fail
  refine HC.out.mono ?_; rintro e w2 ⟨v2, rfl, hown2, hnew2, hb2⟩
  have hk2 : Blk w2 w.heap.size 53 (dcells s (.slice A s.pend.length cap) (.slice A2 s.keep.length cap2)) := HK1.out.below hb2 HK1.out.lt
  have z8 : w2.cell? ⟨w.heap.size, 8, none⟩ = some (.slice A s.pend.length cap) := by
    rw [hk2.cell]; unfold dcells; rw [HDUR.out]; rfl
  have zf : w2.frozen? ⟨w.heap.size, 8, none⟩ = false := by
    have := hk2; unfold Blk at this; simp [World.frozen?, this]
  obtain ⟨A3, cap3, rfl, -⟩ := hown2.cells
  have hk3 := blk_set hk2 (i := 8) (.slice A3 s.pend.length cap3)
  obtain ⟨W3, hW3⟩ : ∃ W3, w2.setCell ⟨w.heap.size, 8, none⟩ (.slice A3 s.pend.length cap3) = W3 := ⟨_, rfl⟩
  rw [hW3] at hk3
  have hs3 : W3.heap.size = w2.heap.size := by rw [← hW3]; simp [World.setCell]
  have ho3 : ∀ k, k ≠ w.heap.size → W3.heap[k]? = w2.heap[k]? := fun k hk => by rw [← hW3]; exact Below.heap_setCell w2 ⟨w.heap.size, 8, none⟩ _ k hk
  have hb3 : Below w.heap.size w W3 := by
    rw [← hW3]
    exact (chainB HB1.out hb2).setCell (Nat.le_refl _) _
  have d3 := HD1.out.heap (w' := W3) (by rw [hs3]; exact hb2.size) (fun k hk hc => (ho3 k (by
    rcases hc with rfl | hc | hc
    · omega
    · have := (hv k hc).2; omega
    · have := (hu k hc).2; omega)).trans (hb2.block k hk))
  have e12 := d3.c_tail.2.2.2.2
  have HCI := Lib.hid (cloneI _ s.keep W3 d3.kp d3.ok.kn)
  have hown3 := hown2.heap (w' := W3) (fun k hk hkl => ho3 k (by have := hnew2 k hk; have := HS1.out; omega))
  have HOWN3 := Lib.hid hown3
  have HK3 := Lib.hid hk3
  have HB3 := Lib.hid hb3
  have HN2 : Hid (∀ k, (Value.slice A3 s.pend.length cap3).ownBlock = some k → w.heap.size < k ∧ k < W3.heap.size) := Lib.hid fun k hk => by
    have := hnew2 k hk; have := HS1.out; omega
  clear hk2 hown2 hnew2 hb2 hk3 hs3 ho3 hb3 d3 hown3
  go_wp2_with fail
  refine HCI.out.mono ?_; rintro e w4 ⟨u2, rfl, hir4, hnew4, hb4⟩
  have hk4 := HK3.out.below hb4 HK3.out.lt
  have y12 : w4.cell? ⟨w.heap.size, 12, none⟩ = some (.slice A2 s.keep.length cap2) := by
    rw [hk4.cell]; unfold dcells; rw [HDUR.out]; rfl
  have yf : w4.frozen? ⟨w.heap.size, 12, none⟩ = false := by
    have := hk4; unfold Blk at this; simp [World.frozen?, this]
  have HF : Hid (NewPost s w (.returned (.pointer (some ⟨w.heap.size, 0, none⟩))) (w4.setCell ⟨w.heap.size, 12, none⟩ u2)) := by
    have hs5 : (w4.setCell ⟨w.heap.size, 12, none⟩ u2).heap.size = w4.heap.size := by simp [World.setCell]
    have ho5 : ∀ k, k ≠ w.heap.size → (w4.setCell ⟨w.heap.size, 12, none⟩ u2).heap[k]? = w4.heap[k]? := fun k hk => Below.heap_setCell w4 ⟨w.heap.size, 12, none⟩ _ k hk
    have hz := HB3.out.size
    have hz4 := hb4.size
    have hu2 : ∀ k, u2.ownBlock = some k → w.heap.size < k ∧ k < w4.heap.size := fun k hk => by
      have := hnew4 k hk; have := HK3.out.lt; omega
    refine ⟨_, rfl, Nat.le_refl _, ⟨⟨Nat.le_refl _, ?_⟩, .slice A3 s.pend.length cap3, u2, ⟨?_, ?_, ?_, ?_, ?_, ?_, ?_, HOK.out⟩, ?_, ?_⟩, ?_⟩
    · rw [hs5]; exact hk4.lt
    · have := blk_set hk4 (i := 12) u2
      have hc : ((dcells s (.slice A s.pend.length cap) (.slice A2 s.keep.length cap2)).setIfInBounds 8 (.slice A3 s.pend.length cap3)).setIfInBounds 12 u2 = dcells s (.slice A3 s.pend.length cap3) u2 := by
        simp only [dcells, HDUR.out]; rfl
      rw [hc] at this
      exact this
    · exact (HOWN3.out.heap (fun k _ hk => hb4.block k hk)).heap (fun k hk _ => ho5 k (by have := HN2.out k hk; omega))
    · exact hir4.heap (by rw [hs5]; exact Nat.le_refl _) (fun k hk _ => ho5 k (by have := hu2 k hk; omega))
    · intro e; have := HN2.out _ e; omega
    · intro e; have := hu2 _ e; omega
    · intro k hk hk2; have h1 := hnew4 k hk; have h2 := HN2.out k hk2; omega
    · intro k hk; rw [hs5]; exact (hu2 k hk).2
    · intro k hk; have := HN2.out k hk; rw [hs5]; omega
    · intro k hk; have := hu2 k hk; rw [hs5]; omega
    · exact (HB3.out.trans (hb4.mono HB3.out.size)).setCell (Nat.le_refl _) _
  obtain ⟨A4, cap4, rfl, -⟩ := hir4
  clear hk4 hnew4 hb4
  go_wp2_with fail
  go_ret
  exact HF.out
end Go.Proofs.Ytcfngdlgllanhaa
