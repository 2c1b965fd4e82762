/-
  Layer 7: a rewriting that a crash interrupts leaves the old rows or the new ones.
-/
import Derived.Test.YtognomkhkoiabaaJ26
namespace Go.Proofs.Ytognomkhkoiabaa
set_option linter.unusedVariables false
set_option linter.unusedSimpArgs false
open Go.RowKit

/-- The disk is up, c calls stand before a crash, and file f has the durable bytes x. -/
structure Up (s : Dk) (f : Nat) (x : ByteArray) (c : Nat) : Prop where
  dn : s.down = false
  lo : s.lost = 0
  ca : s.calls = c
  dl : s.dur.length = 8
  d5 : s.d f = x
/-- The disk is down, nothing is pending, and file f has the durable bytes x. -/
structure Dn (s : Dk) (f : Nat) (x : ByteArray) : Prop where
  dn : s.down = true
  lo : s.lost = 0
  dl : s.dur.length = 8
  d5 : s.d f = x
  pe : s.pend = []
theorem crash_dn {s : Dk} {f : Nat} {x : ByteArray} (hd : s.down = false) (hl : s.lost = 0) (h5 : s.d f = x) (hf : f < 8) (hp : ∀ p ∈ s.pend, p.f ≠ f) (k : List Int) : Dn (s.crash k) f x := by
  refine ⟨crash_down s k, ?_, ?_, ?_, crash_pendN s hd k⟩
  · rw [Calm.crash hd]; exact hl
  · rw [Calm.crash hd]; simp
  · rw [crash_d s hd k f hf, fileL_none, bs_data, h5]
    intro p hp'
    obtain ⟨q, hq, e, _⟩ := keptN_mem k s.pend s.pend.length (Nat.le_refl _) p hp'
    rw [e]; exact hp q hq
theorem Dn.chk {s : Dk} {f : Nat} {x : ByteArray} (h : Dn s f x) (g : Int) : s.chk g = 10 := by unfold Dk.chk; rw [if_pos h.dn]
theorem Up.tick {s : Dk} {f c : Nat} {x : ByteArray} (h : Up s f x c) : Up s.tick f x (c - 1) ∧ s.tick.pend = s.pend ∧ ∀ g, s.tick.d g = s.d g := by
  have e : s.tick = { s with calls := s.calls - 1 } := by unfold Dk.tick; rw [if_neg (by rw [h.dn]; simp)]
  rw [e]
  exact ⟨⟨h.dn, h.lo, by rw [← h.ca], h.dl, h.d5⟩, rfl, fun g => rfl⟩
theorem Up.due {s : Dk} {f c : Nat} {x : ByteArray} (h : Up s f x c) : s.due = decide (c = 1) := by unfold Dk.due; rw [h.dn, h.ca]; simp
/-- A call's beginning. -/
theorem Up.enter {s : Dk} {f c : Nat} {x : ByteArray} (h : Up s f x c) (hf : f < 8) (hp : ∀ p ∈ s.pend, p.f ≠ f) : (c = 1 ∧ Dn s.enter f x) ∨ (c ≠ 1 ∧ Up s.enter f x (c - 1) ∧ s.enter.pend = s.pend ∧ ∀ g, s.enter.d g = s.d g) := by
  obtain ⟨h1, h2, h3⟩ := h.tick
  unfold Dk.enter
  rw [h.due]
  by_cases hc : c = 1
  · rw [if_pos (decide_eq_true hc)]
    exact .inl ⟨hc, crash_dn h1.dn h1.lo h1.d5 hf (by rw [h2]; exact hp) _⟩
  · rw [if_neg (by rw [decide_eq_true_iff]; exact hc)]
    exact .inr ⟨hc, h1, h2, h3⟩
theorem Up.chk {s : Dk} {f c g : Nat} {x : ByteArray} (h : Up s f x c) (hg : g < 8) : s.chk g = 0 := by
  unfold Dk.chk; rw [h.dn, if_neg (by simp), if_neg]
  simp [isF]; omega
theorem settleJ_d {s : Dk} {f g : Nat} {b : ByteArray} (hf : f < s.dur.length) : (s.settle f b).d g = if g = f then b else s.d g := set_d s f g b hf
theorem Up.settle {s : Dk} {f c g : Nat} {x b : ByteArray} (h : Up s f x c) (hg : g < 8) (hne : f ≠ g) : Up (s.settle g b) f x c :=
  ⟨h.dn, h.lo, h.ca, by show (s.dur.set g b).length = 8; rw [List.length_set]; exact h.dl, by rw [settleJ_d (by rw [h.dl]; exact hg), if_neg hne]; exact h.d5⟩
theorem nopend {s : Dk} {f : Nat} (h : s.pend = []) : ∀ p ∈ s.pend, p.f ≠ f := by rw [h]; intro p hp; cases hp
/-- Rewriting, interrupted or not. -/
structure RwOut (f : Nat) (l : List ByteArray) (x : ByteArray) (c : Nat) (r : Int × Lg × Dk) : Prop where
  cases_ : (r.1 = 10 ∧ c ≠ 0 ∧ Dn r.2.2 f x) ∨ (r.1 = 0 ∧ r.2.1 = ⟨f, l, l.length⟩ ∧ Up r.2.2 f (whl l) (c - 1 - 1 - 1 - 1) ∧ r.2.2.pend = [])
theorem runT_bad {t : Dk → Int × Dk} {T : List (Dk → Int × Dk)} {s S : Dk} {E : Int} (h : t s = (E, S)) (h0 : E ≠ 0) : runT (t :: T) s = (E, S) := runT_no h h0
theorem rewrite_up {g : Lg} {s : Dk} {f c : Nat} {x : ByteArray} (h : Up s f x c) (hp : s.pend = []) (hf : f < 7) (hg : g.file = f) (l : List ByteArray) (hx : ext l ≤ 16000000) : RwOut f l x c (g.rewrite s l) := by
  have hfile : ((f : Int) + 1) = ((f + 1 : Nat) : Int) := by omega
  obtain ⟨q, hq⟩ : ∃ q, runT [fun s => s.cut ((f + 1 : Nat) : Int) 0, fun s => s.write ((f + 1 : Nat) : Int) 0 (whl l), fun s => s.flush ((f + 1 : Nat) : Int), fun s => s.turn (f : Int) ((f + 1 : Nat) : Int)] s = q := ⟨_, rfl⟩
  have hrw : g.rewrite s l = if q.1 = 0 then (0, ⟨(f : Int), l, l.length⟩, q.2) else (q.1, g, q.2) := by
    unfold Lg.rewrite
    rw [hg, hfile, hq]
  have bad : ∀ E S, q = (E, S) → E = 10 → c ≠ 0 → Dn S f x → RwOut f l x c (g.rewrite s l) := fun E S e e10 hc hd => by
    rw [hrw, e, e10]
    exact ⟨.inl ⟨rfl, hc, hd⟩⟩
  -- cut
  rcases h.enter (by omega) (nopend hp) with ⟨hc1, hd⟩ | ⟨hc1, h1, p1, d1⟩
  · have e : s.cut ((f + 1 : Nat) : Int) 0 = (10, s.enter) := by
      unfold Dk.cut Dk.cut0
      rw [hd.chk, if_pos (by decide)]
    rw [runT_bad e (by decide)] at hq
    exact bad 10 _ hq.symm rfl (by omega) hd
  have e1 : s.cut ((f + 1 : Nat) : Int) 0 = (0, s.enter.settle (f + 1) (((s.enter).bytes (f + 1)).extract 0 0)) := by
    unfold Dk.cut Dk.cut0
    rw [h1.chk (by omega), if_neg (by simp), if_neg (by simp)]
    simp
  rw [runT_step e1] at hq
  have u1 := h1.settle (g := f + 1) (b := ((s.enter).bytes (f + 1)).extract 0 0) (by omega) (by omega)
  have q1 : (s.enter.settle (f + 1) (((s.enter).bytes (f + 1)).extract 0 0)).pend = [] := by
    show s.enter.pend.filter _ = []
    rw [p1, hp]; rfl
  have g1 : (s.enter.settle (f + 1) (((s.enter).bytes (f + 1)).extract 0 0)).d (f + 1) = bs [] := by
    rw [settleJ_d (by rw [h1.dl]; omega), if_pos rfl]
    exact ba_nil (by simp)
  obtain ⟨S1, hS1⟩ : ∃ S1, s.enter.settle (f + 1) (((s.enter).bytes (f + 1)).extract 0 0) = S1 := ⟨_, rfl⟩
  rw [hS1] at hq u1 q1 g1
  -- write
  obtain ⟨t1, t2, t3⟩ := u1.tick
  have hraw : S1.tick.raw ((f + 1 : Nat) : Int) 0 (whl l) = (0, { S1.tick with pend := S1.tick.pend ++ pcs (f + 1) (whl l).size 0 (whl l) }) := by
    unfold Dk.raw
    have hF : isF ((f + 1 : Nat) : Int) = true := by unfold isF; exact decide_eq_true (by omega)
    rw [if_neg (show ¬ S1.tick.down = true by rw [t1.dn]; simp), hF, if_neg (by simp), if_neg (by omega), if_neg (by rw [whl_size]; omega)]
    rfl
  have pf : ∀ p ∈ ({ S1.tick with pend := S1.tick.pend ++ pcs (f + 1) (whl l).size 0 (whl l) } : Dk).pend, p.f ≠ f := by
    intro p hp'
    rcases List.mem_append.1 hp' with hp' | hp'
    · rw [t2, q1] at hp'; cases hp'
    · have := (pcs_ok (f + 1) _ _ _ p hp').1
      omega
  by_cases hc2 : c - 1 = 1
  · have e : S1.write ((f + 1 : Nat) : Int) 0 (whl l) = (10, (S1.tick.raw ((f + 1 : Nat) : Int) 0 (whl l)).2.crash S1.keep) := by
      unfold Dk.write
      rw [u1.due, if_pos (decide_eq_true hc2)]
    rw [runT_bad e (by decide)] at hq
    refine bad 10 _ hq.symm rfl (by omega) ?_
    rw [hraw]
    exact crash_dn (s := { S1.tick with pend := S1.tick.pend ++ pcs (f + 1) (whl l).size 0 (whl l) }) t1.dn t1.lo t1.d5 (by omega) pf _
  have e2 : S1.write ((f + 1 : Nat) : Int) 0 (whl l) = (0, { S1.tick with pend := S1.tick.pend ++ pcs (f + 1) (whl l).size 0 (whl l) }) := by
    unfold Dk.write
    rw [u1.due, if_neg (by rw [decide_eq_true_iff]; exact hc2), hraw]
  rw [runT_step e2] at hq
  have u2 : Up { S1.tick with pend := S1.tick.pend ++ pcs (f + 1) (whl l).size 0 (whl l) } f x (c - 1 - 1) := ⟨t1.dn, t1.lo, t1.ca, t1.dl, t1.d5⟩
  have b2 : ({ S1.tick with pend := S1.tick.pend ++ pcs (f + 1) (whl l).size 0 (whl l) } : Dk).bytes (f + 1) = whl l := by
    unfold Dk.bytes
    show bs (fileL (S1.tick.d (f + 1)).data.toList (S1.tick.pend ++ pcs (f + 1) (whl l).size 0 (whl l)) (f + 1)) = whl l
    rw [t3, g1, t2, q1, List.nil_append, bs_list, fileL_new]
  have p2 : ∀ p ∈ ({ S1.tick with pend := S1.tick.pend ++ pcs (f + 1) (whl l).size 0 (whl l) } : Dk).pend, p.f = f + 1 := by
    intro p hp'
    rcases List.mem_append.1 hp' with hp' | hp'
    · rw [t2, q1] at hp'; cases hp'
    · exact (pcs_ok (f + 1) _ _ _ p hp').1
  obtain ⟨S2, hS2⟩ : ∃ S2, ({ S1.tick with pend := S1.tick.pend ++ pcs (f + 1) (whl l).size 0 (whl l) } : Dk) = S2 := ⟨_, rfl⟩
  rw [hS2] at hq u2 b2 p2 pf
  -- flush
  rcases u2.enter (by omega) pf with ⟨hc3, hd⟩ | ⟨hc3, h3, p3, d3⟩
  · have e : S2.flush ((f + 1 : Nat) : Int) = (10, S2.enter) := by
      unfold Dk.flush Dk.flush0
      rw [hd.chk, if_pos (by decide)]
    rw [runT_bad e (by decide)] at hq
    exact bad 10 _ hq.symm rfl (by omega) hd
  have b3 : S2.enter.bytes (f + 1) = whl l := by
    unfold Dk.bytes at b2 ⊢
    rw [d3, p3]; exact b2
  have e3 : S2.flush ((f + 1 : Nat) : Int) = (0, S2.enter.settle (f + 1) (whl l)) := by
    unfold Dk.flush Dk.flush0
    rw [h3.chk (by omega), if_neg (by simp), h3.lo, if_neg (by omega)]
    simp only [Int.toNat_natCast, b3]
  rw [runT_step e3] at hq
  have u3 := h3.settle (g := f + 1) (b := whl l) (by omega) (by omega)
  have q3 : (S2.enter.settle (f + 1) (whl l)).pend = [] := by
    show S2.enter.pend.filter _ = []
    rw [List.filter_eq_nil_iff, p3]
    intro p hp'
    simp [p2 p hp']
  have g3 : (S2.enter.settle (f + 1) (whl l)).d (f + 1) = whl l := by rw [settleJ_d (by rw [h3.dl]; omega), if_pos rfl]
  obtain ⟨S3, hS3⟩ : ∃ S3, S2.enter.settle (f + 1) (whl l) = S3 := ⟨_, rfl⟩
  rw [hS3] at hq u3 q3 g3
  -- turn
  rcases u3.enter (by omega) (nopend q3) with ⟨hc4, hd⟩ | ⟨hc4, h4, p4, d4⟩
  · have e : S3.turn (f : Int) ((f + 1 : Nat) : Int) = (10, S3.enter) := by
      unfold Dk.turn Dk.turn0
      rw [if_pos hd.dn]
    rw [runT_bad e (by decide)] at hq
    exact bad 10 _ hq.symm rfl (by omega) hd
  have hF0 : isF (f : Int) = true := by unfold isF; exact decide_eq_true (by omega)
  have hF1 : isF ((f + 1 : Nat) : Int) = true := by unfold isF; exact decide_eq_true (by omega)
  have e4 : S3.turn (f : Int) ((f + 1 : Nat) : Int) = (0, (S3.enter.settle f (whl l)).settle (f + 1) (bs [])) := by
    unfold Dk.turn Dk.turn0
    rw [if_neg (by rw [h4.dn]; simp), if_neg (by rw [hF0, hF1]; simp), if_neg (by omega), if_neg (by unfold Dk.pending; rw [p4, q3]; simp)]
    simp only [Int.toNat_natCast, d4, g3]
  rw [runT_step e4] at hq
  have hq' : q = (0, (S3.enter.settle f (whl l)).settle (f + 1) (bs [])) := hq.symm
  rw [hrw, hq', if_pos rfl]
  refine ⟨.inr ⟨rfl, rfl, ?_, ?_⟩⟩
  · refine ⟨h4.dn, h4.lo, h4.ca, by show (((S3.enter.dur.set f (whl l)).set (f + 1) (bs [])).length = 8); simp [h4.dl], ?_⟩
    show ((S3.enter.settle f (whl l)).settle (f + 1) (bs [])).d f = whl l
    rw [settleJ_d (by show f + 1 < (S3.enter.dur.set f (whl l)).length; rw [List.length_set, h4.dl]; omega), if_neg (by omega), settleJ_d (by rw [h4.dl]; omega), if_pos rfl]
  · show (S3.enter.pend.filter _).filter _ = []
    rw [p4, q3]; rfl
theorem Up.arm {s : Dk} {f c : Nat} {x : ByteArray} (h : Up s f x c) (n : Int) (k : List Int) : Up (s.arm n k) f x n.toNat := ⟨h.dn, h.lo, rfl, h.dl, h.d5⟩
theorem Dn.up {s : Dk} {f : Nat} {x : ByteArray} (h : Dn s f x) (k : List Int) : Up ((s.arm 0 k).start) f x 0 := ⟨rfl, h.lo, rfl, h.dl, h.d5⟩
theorem Up.read {s : Dk} {f c : Nat} {x : ByteArray} (h : Up s f x c) (hp : s.pend = []) (hf : f < 8) : s.read f = (x, 0) := by
  rw [read_of s f hf h.dn, Dk.bytes_none (nopend hp), h.d5]
theorem parse_whl (l : List ByteArray) (h : ext l ≤ 1000000000000) : parseS (whl l) = some l := by
  have := parse_whole l (bs []) h
  have e : whl l ++ bs [] = whl l := by
    apply W1.ba_ext
    rw [ByteArray.data_append, Array.toList_append]; simp [bs]
  rwa [e] at this
theorem up0 (f : Nat) (hf : f < 8) : Up dk0 f (bs []) 0 := ⟨rfl, rfl, rfl, rfl, dk0_d f⟩
end Go.Proofs.Ytognomkhkoiabaa
