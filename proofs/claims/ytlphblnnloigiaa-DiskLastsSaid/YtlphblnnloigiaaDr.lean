/-
  Layer 6: sequences of operations.
-/
import Derived.Test.YtlphblnnloigiaaDfew
import Derived.Test.YtlphblnnloigiaaDsm
namespace Go.Proofs.Ytlphblnnloigiaa
set_option linter.unusedVariables false
set_option linter.unusedSimpArgs false
open Go.RowKit

theorem ARow.keep {w w' : World} {v : Value} {l : List Ac} (h : ARow w w.heap.size v l) (hb : Below w.heap.size w w') : ARow w' w'.heap.size v l := by
  obtain ⟨A, cap, hv, hA⟩ := h
  refine ⟨A, cap, hv, fun h0 => ?_⟩
  obtain ⟨b, off, ha, hB, hc⟩ := hA h0
  refine ⟨b, off, ha, Nat.lt_of_lt_of_le hB hb.size, fun k hk => ?_⟩
  obtain ⟨u, hu, c0, c1, c2, c3, c4, c5⟩ := hc k hk
  exact ⟨u, hu.keep hb, keep_below hb c0, keep_below hb c1, keep_below hb c2, keep_below hb c3, keep_below hb c4, keep_below hb c5⟩
theorem arow_one (w : World) (a : Ac) (u : Value) (hu : IRow w w.heap.size u a.keep) : ARow (w.alloc (.cells #[.int .i64 a.o, .int .i64 a.f, .int .i64 a.g, .int .i64 a.n, .string a.s, u] 30)) (w.alloc (.cells #[.int .i64 a.o, .int .i64 a.f, .int .i64 a.g, .int .i64 a.n, .string a.s, u] 30)).heap.size (.slice (some ⟨w.heap.size, 0, none⟩) 1 1) [a] := by
  refine ⟨_, 1, rfl, fun _ => ⟨w.heap.size, 0, rfl, by simp, fun k hk => ?_⟩⟩
  simp at hk; subst hk
  have hb := Blk.new w 30 #[.int .i64 a.o, .int .i64 a.f, .int .i64 a.g, .int .i64 a.n, .string a.s, u]
  exact ⟨u, hu.keep (below_new _ _), hb.cell 0, hb.cell 1, hb.cell 2, hb.cell 3, hb.cell 4, hb.cell 5⟩
theorem fewB_parts {l : List Ac} (h : fewB l = true) : (∀ j, j < l.length → okN (ga l j) = true) ∧ l.length ≤ 200 ∧ tot l ≤ 5000 := by
  unfold fewB at h
  rw [Bool.and_eq_true, Bool.and_eq_true, decide_eq_true_iff, decide_eq_true_iff] at h
  refine ⟨fun j hj => ?_, h.2.1, h.2.2⟩
  rw [ga_get l j hj]
  exact List.all_eq_true.1 h.1 _ (List.getElem_mem hj)
theorem tot_take_le (l : List Ac) (k : Nat) : tot (l.take k) ≤ tot l := by
  conv => rhs; rw [← List.take_append_drop k l]
  unfold tot
  rw [List.map_append, List.sum_append]; omega

/-- A sequence of operations. -/
def runA (s : Dk) (l : List Ac) : Dk := l.foldl (fun s a => (s.act a).2.2) s
theorem runA_snoc (s : Dk) (l : List Ac) (k : Nat) (h : k < l.length) : runA s (l.take (k + 1)) = ((runA s (l.take k)).act (ga l k)).2.2 := by
  unfold runA
  rw [ga_get l k h, List.take_succ_eq_append_getElem h, List.foldl_append]; rfl
theorem act_pend (s : Dk) (a : Ac) : (s.act a).2.2.pend.length ≤ s.pend.length + a.s.size := by
  unfold Dk.act
  split
  · exact Dk.write_pend s _ _ _
  split
  · exact Nat.le_trans (Dk.flush_pend s _) (Nat.le_add_right _ _)
  split
  · exact Nat.le_trans (Dk.cut_pend s _ _) (Nat.le_add_right _ _)
  split
  · exact Nat.le_trans (Dk.turn_pend s _ _) (Nat.le_add_right _ _)
  split
  · exact Nat.le_trans (Dk.crash_pend s _) (Nat.le_add_right _ _)
  split
  · exact Nat.le_add_right _ _
  split
  · exact Nat.le_add_right _ _
  split
  · exact Nat.le_add_right _ _
  split
  · exact Nat.le_add_right _ _
  · exact Nat.le_add_right _ _
theorem runA_pend (l : List Ac) : ∀ k, k ≤ l.length → (runA dk0 (l.take k)).pend.length ≤ tot (l.take k)
  | 0, _ => by simp [runA, dk0]
  | k + 1, h => by
    rw [runA_snoc dk0 l k (by omega), tot_snoc l k (by omega)]
    have h1 := runA_pend l k (by omega)
    have h2 := act_pend (runA dk0 (l.take k)) (ga l k)
    unfold Ac.w
    omega
def DDo (w : World) (d : Nat) (r : ByteArray × Int × Dk) (e : Ending) (w2 : World) : Prop := e = .returned (.tuple #[.string r.1, .int .i64 r.2.1]) ∧ Dsk w w2 d r.2.2
theorem dDo {w w1 : World} {d : Nat} {s : Dk} (h : Dsk w w1 d s) (a : Ac) (v : Value) (hr : IRow w1 w1.heap.size v a.keep) (hw : a.wf) (ht : a.w ≤ 5000) (hn : s.pend.length ≤ 5000) :
    Calls Try.prog 9 #[.pointer (some ⟨d, 0, none⟩), av a v] w1 (DDo w d (s.act a)) := by
  unfold Ac.w at ht
  exact (doP h.1 a v hr (by omega) (by omega) hw.o.1 hw.o.2 hw.n.2).mono fun _ _ ⟨h1, h2⟩ => ⟨h1, h.op h2⟩

/-- Of a machine that is down. -/
theorem down_write {s : Dk} (h : s.down = true) (f a : Int) (t : ByteArray) : s.write f a t = (10, s) := by
  have hd : s.due = false := by unfold Dk.due; rw [h]; rfl
  have ht : s.tick = s := by unfold Dk.tick; rw [if_pos h]
  unfold Dk.write Dk.raw; rw [hd, if_neg (by simp), ht, if_pos h]
theorem down_enter {s : Dk} (h : s.down = true) : s.enter = s := by
  have hd : s.due = false := by unfold Dk.due; rw [h]; rfl
  have ht : s.tick = s := by unfold Dk.tick; rw [if_pos h]
  unfold Dk.enter; rw [hd, if_neg (by simp), ht]
theorem down_flush {s : Dk} (h : s.down = true) (f : Int) : s.flush f = (10, s) := by
  unfold Dk.flush Dk.flush0 Dk.chk; rw [down_enter h, if_pos h]; rfl
theorem down_cut {s : Dk} (h : s.down = true) (f n : Int) : s.cut f n = (10, s) := by
  unfold Dk.cut Dk.cut0 Dk.chk; rw [down_enter h, if_pos h]; rfl
theorem down_turn {s : Dk} (h : s.down = true) (f g : Int) : s.turn f g = (10, s) := by
  unfold Dk.turn Dk.turn0; rw [down_enter h, if_pos h]
theorem down_read {s : Dk} (h : s.down = true) (f : Int) : s.read f = (bs [], 10) := by
  unfold Dk.read Dk.chk; rw [if_pos h]; rfl
theorem down_crash {s : Dk} (h : s.down = true) (k : List Int) : s.crash k = s := by unfold Dk.crash; rw [if_pos h]
/-- Of a file number out of range. -/
theorem bad_write {s : Dk} (h : Calm s) (f a : Int) (t : ByteArray) (hf : isF f = false) : s.write f a t = (1, s) := by
  unfold Dk.write Dk.raw; rw [h.due, if_neg (by simp), h.tick, h.dn, if_neg (by simp), if_pos hf]
theorem bad_chk {s : Dk} (h : Calm s) (f : Int) (hf : isF f = false) : s.chk f = 1 := by unfold Dk.chk; rw [h.dn, if_neg (by simp), if_pos hf]
theorem bad_flush {s : Dk} (h : Calm s) (f : Int) (hf : isF f = false) : s.flush f = (1, s) := by
  unfold Dk.flush Dk.flush0; rw [h.enter, bad_chk h f hf, if_pos (by simp)]
theorem bad_cut {s : Dk} (h : Calm s) (f n : Int) (hf : isF f = false) : s.cut f n = (1, s) := by
  unfold Dk.cut Dk.cut0; rw [h.enter, bad_chk h f hf, if_pos (by simp)]
theorem bad_turn {s : Dk} (h : Calm s) (f g : Int) (hf : isF f = false ∨ isF g = false) : s.turn f g = (1, s) := by
  unfold Dk.turn Dk.turn0; rw [h.enter, h.dn, if_neg (by simp), if_pos hf]
theorem bad_size (s : Dk) (f : Int) (hf : isF f = false) : s.size f = 0 := by
  unfold Dk.size; rw [if_neg]; simpa [isF] using hf
theorem arm_calm (s : Dk) : Calm (s.arm 0 []).start := ⟨rfl, rfl⟩
end Go.Proofs.Ytlphblnnloigiaa
