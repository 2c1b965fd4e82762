/-
  Layer 6: mathematics for the laws.
-/
import Derived.Test.YtlphblnnloigiaaDl0
namespace Go.Proofs.Ytlphblnnloigiaa
set_option linter.unusedVariables false
set_option linter.unusedSimpArgs false
open Go.RowKit

theorem pput_pput (d : List UInt8) (a : Nat) (x y : List UInt8) : pput (pput d a x) (a + x.length) y = pput d a (x ++ y) := by
  apply List.ext_getElem?
  intro k
  have h1 := pput_length d a x
  rw [pput_get, pput_get, pput_get, List.length_append]
  by_cases hk1 : k < a
  · rw [if_pos (show k < a + x.length by omega), if_pos (show k < (pput d a x).length by rw [h1]; omega), if_pos hk1, if_pos hk1]
  · by_cases hk2 : k < a + x.length
    · rw [if_pos hk2, if_pos (show k < (pput d a x).length by rw [h1]; omega), if_neg hk1, if_pos hk2, if_neg hk1, if_pos (show k < a + (x.length + y.length) by omega), List.getElem?_append_left (by omega)]
    · rw [if_neg hk2, if_neg hk1, if_neg hk2, if_neg hk1]
      by_cases hk3 : k < a + x.length + y.length
      · rw [if_pos hk3, if_pos (show k < a + (x.length + y.length) by omega), List.getElem?_append_right (by omega)]
        congr 1; omega
      · rw [if_neg hk3, if_neg (show ¬ k < a + (x.length + y.length) by omega)]
theorem pput_nil (t : List UInt8) : pput [] 0 t = t := by simp [pput]
theorem ext_split (s : ByteArray) (n : Nat) (h : n ≤ s.size) : (s.extract 0 n).data.toList ++ (s.extract n s.size).data.toList = s.data.toList := by
  have hs : s.data.size = s.size := rfl
  simp only [ByteArray.data_extract, Array.toList_extract, List.extract_eq_take_drop, List.drop_zero, Nat.sub_zero]
  rw [List.take_of_length_le (l := List.drop n s.data.toList) (by rw [List.length_drop, dl_len]; exact Nat.le_refl _), List.take_append_drop]
theorem fileL_pcs (f : Nat) : ∀ (m a : Nat) (s : ByteArray) (d : List UInt8), s.size ≤ m → 0 < s.size → fileL d (pcs f m a s) f = pput d a s.data.toList
  | 0, a, s, d, h, h0 => by omega
  | m + 1, a, s, d, h, h0 => by
    obtain ⟨n, hn⟩ : ∃ n, n = min s.size (32 - a % 32) := ⟨_, rfl⟩
    rw [pcs, if_neg (by omega), ← hn, fileL_cons, if_pos rfl]
    have hx : (s.extract 0 n).data.toList.length = n := by rw [dl_len]; simp; omega
    by_cases h1 : n = s.size
    · have e : pcs f m (a + n) (s.extract n s.size) = [] := by
        cases m with
        | zero => rfl
        | succ m => rw [pcs, if_pos (by simp; omega)]
      rw [e, fileL_nil, h1]
      congr 1
      show (s.extract 0 s.size).data.toList = _
      have := ext_split s s.size (Nat.le_refl _)
      have h2 : (s.extract s.size s.size).data.toList = [] := List.eq_nil_of_length_eq_zero (by rw [dl_len]; simp)
      rw [h2, List.append_nil] at this
      exact this
    · rw [fileL_pcs f m (a + n) (s.extract n s.size) _ (by simp; omega) (by simp; omega)]
      show pput (pput d a (s.extract 0 n).data.toList) (a + n) _ = _
      conv => lhs; rw [← hx]
      rw [hx]
      have := pput_pput d a (s.extract 0 n).data.toList (s.extract n s.size).data.toList
      rw [hx, ext_split s n (by omega)] at this
      exact this
theorem fileL_pcs0 (f a : Nat) (s : ByteArray) (d : List UInt8) (h0 : 0 < s.size) : fileL d (pcs f s.size a s) f = pput d a s.data.toList := fileL_pcs f _ a s d (Nat.le_refl _) h0
theorem pcs_none (f : Nat) (s : ByteArray) (h : s.size = 0) (a : Nat) : pcs f s.size a s = [] := pcs_zero f a s h
theorem ba_nil {s : ByteArray} (h : s.size = 0) : s = bs [] := by
  rw [← bs_data s]; congr 1; exact List.eq_nil_of_length_eq_zero (by rw [dl_len]; exact h)
/-- The bytes of a new file after a write at 0. -/
theorem fileL_new (f : Nat) (s : ByteArray) : bs (fileL [] (pcs f s.size 0 s) f) = s := by
  by_cases h : s.size = 0
  · rw [pcs_none f s h, fileL_nil, ba_nil h]
  · rw [fileL_pcs0 f 0 s [] (by omega), pput_nil, bs_data]

structure Calm (s : Dk) : Prop where
  dn : s.down = false
  ca : s.calls = 0
theorem Calm.due {s : Dk} (h : Calm s) : s.due = false := by unfold Dk.due; rw [h.dn, h.ca]; rfl
theorem Calm.tick {s : Dk} (h : Calm s) : s.tick = s := by
  obtain ⟨a, b, c, d, e, f⟩ := s
  obtain ⟨h1, h2⟩ := h
  simp only at h1 h2
  subst h1; subst h2
  rfl
theorem Calm.enter {s : Dk} (h : Calm s) : s.enter = s := by unfold Dk.enter; rw [h.due, if_neg (by simp), h.tick]
theorem Calm.chk {s : Dk} (h : Calm s) {f : Nat} (hf : f < 8) : s.chk f = 0 := by
  unfold Dk.chk; rw [h.dn, if_neg (by simp), if_neg]
  simp [isF]; omega
theorem Calm.flush {s : Dk} (h : Calm s) {f : Nat} (hf : f < 8) (hl : s.lost = 0) : s.flush f = (0, s.settle f (s.bytes f)) := by
  unfold Dk.flush Dk.flush0
  rw [h.enter, h.chk hf, if_neg (by simp), hl, if_neg (by omega)]; rfl
theorem Calm.flush_lost {s : Dk} (h : Calm s) {f : Nat} (hf : f < 8) {m : Nat} (hl : s.lost = m + 1) : s.flush f = (12, { s with lost := m }) := by
  unfold Dk.flush Dk.flush0
  rw [h.enter, h.chk hf, if_neg (by simp), hl, if_pos (by omega)]; rfl
theorem Calm.write {s : Dk} (h : Calm s) {f a : Nat} (t : ByteArray) (hf : f < 8) (ha : a + t.size ≤ 16777216) : s.write f a t = (0, { s with pend := s.pend ++ pcs f t.size a t }) := by
  unfold Dk.write Dk.raw
  rw [h.due, if_neg (by simp), h.tick, h.dn, if_neg (by simp), if_neg (by simp [isF]; omega), if_neg (by omega), if_neg (by omega)]
  simp only [Int.toNat_natCast, h.dn]
theorem Calm.turn {s : Dk} (h : Calm s) {f g : Nat} (hf : f < 8) (hg : g < 8) (hne : f ≠ g) : s.turn f g = if s.pending g = true then (11, s) else (0, (s.settle f (s.d g)).settle g (bs [])) := by
  unfold Dk.turn Dk.turn0
  rw [h.enter, h.dn, if_neg (by simp), if_neg (by simp [isF]; omega), if_neg (by omega)]
  simp only [Int.toNat_natCast]
theorem Calm.read {s : Dk} (h : s.down = false) {f : Nat} (hf : f < 8) : s.read f = (s.bytes f, 0) := by
  have hc : s.chk f = 0 := by
    unfold Dk.chk
    rw [h, if_neg (by simp), if_neg]
    simp [isF]; omega
  unfold Dk.read
  rw [hc, if_neg (by simp)]; rfl
theorem Calm.crash {s : Dk} (h : s.down = false) (keep : List Int) : s.crash keep = ⟨(List.range 8).map fun f => bs (fileL (s.d f).data.toList (kept keep s.pend) f), [], true, s.lost, 0, []⟩ := by
  unfold Dk.crash; rw [h, if_neg (by simp)]
theorem kept_nilL (keep : List Int) : kept keep [] = [] := rfl
theorem surv_nil (p : Pc) (i : Nat) : surv p i [] = 0 := by unfold surv; simp
theorem kept_nil (l : List Pc) : kept [] l = [] := by
  unfold kept
  induction l.length with
  | zero => rfl
  | succ k ih => rw [keptN, ih, surv_nil]; rfl
theorem range_d (s : Dk) (g : Nat → List UInt8 → List UInt8) (f : Nat) (hf : f < 8) : ((List.range 8).map fun f => bs (g f (s.d f).data.toList)).getD f (bs []) = bs (g f (s.d f).data.toList) := by
  rw [List.getD_eq_getElem?_getD, List.getElem?_map, List.getElem?_range hf]; rfl
/-- The bytes of a file after a crash. -/
theorem crash_bytes (s : Dk) (h : s.down = false) (keep : List Int) (f : Nat) (hf : f < 8) : (s.crash keep).start.bytes f = bs (fileL (s.d f).data.toList (kept keep s.pend) f) := by
  have e : (s.crash keep).start.d f = bs (fileL (s.d f).data.toList (kept keep s.pend) f) := by
    rw [Calm.crash h]
    exact range_d s (fun f l => fileL l (kept keep s.pend) f) f hf
  have hp : (s.crash keep).start.pend = [] := by rw [Calm.crash h]; rfl
  rw [Dk.bytes_none (by rw [hp]; intro p hp; cases hp), e]
theorem crash_d (s : Dk) (h : s.down = false) (keep : List Int) (f : Nat) (hf : f < 8) : (s.crash keep).d f = bs (fileL (s.d f).data.toList (kept keep s.pend) f) := by
  rw [Calm.crash h]
  exact range_d s (fun f l => fileL l (kept keep s.pend) f) f hf
theorem crash_down (s : Dk) (keep : List Int) : (s.crash keep).down = true := by
  unfold Dk.crash; split
  · assumption
  · rfl
theorem crash_pendN (s : Dk) (h : s.down = false) (keep : List Int) : (s.crash keep).pend = [] := by rw [Calm.crash h]
theorem set_d (s : Dk) (f g : Nat) (b : ByteArray) (hf : f < s.dur.length) : (s.settle f b).d g = if g = f then b else s.d g := by
  unfold Dk.d Dk.settle
  simp only [List.getD_eq_getElem?_getD]
  by_cases h : g = f
  · subst h; rw [if_pos rfl, List.getElem?_set_self hf]; rfl
  · rw [if_neg h, List.getElem?_set_ne (fun e => h e.symm)]
theorem dk0_d (f : Nat) : dk0.d f = bs [] := by
  unfold Dk.d dk0
  rw [List.getD_eq_getElem?_getD, List.getElem?_replicate]
  by_cases h : f < 8
  · rw [if_pos h]; rfl
  · rw [if_neg h]; rfl
theorem read_of (s : Dk) (f : Nat) (hf : f < 8) (h : s.down = false) : s.read (f : Int) = (s.bytes f, 0) := Calm.read h hf
theorem size_of (s : Dk) (f : Nat) (hf : f < 8) : s.size (f : Int) = (s.bytes f).size := by
  unfold Dk.size; rw [if_pos (by omega)]; rfl

/-- Two disks, apart from each other. -/
def Two (w wl : World) (d c : Nat) (s t : Dk) : Prop := ∃ Bd Bc : Nat → Prop, DiskAt Bd wl d s ∧ DiskAt Bc wl c t ∧ (∀ k, Bd k → ¬ Bc k) ∧ (∀ k, Bd k → w.heap.size ≤ k ∧ k < wl.heap.size) ∧ (∀ k, Bc k → w.heap.size ≤ k ∧ k < wl.heap.size) ∧ Below w.heap.size w wl
theorem Two.swap {w wl : World} {d c : Nat} {s t : Dk} (h : Two w wl d c s t) : Two w wl c d t s := by
  obtain ⟨Bd, Bc, h1, h2, h3, h4, h5, h6⟩ := h
  exact ⟨Bc, Bd, h2, h1, fun k a b => h3 k b a, h5, h4, h6⟩
theorem Two.fst {w wl : World} {d c : Nat} {s t : Dk} (h : Two w wl d c s t) : Dsk w wl d s := by
  obtain ⟨Bd, Bc, h1, h2, h3, h4, h5, h6⟩ := h
  exact ⟨h1.mono fun k _ hk => (h4 k hk).1, h6⟩
theorem Two.op {w w1 w2 : World} {d c : Nat} {s s' t : Dk} (h : Two w w1 d c s t) (o : ∀ B, DiskAt B w1 d s → Op B w1 w2 d s') : Two w w2 d c s' t := by
  obtain ⟨Bd, Bc, h1, h2, h3, h4, h5, h6⟩ := h
  have hop := o Bd h1
  have hs := hop.fr.size
  refine ⟨_, Bc, hop.at_, h2.fr hop.fr (fun k hk hc hd => h3 k hd hc), ?_, ?_, fun k hk => ⟨(h5 k hk).1, Nat.lt_of_lt_of_le (h5 k hk).2 hs⟩, h6.trans (hop.fr.to_below h6.size fun k hk hd => by have := (h4 k hd).1; omega)⟩
  · intro k hk hc
    rcases hk with hk | hk
    · exact h3 k hk hc
    · have := (h5 k hc).2; omega
  · intro k hk
    rcases hk with hk | hk
    · exact ⟨(h4 k hk).1, Nat.lt_of_lt_of_le (h4 k hk).2 hs⟩
    · exact ⟨Nat.le_trans h6.size hk.1, hk.2⟩
theorem Two.below {w w1 w2 : World} {d c : Nat} {s t : Dk} (h : Two w w1 d c s t) (b : Below w1.heap.size w1 w2) : Two w w2 d c s t := by
  obtain ⟨Bd, Bc, h1, h2, h3, h4, h5, h6⟩ := h
  exact ⟨Bd, Bc, h1.below b, h2.below b, h3, fun k hk => ⟨(h4 k hk).1, Nat.lt_of_lt_of_le (h4 k hk).2 b.size⟩, fun k hk => ⟨(h5 k hk).1, Nat.lt_of_lt_of_le (h5 k hk).2 b.size⟩, h6.trans (b.mono h6.size)⟩
def CopyPost (w : World) (d : Nat) (s : Dk) (e : Ending) (w2 : World) : Prop := ∃ c, e = .returned (.pointer (some ⟨c, 0, none⟩)) ∧ Two w w2 d c s s
def TPost (w : World) (d c : Nat) (r : Int × Dk) (t : Dk) (e : Ending) (w2 : World) : Prop := e = .returned (.int .i64 r.1) ∧ Two w w2 d c r.2 t
def TUPost (w : World) (d c : Nat) (s t : Dk) (e : Ending) (w2 : World) : Prop := e = .returned (.tuple #[]) ∧ Two w w2 d c s t
theorem call_two {F : FuncId} {args : Array Value} {w w1 : World} {d c : Nat} {s s' t : Dk} {v : Value} (h : Two w w1 d c s t) (hc : ∀ B, DiskAt B w1 d s → Calls Try.prog F args w1 fun e w2 => e = .returned v ∧ Op B w1 w2 d s') : Calls Try.prog F args w1 fun e w2 => e = .returned v ∧ Two w w2 d c s' t := by
  obtain ⟨Bd, Bc, h1, h2, h3, h4, h5, h6⟩ := h
  refine (hc Bd h1).mono ?_
  rintro e w2 ⟨he, hop⟩
  refine ⟨he, ?_⟩
  have hs := hop.fr.size
  refine ⟨_, Bc, hop.at_, h2.fr hop.fr (fun k hk hc hd => h3 k hd hc), ?_, ?_, fun k hk => ⟨(h5 k hk).1, Nat.lt_of_lt_of_le (h5 k hk).2 hs⟩, h6.trans (hop.fr.to_below h6.size fun k hk hd => by have := (h4 k hd).1; omega)⟩
  · intro k hk hc
    rcases hk with hk | hk
    · exact h3 k hk hc
    · have := (h5 k hc).2; omega
  · intro k hk
    rcases hk with hk | hk
    · exact ⟨(h4 k hk).1, Nat.lt_of_lt_of_le (h4 k hk).2 hs⟩
    · exact ⟨Nat.le_trans h6.size hk.1, hk.2⟩
theorem tWrite {w w1 : World} {d c : Nat} {s t : Dk} (h : Two w w1 d c s t) (f a : Int) (x : ByteArray) (hn : s.pend.length + x.size ≤ 1000000) : Calls Try.prog 17 #[.pointer (some ⟨d, 0, none⟩), .int .i64 f, .int .i64 a, .string x] w1 (TPost w d c (s.write f a x) t) := call_two h fun B hB => writeP hB f a x hn
theorem tFlush {w w1 : World} {d c : Nat} {s t : Dk} (h : Two w w1 d c s t) (f : Int) : Calls Try.prog 18 #[.pointer (some ⟨d, 0, none⟩), .int .i64 f] w1 (TPost w d c (s.flush f) t) := call_two h fun B hB => flushP hB f
theorem tCut {w w1 : World} {d c : Nat} {s t : Dk} (h : Two w w1 d c s t) (f n : Int) : Calls Try.prog 21 #[.pointer (some ⟨d, 0, none⟩), .int .i64 f, .int .i64 n] w1 (TPost w d c (s.cut f n) t) := call_two h fun B hB => cutPP hB f n
theorem tTurn {w w1 : World} {d c : Nat} {s t : Dk} (h : Two w w1 d c s t) (f g : Int) : Calls Try.prog 20 #[.pointer (some ⟨d, 0, none⟩), .int .i64 f, .int .i64 g] w1 (TPost w d c (s.turn f g) t) := call_two h fun B hB => turnP hB f g
theorem tCrash {w w1 : World} {d c : Nat} {s t : Dk} (h : Two w w1 d c s t) (v : Value) (keep : List Int) (hr : IRow w1 w1.heap.size v keep) : Calls Try.prog 14 #[.pointer (some ⟨d, 0, none⟩), v] w1 (TUPost w d c (s.crash keep) t) := call_two h fun B hB => crashP hB v keep hr (by obtain ⟨_, cap, _, h1, h2, _⟩ := hr; exact Nat.le_trans h1 h2)
theorem tStart {w w1 : World} {d c : Nat} {s t : Dk} (h : Two w w1 d c s t) : Calls Try.prog 12 #[.pointer (some ⟨d, 0, none⟩)] w1 (TUPost w d c s.start t) := call_two h fun B hB => startP hB
theorem tRead {w w1 : World} {d c : Nat} {s t : Dk} (h : Two w w1 d c s t) (f : Int) : Calls Try.prog 10 #[.pointer (some ⟨d, 0, none⟩), .int .i64 f] w1 fun e w2 => e = .returned (.tuple #[.string (s.read f).1, .int .i64 (s.read f).2]) ∧ Two w w2 d c s t := call_two h fun B hB => (readP hB f).mono fun e w2 ⟨h1, h2⟩ => ⟨h1, (Op.refl hB).below h2⟩
end Go.Proofs.Ytlphblnnloigiaa
