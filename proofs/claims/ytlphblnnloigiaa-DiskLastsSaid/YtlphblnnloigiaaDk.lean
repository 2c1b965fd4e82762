/-
  Layer 6: the disk as plain data, and what its calls do to it.
-/
import Derived.Test.YtlphblnnloigiaaBase
namespace Go.Proofs.Ytlphblnnloigiaa
set_option linter.unusedVariables false
set_option linter.unusedSimpArgs false
open Go.RowKit

/-- To put bytes into a string at an offset. -/
def pput (s : List UInt8) (a : Nat) (t : List UInt8) : List UInt8 := s.take a ++ List.replicate (a - s.length) 0 ++ t ++ s.drop (a + t.length)
theorem pput_length (s : List UInt8) (a : Nat) (t : List UInt8) : (pput s a t).length = max s.length (a + t.length) := by
  simp only [pput, List.length_append, List.length_take, List.length_replicate, List.length_drop]; omega
theorem pput_get (s : List UInt8) (a : Nat) (t : List UInt8) (k : Nat) : (pput s a t)[k]? = if k < a then (if k < s.length then s[k]? else some 0) else if k < a + t.length then t[k - a]? else s[k]? := by
  have hl : (s.take a ++ List.replicate (a - s.length) (0 : UInt8)).length = a := by rw [List.length_append, List.length_take, List.length_replicate]; omega
  unfold pput
  by_cases h1 : k < a
  · rw [if_pos h1, List.append_assoc, List.getElem?_append_left (by rw [hl]; exact h1)]
    by_cases h2 : k < s.length
    · rw [if_pos h2, List.getElem?_append_left (by rw [List.length_take]; omega), List.getElem?_take, if_pos h1]
    · rw [if_neg h2, List.getElem?_append_right (by rw [List.length_take]; omega), List.getElem?_replicate, if_pos (by rw [List.length_take]; omega)]
  · rw [if_neg h1, List.append_assoc, List.getElem?_append_right (by rw [hl]; omega), hl]
    by_cases h2 : k < a + t.length
    · rw [if_pos h2, List.getElem?_append_left (by omega)]
    · rw [if_neg h2, List.getElem?_append_right (by omega), List.getElem?_drop]
      congr 1; omega

structure Pc where
  f : Nat
  a : Nat
  t : ByteArray
instance : Inhabited Pc := ⟨⟨0, 0, bs []⟩⟩
def Pc.l (p : Pc) : List UInt8 := p.t.data.toList
theorem dl_len (s : ByteArray) : s.data.toList.length = s.size := by rw [Array.length_toList]; rfl
theorem Pc.l_length (p : Pc) : p.l.length = p.t.size := dl_len _
def gp (l : List Pc) (i : Nat) : Pc := l.getD i default
theorem gp_get (l : List Pc) (i : Nat) (h : i < l.length) : gp l i = l[i] := by unfold gp; rw [List.getD_eq_getElem?_getD, List.getElem?_eq_getElem h]; rfl

/-- The bytes of a file: its durable part with its pending writes. -/
def fileL (d : List UInt8) (l : List Pc) (f : Nat) : List UInt8 := l.foldl (fun s p => if p.f = f then pput s p.a p.l else s) d
theorem fileL_append (d : List UInt8) (l m : List Pc) (f : Nat) : fileL d (l ++ m) f = fileL (fileL d l f) m f := by simp [fileL]
theorem fileL_nil (d : List UInt8) (f : Nat) : fileL d [] f = d := rfl
theorem fileL_cons (d : List UInt8) (p : Pc) (l : List Pc) (f : Nat) : fileL d (p :: l) f = fileL (if p.f = f then pput d p.a p.l else d) l f := rfl
theorem fileL_one (d : List UInt8) (p : Pc) (f : Nat) : fileL d [p] f = if p.f = f then pput d p.a p.l else d := rfl
theorem fileL_none (d : List UInt8) (l : List Pc) (f : Nat) (h : ∀ p ∈ l, p.f ≠ f) : fileL d l f = d := by
  induction l generalizing d with
  | nil => rfl
  | cons p l ih => rw [fileL_cons, if_neg (h p (by simp)), ih _ (fun q hq => h q (by simp [hq]))]
theorem fileL_filter (d : List UInt8) (l : List Pc) (f : Nat) (P : Pc → Bool) (h : ∀ p ∈ l, p.f = f → P p = true) : fileL d (l.filter P) f = fileL d l f := by
  induction l generalizing d with
  | nil => rfl
  | cons p l ih =>
    have ih2 := fun d => ih d (fun q hq => h q (by simp [hq]))
    rw [fileL_cons]
    by_cases hp : P p = true
    · rw [List.filter_cons_of_pos hp, fileL_cons, ih2]
    · rw [List.filter_cons_of_neg hp, if_neg (fun e => hp (h p (by simp) e)), ih2]
theorem fileL_mono (d : List UInt8) (l : List Pc) (f : Nat) : d.length ≤ (fileL d l f).length := by
  induction l generalizing d with
  | nil => exact Nat.le_refl _
  | cons p l ih =>
    rw [fileL_cons]
    refine Nat.le_trans ?_ (ih _)
    by_cases h : p.f = f
    · rw [if_pos h, pput_length]; omega
    · rw [if_neg h]; exact Nat.le_refl _
theorem fileL_le (d : List UInt8) (l : List Pc) (f n : Nat) (hd : d.length ≤ n) (h : ∀ p ∈ l, p.a + p.t.size ≤ n) : (fileL d l f).length ≤ n := by
  induction l generalizing d with
  | nil => exact hd
  | cons p l ih =>
    rw [fileL_cons]
    refine ih _ ?_ (fun q hq => h q (by simp [hq]))
    have := h p (by simp)
    by_cases h : p.f = f
    · rw [if_pos h, pput_length, Pc.l_length]; omega
    · rw [if_neg h]; exact hd
theorem fileL_reach (d : List UInt8) (l : List Pc) (f : Nat) (p : Pc) (hp : p ∈ l) (hf : p.f = f) : p.a + p.t.size ≤ (fileL d l f).length := by
  induction l generalizing d with
  | nil => cases hp
  | cons q l ih =>
    rw [fileL_cons]
    rcases List.mem_cons.1 hp with rfl | h
    · rw [if_pos hf]
      refine Nat.le_trans ?_ (fileL_mono _ _ _)
      rw [pput_length, Pc.l_length]; omega
    · exact ih _ h

/-- A buffer of n bytes that begins with s, and is 0 behind it. -/
def padL (n : Nat) (s : List UInt8) : List UInt8 := s ++ List.replicate (n - s.length) 0
theorem padL_length (n : Nat) (s : List UInt8) (h : s.length ≤ n) : (padL n s).length = n := by rw [padL, List.length_append, List.length_replicate]; omega
theorem padL_full (s : List UInt8) : padL s.length s = s := by simp [padL]
theorem padL_get (n : Nat) (s : List UInt8) (k : Nat) (h : s.length ≤ n) : (padL n s)[k]? = if k < s.length then s[k]? else if k < n then some 0 else none := by
  unfold padL
  by_cases h1 : k < s.length
  · rw [if_pos h1, List.getElem?_append_left h1]
  · rw [if_neg h1, List.getElem?_append_right (by omega), List.getElem?_replicate]
    by_cases h2 : k < n
    · rw [if_pos h2, if_pos (by omega)]
    · rw [if_neg h2, if_neg (by omega)]
/-- What copy does to a row. -/
def spl (L : List UInt8) (off : Nat) (cs : List UInt8) : List UInt8 := L.take off ++ cs ++ L.drop (off + cs.length)
theorem spl_get (L : List UInt8) (off : Nat) (cs : List UInt8) (hf : off + cs.length ≤ L.length) (k : Nat) : (spl L off cs)[k]? = if k < off then L[k]? else if k < off + cs.length then cs[k - off]? else L[k]? := by
  unfold spl
  by_cases h1 : k < off
  · rw [if_pos h1, List.append_assoc, List.getElem?_append_left (by rw [List.length_take]; omega), List.getElem?_take, if_pos h1]
  · rw [if_neg h1, List.append_assoc, List.getElem?_append_right (by rw [List.length_take]; omega), show k - (L.take off).length = k - off by rw [List.length_take]; omega]
    by_cases h2 : k < off + cs.length
    · rw [if_pos h2, List.getElem?_append_left (by omega)]
    · rw [if_neg h2, List.getElem?_append_right (by omega), List.getElem?_drop]
      congr 1; omega
theorem pad_put (n : Nat) (s : List UInt8) (a : Nat) (t : List UInt8) (hs : s.length ≤ n) (ha : a + t.length ≤ n) : spl (padL n s) a t = padL n (pput s a t) := by
  apply List.ext_getElem?
  intro k
  have hpl := pput_length s a t
  rw [spl_get _ _ _ (by rw [padL_length _ _ hs]; exact ha), padL_get _ _ _ hs, padL_get _ _ _ (by rw [hpl]; omega), pput_get]
  by_cases h1 : k < a
  · rw [if_pos h1, if_pos h1, if_pos (show k < (pput s a t).length by rw [hpl]; omega)]
    by_cases h2 : k < s.length
    · rw [if_pos h2, if_pos h2]
    · rw [if_neg h2, if_neg h2, if_pos (show k < n by omega)]
  · rw [if_neg h1, if_neg h1]
    by_cases h2 : k < a + t.length
    · rw [if_pos h2, if_pos h2, if_pos (show k < (pput s a t).length by rw [hpl]; omega)]
    · rw [if_neg h2, if_neg h2]
      by_cases h3 : k < s.length
      · rw [if_pos h3, if_pos (show k < (pput s a t).length by rw [hpl]; omega)]
      · rw [if_neg h3, if_neg (show ¬ k < (pput s a t).length by rw [hpl]; omega)]
theorem pad_nil (n : Nat) (d : List UInt8) (h : d.length ≤ n) : spl (List.replicate n 0) 0 d = padL n d := by
  unfold spl padL
  simp

structure Dk where
  dur : List ByteArray
  pend : List Pc
  down : Bool
  lost : Nat
  calls : Nat
  keep : List Int
def Dk.d (s : Dk) (f : Nat) : ByteArray := s.dur.getD f (bs [])
def Dk.bytes (s : Dk) (f : Nat) : ByteArray := bs (fileL (s.d f).data.toList s.pend f)
def Dk.size (s : Dk) (f : Int) : Nat := if 0 ≤ f ∧ f < 8 then (s.bytes f.toNat).size else 0
def Dk.settle (s : Dk) (f : Nat) (b : ByteArray) : Dk := { s with dur := s.dur.set f b, pend := s.pend.filter fun p => !decide (p.f = f) }
def dk0 : Dk := ⟨List.replicate 8 (bs []), [], false, 0, 0, []⟩

structure Dk.ok (s : Dk) : Prop where
  dl : s.dur.length = 8
  ds : ∀ b ∈ s.dur, b.size ≤ 16777216
  ps : ∀ p ∈ s.pend, p.f < 8 ∧ p.a + p.t.size ≤ 16777216 ∧ 0 < p.t.size ∧ p.t.size ≤ 32
  pn : s.pend.length ≤ 1000000
  kn : s.keep.length ≤ 1000000
  lo : s.lost ≤ 9223372036854775807
  ca : s.calls ≤ 9223372036854775807
theorem dk0_ok : dk0.ok := ⟨rfl, by intro b hb; rw [List.eq_of_mem_replicate hb, bs_size]; exact Nat.zero_le _, fun p hp => (by cases hp), Nat.zero_le _, Nat.zero_le _, Nat.zero_le _, Nat.zero_le _⟩
theorem Dk.ok.d_le {s : Dk} (h : s.ok) (f : Nat) : (s.d f).size ≤ 16777216 := by
  unfold Dk.d
  by_cases hf : f < s.dur.length
  · rw [List.getD_eq_getElem?_getD, List.getElem?_eq_getElem hf]; exact h.ds _ (List.getElem_mem hf)
  · rw [List.getD_eq_getElem?_getD, List.getElem?_eq_none (by omega)]; simp [bs_size]
theorem Dk.ok.bytes_le {s : Dk} (h : s.ok) (f : Nat) : (s.bytes f).size ≤ 16777216 := by
  unfold Dk.bytes
  rw [bs_size]
  exact fileL_le _ _ _ _ (by rw [dl_len]; exact h.d_le f) (fun p hp => (h.ps p hp).2.1)
theorem Dk.bytes_none {s : Dk} {f : Nat} (h : ∀ p ∈ s.pend, p.f ≠ f) : s.bytes f = s.d f := by
  unfold Dk.bytes; rw [fileL_none _ _ _ h, bs_data]
theorem Dk.ok.settle {s : Dk} (h : s.ok) (f : Nat) (b : ByteArray) (hb : b.size ≤ 16777216) : (s.settle f b).ok :=
  ⟨by simp [Dk.settle, h.dl], fun x hx => by
    rcases List.mem_or_eq_of_mem_set hx with hx | rfl
    · exact h.ds _ hx
    · exact hb, fun p hp => h.ps p (List.mem_filter.1 hp).1, Nat.le_trans (List.length_filter_le _ _) h.pn, h.kn, h.lo, h.ca⟩

/-- How many bytes of the pending write i survive. -/
def surv (p : Pc) (i : Nat) (keep : List Int) : Nat := if keep.getD i 0 = 1 then p.t.size else if keep.getD i 0 = 2 then min 16 p.t.size else 0
def cutP (p : Pc) (n : Nat) : Pc := ⟨p.f, p.a, p.t.extract 0 n⟩
def keptN (keep : List Int) (l : List Pc) : Nat → List Pc
  | 0 => []
  | k + 1 => keptN keep l k ++ if surv (gp l k) k keep = 0 then [] else [cutP (gp l k) (surv (gp l k) k keep)]
def kept (keep : List Int) (l : List Pc) : List Pc := keptN keep l l.length
def Dk.crash (s : Dk) (keep : List Int) : Dk :=
  if s.down = true then s else ⟨(List.range 8).map fun f => bs (fileL (s.d f).data.toList (kept keep s.pend) f), [], true, s.lost, 0, []⟩
theorem surv_le (p : Pc) (i : Nat) (keep : List Int) : surv p i keep ≤ p.t.size := by
  unfold surv; split
  · exact Nat.le_refl _
  · split <;> omega
theorem cutP_size (p : Pc) (n : Nat) (h : n ≤ p.t.size) : (cutP p n).t.size = n := by simp [cutP]; omega
theorem keptN_length (keep : List Int) (l : List Pc) (k : Nat) : (keptN keep l k).length ≤ k := by
  induction k with
  | zero => exact Nat.le_refl _
  | succ k ih => rw [keptN, List.length_append]; split <;> simp <;> omega
theorem keptN_mem (keep : List Int) (l : List Pc) (k : Nat) (hk : k ≤ l.length) (p : Pc) (hp : p ∈ keptN keep l k) : ∃ q ∈ l, p.f = q.f ∧ p.a = q.a ∧ 0 < p.t.size ∧ p.t.size ≤ q.t.size := by
  induction k with
  | zero => cases hp
  | succ k ih =>
    rw [keptN] at hp
    rcases List.mem_append.1 hp with hp | hp
    · exact ih (by omega) hp
    · have hs := surv_le (gp l k) k keep
      split at hp
      · cases hp
      · rw [List.mem_singleton] at hp
        subst hp
        refine ⟨gp l k, ?_, rfl, rfl, ?_, ?_⟩
        · rw [gp_get l k (by omega)]; exact List.getElem_mem _
        · rw [cutP_size _ _ hs]; omega
        · rw [cutP_size _ _ hs]; exact hs
theorem Dk.ok.crash {s : Dk} (h : s.ok) (keep : List Int) : (s.crash keep).ok := by
  unfold Dk.crash
  split
  · exact h
  · refine ⟨by simp, fun b hb => ?_, fun p hp => (by cases hp), Nat.zero_le _, Nat.zero_le _, h.lo, Nat.zero_le _⟩
    simp only [List.mem_map] at hb
    obtain ⟨f, _, rfl⟩ := hb
    rw [bs_size]
    refine fileL_le _ _ _ _ (by rw [dl_len]; exact h.d_le f) (fun p hp => ?_)
    obtain ⟨q, hq, _, h2, _, h4⟩ := keptN_mem keep s.pend _ (Nat.le_refl _) p hp
    have := h.ps q hq
    omega

/-- The pending writes that a write of s at a makes. -/
def pcs (f : Nat) : Nat → Nat → ByteArray → List Pc
  | 0, _, _ => []
  | m + 1, a, s => if s.size = 0 then [] else ⟨f, a, s.extract 0 (min s.size (32 - a % 32))⟩ :: pcs f m (a + min s.size (32 - a % 32)) (s.extract (min s.size (32 - a % 32)) s.size)
theorem pcs_fuel (f : Nat) : ∀ (m m' a : Nat) (s : ByteArray), s.size ≤ m → s.size ≤ m' → pcs f m a s = pcs f m' a s
  | 0, 0, a, s, _, _ => rfl
  | 0, m' + 1, a, s, h, _ => by rw [pcs, pcs, if_pos (by omega)]
  | m + 1, 0, a, s, _, h => by rw [pcs, pcs, if_pos (by omega)]
  | m + 1, m' + 1, a, s, h, h' => by
    rw [pcs, pcs]
    by_cases h0 : s.size = 0
    · rw [if_pos h0, if_pos h0]
    · rw [if_neg h0, if_neg h0, pcs_fuel f m m' _ _ (by simp; omega) (by simp; omega)]
theorem pcs_step (f a : Nat) (s : ByteArray) (h : 0 < s.size) : pcs f s.size a s = ⟨f, a, s.extract 0 (min s.size (32 - a % 32))⟩ :: pcs f (s.extract (min s.size (32 - a % 32)) s.size).size (a + min s.size (32 - a % 32)) (s.extract (min s.size (32 - a % 32)) s.size) := by
  obtain ⟨m, hm⟩ : ∃ m, s.size = m + 1 := ⟨s.size - 1, by omega⟩
  conv => lhs; rw [hm]
  rw [pcs, if_neg (by omega), pcs_fuel f m _ _ _ (by simp; omega) (Nat.le_refl _)]
theorem pcs_zero (f a : Nat) (s : ByteArray) (h : s.size = 0) : pcs f s.size a s = [] := by rw [h, pcs]
theorem pcs_ok (f : Nat) : ∀ (m a : Nat) (s : ByteArray), ∀ p ∈ pcs f m a s, p.f = f ∧ a ≤ p.a ∧ p.a + p.t.size ≤ a + s.size ∧ 0 < p.t.size ∧ p.t.size ≤ 32
  | 0, a, s, p, h => by cases h
  | m + 1, a, s, p, h => by
    rw [pcs] at h
    split at h
    · cases h
    · rename_i h0
      rcases List.mem_cons.1 h with rfl | h
      · refine ⟨rfl, Nat.le_refl _, ?_, ?_, ?_⟩ <;> simp <;> omega
      · have := pcs_ok f m _ _ p h
        simp at this
        exact ⟨this.1, by omega, by omega, this.2.2.2.1, this.2.2.2.2⟩
theorem pcs_length (f : Nat) : ∀ (m a : Nat) (s : ByteArray), (pcs f m a s).length ≤ s.size
  | 0, a, s => by simp [pcs]
  | m + 1, a, s => by
    rw [pcs]
    split
    · simp
    · have := pcs_length f m (a + min s.size (32 - a % 32)) (s.extract (min s.size (32 - a % 32)) s.size)
      simp at this ⊢
      omega

def isF (f : Int) : Bool := decide (0 ≤ f ∧ f < 8)
def Dk.raw (s : Dk) (f a : Int) (t : ByteArray) : Int × Dk :=
  if s.down = true then (10, s) else if isF f = false then (1, s) else if a < 0 then (1, s) else if 16777216 - (t.size : Int) < a then (7, s) else (0, { s with pend := s.pend ++ pcs f.toNat t.size a.toNat t })
def Dk.due (s : Dk) : Bool := !s.down && decide (s.calls = 1)
def Dk.tick (s : Dk) : Dk := if s.down = true then s else { s with calls := s.calls - 1 }
def Dk.enter (s : Dk) : Dk := if s.due = true then s.tick.crash s.keep else s.tick
def Dk.chk (s : Dk) (f : Int) : Int := if s.down = true then 10 else if isF f = false then 1 else 0
def Dk.write (s : Dk) (f a : Int) (t : ByteArray) : Int × Dk :=
  if s.due = true then (10, (s.tick.raw f a t).2.crash s.keep) else s.tick.raw f a t
def Dk.flush0 (s : Dk) (f : Int) : Int × Dk :=
  if s.chk f ≠ 0 then (s.chk f, s) else if 0 < s.lost then (12, { s with lost := s.lost - 1 }) else (0, s.settle f.toNat (s.bytes f.toNat))
def Dk.flush (s : Dk) (f : Int) : Int × Dk := s.enter.flush0 f
def Dk.cut0 (s : Dk) (f n : Int) : Int × Dk :=
  if s.chk f ≠ 0 then (s.chk f, s) else if n < 0 ∨ ((s.bytes f.toNat).size : Int) < n then (1, s) else (0, s.settle f.toNat ((s.bytes f.toNat).extract 0 n.toNat))
def Dk.cut (s : Dk) (f n : Int) : Int × Dk := s.enter.cut0 f n
def Dk.pending (s : Dk) (f : Nat) : Bool := s.pend.any fun p => decide (p.f = f)
def Dk.turn0 (s : Dk) (f g : Int) : Int × Dk :=
  if s.down = true then (10, s) else if isF f = false ∨ isF g = false then (1, s) else if f = g then (1, s) else if s.pending g.toNat = true then (11, s) else
  (0, (s.settle f.toNat (s.d g.toNat)).settle g.toNat (bs []))
def Dk.turn (s : Dk) (f g : Int) : Int × Dk := s.enter.turn0 f g
def Dk.lose (s : Dk) (n : Int) : Dk := { s with lost := n.toNat }
def Dk.arm (s : Dk) (n : Int) (keep : List Int) : Dk := { s with calls := n.toNat, keep := keep }
def Dk.start (s : Dk) : Dk := { s with down := false }
def Dk.read (s : Dk) (f : Int) : ByteArray × Int := if s.chk f ≠ 0 then (bs [], s.chk f) else (s.bytes f.toNat, 0)

theorem Dk.ok.raw {s : Dk} (h : s.ok) (f a : Int) (t : ByteArray) (hn : s.pend.length + t.size ≤ 1000000) : (s.raw f a t).2.ok := by
  unfold Dk.raw
  split
  · exact h
  split
  · exact h
  split
  · exact h
  split
  · exact h
  · rename_i h1 h2 h3 h4
    have hf : 0 ≤ f ∧ f < 8 := by simpa [isF] using h2
    refine ⟨h.dl, h.ds, fun p hp => ?_, ?_, h.kn, h.lo, h.ca⟩
    · rcases List.mem_append.1 hp with hp | hp
      · exact h.ps p hp
      · have := pcs_ok _ _ _ _ p hp
        exact ⟨by omega, by omega, this.2.2.2.1, this.2.2.2.2⟩
    · have := pcs_length f.toNat t.size a.toNat t
      simp only [List.length_append]; omega
theorem Dk.ok.tick {s : Dk} (h : s.ok) : s.tick.ok := by
  unfold Dk.tick; split
  · exact h
  · exact ⟨h.dl, h.ds, h.ps, h.pn, h.kn, h.lo, by have := h.ca; show s.calls - 1 ≤ _; omega⟩
theorem Dk.ok.enter {s : Dk} (h : s.ok) : s.enter.ok := by
  unfold Dk.enter; split
  · exact h.tick.crash _
  · exact h.tick
theorem Dk.raw_pend (s : Dk) (f a : Int) (t : ByteArray) : (s.raw f a t).2.pend.length ≤ s.pend.length + t.size := by
  have := pcs_length f.toNat t.size a.toNat t
  unfold Dk.raw
  split
  · exact Nat.le_add_right _ _
  split
  · exact Nat.le_add_right _ _
  split
  · exact Nat.le_add_right _ _
  split
  · exact Nat.le_add_right _ _
  · simp only [List.length_append]; omega
theorem Dk.crash_pend (s : Dk) (k : List Int) : (s.crash k).pend.length ≤ s.pend.length := by unfold Dk.crash; split <;> simp
theorem Dk.tick_pend (s : Dk) : s.tick.pend = s.pend := by unfold Dk.tick; split <;> rfl
theorem Dk.enter_pend (s : Dk) : s.enter.pend.length ≤ s.pend.length := by
  unfold Dk.enter; split
  · exact Nat.le_trans (Dk.crash_pend _ _) (by rw [Dk.tick_pend]; exact Nat.le_refl _)
  · rw [Dk.tick_pend]; exact Nat.le_refl _
theorem Dk.ok.write {s : Dk} (h : s.ok) (f a : Int) (t : ByteArray) (hn : s.pend.length + t.size ≤ 1000000) : (s.write f a t).2.ok := by
  have h1 := h.tick.raw f a t (by rw [Dk.tick_pend]; exact hn)
  unfold Dk.write; split
  · exact h1.crash _
  · exact h1
theorem Dk.write_pend (s : Dk) (f a : Int) (t : ByteArray) : (s.write f a t).2.pend.length ≤ s.pend.length + t.size := by
  have h := Dk.raw_pend s.tick f a t
  rw [Dk.tick_pend] at h
  unfold Dk.write; split
  · exact Nat.le_trans (Dk.crash_pend _ _) h
  · exact h
theorem Dk.ok.flush {s : Dk} (h : s.ok) (f : Int) : (s.flush f).2.ok := by
  have h1 := h.enter
  unfold Dk.flush Dk.flush0
  split
  · exact h1
  split
  · exact ⟨h1.dl, h1.ds, h1.ps, h1.pn, h1.kn, by have := h1.lo; show s.enter.lost - 1 ≤ _; omega, h1.ca⟩
  · exact h1.settle _ _ (h1.bytes_le _)
theorem Dk.ok.cut {s : Dk} (h : s.ok) (f n : Int) : (s.cut f n).2.ok := by
  have h1 := h.enter
  unfold Dk.cut Dk.cut0
  split
  · exact h1
  split
  · exact h1
  · exact h1.settle _ _ (by have := h1.bytes_le f.toNat; simp; omega)
theorem Dk.ok.turn {s : Dk} (h : s.ok) (f g : Int) : (s.turn f g).2.ok := by
  have h1 := h.enter
  unfold Dk.turn Dk.turn0
  split
  · exact h1
  split
  · exact h1
  split
  · exact h1
  split
  · exact h1
  · exact (h1.settle _ _ (h1.d_le _)).settle _ _ (by simp [bs_size])
theorem Dk.settle_pend (s : Dk) (f : Nat) (b : ByteArray) : (s.settle f b).pend.length ≤ s.pend.length := List.length_filter_le _ _
theorem Dk.flush_pend (s : Dk) (f : Int) : (s.flush f).2.pend.length ≤ s.pend.length := by
  have h := Dk.enter_pend s
  unfold Dk.flush Dk.flush0
  split
  · exact h
  split
  · exact h
  · exact Nat.le_trans (Dk.settle_pend _ _ _) h
theorem Dk.cut_pend (s : Dk) (f n : Int) : (s.cut f n).2.pend.length ≤ s.pend.length := by
  have h := Dk.enter_pend s
  unfold Dk.cut Dk.cut0
  split
  · exact h
  split
  · exact h
  · exact Nat.le_trans (Dk.settle_pend _ _ _) h
theorem Dk.turn_pend (s : Dk) (f g : Int) : (s.turn f g).2.pend.length ≤ s.pend.length := by
  have h := Dk.enter_pend s
  unfold Dk.turn Dk.turn0
  split
  · exact h
  split
  · exact h
  split
  · exact h
  split
  · exact h
  · exact Nat.le_trans (Dk.settle_pend _ _ _) (Nat.le_trans (Dk.settle_pend _ _ _) h)
theorem Dk.ok.lose {s : Dk} (h : s.ok) (n : Int) (hn : n ≤ 9223372036854775807) : (s.lose n).ok := ⟨h.dl, h.ds, h.ps, h.pn, h.kn, by show n.toNat ≤ _; omega, h.ca⟩
theorem Dk.ok.arm {s : Dk} (h : s.ok) (n : Int) (k : List Int) (hn : n ≤ 9223372036854775807) (hk : k.length ≤ 1000000) : (s.arm n k).ok := ⟨h.dl, h.ds, h.ps, h.pn, hk, h.lo, by show n.toNat ≤ _; omega⟩
theorem Dk.ok.start {s : Dk} (h : s.ok) : s.start.ok := ⟨h.dl, h.ds, h.ps, h.pn, h.kn, h.lo, h.ca⟩
end Go.Proofs.Ytlphblnnloigiaa
