/-
  Layer 6: a scheduled crash (mathematics for DiskArms).
-/
import Derived.Test.YtlphblnnloigiaaDp
namespace Go.Proofs.Ytlphblnnloigiaa
set_option linter.unusedVariables false
set_option linter.unusedSimpArgs false
open Go.RowKit

theorem pput_take (s : List UInt8) (a : Nat) (t : List UInt8) (m : Nat) (hm : m ≤ s.length) (ha : m ≤ a) : (pput s a t).take m = s.take m := by
  apply List.ext_getElem?
  intro k
  rw [List.getElem?_take, List.getElem?_take]
  split
  · rw [pput_get, if_pos (by omega), if_pos (by omega)]
  · rfl
theorem fileL_prefix (m f : Nat) (l : List Pc) : ∀ (d : List UInt8), m ≤ d.length → (∀ p ∈ l, m ≤ p.a) → (fileL d l f).take m = d.take m := by
  induction l with
  | nil => intro d _ _; rfl
  | cons p l ih =>
    intro d hd h
    rw [fileL_cons]
    by_cases hp : p.f = f
    · rw [if_pos hp, ih _ (by rw [pput_length]; omega) (fun q hq => h q (by simp [hq])), pput_take _ _ _ _ hd (h p (by simp))]
    · rw [if_neg hp, ih d hd (fun q hq => h q (by simp [hq]))]

structure ArmUp (n : Nat) (keep : List Int) (c : Nat) (safe rest : ByteArray) (s : Dk) : Prop where
  dn : s.down = false
  cn : c < n
  ca : s.calls = n - c
  kp : s.keep = keep
  lo : s.lost = 0
  d0 : s.d 0 = safe
  by_ : s.bytes 0 = safe ++ rest
  ps : ∀ p ∈ s.pend, p.f = 0 ∧ safe.size ≤ p.a ∧ p.a + p.t.size ≤ safe.size + rest.size
  dl : s.dur.length = 8
structure ArmDn (keep : List Int) (safe rest : ByteArray) (s : Dk) : Prop where
  dn : s.down = true
  ex : ∃ R : ByteArray, s.start.read 0 = (R, 0) ∧ safe.size ≤ R.size ∧ R.size ≤ safe.size + rest.size ∧ R.extract 0 safe.size = safe ∧ (keep = [] → R = safe)
theorem crash_dn {s : Dk} {safe rest : ByteArray} (keep : List Int) (hd : s.down = false) (h0 : s.d 0 = safe) (hp : ∀ p ∈ s.pend, p.f = 0 ∧ safe.size ≤ p.a ∧ p.a + p.t.size ≤ safe.size + rest.size) : ArmDn keep safe rest (s.crash keep) := by
  refine ⟨crash_down s keep, bs (fileL safe.data.toList (kept keep s.pend) 0), ?_, ?_, ?_, ?_, ?_⟩
  · refine (read_of _ 0 (by omega) rfl).trans ?_
    rw [crash_bytes s hd keep 0 (by omega), h0]
  · rw [bs_size]
    have := fileL_mono safe.data.toList (kept keep s.pend) 0
    rw [dl_len] at this; exact this
  · rw [bs_size]
    refine fileL_le _ _ _ _ (by rw [dl_len]; omega) fun p hpk => ?_
    obtain ⟨q, hq, h1, h2, h3, h4⟩ := keptN_mem keep s.pend _ (Nat.le_refl _) p hpk
    have := hp q hq
    omega
  · rw [bs_take]
    have h := fileL_prefix safe.size 0 (kept keep s.pend) safe.data.toList (by rw [dl_len]; exact Nat.le_refl _) (fun p hpk => by
      obtain ⟨q, hq, h1, h2, h3, h4⟩ := keptN_mem keep s.pend _ (Nat.le_refl _) p hpk
      have := hp q hq
      omega)
    rw [h, List.take_of_length_le (by rw [dl_len]; exact Nat.le_refl _), bs_data]
  · rintro rfl
    rw [kept_nil, fileL_nil, bs_data]
theorem arm_start (n : Nat) (keep : List Int) (h : 1 ≤ n) : ArmUp n keep 0 (bs []) (bs []) (dk0.arm n keep) :=
  ⟨rfl, h, by show ((n : Int)).toNat = n - 0; omega, rfl, rfl, dk0_d 0, rfl, (fun p hp => by cases hp), rfl⟩
theorem size_app (a b : ByteArray) : (a ++ b).size = a.size + b.size := ByteArray.size_append
theorem data_app (a b : ByteArray) : (a ++ b).data.toList = a.data.toList ++ b.data.toList := by
  rw [ByteArray.data_append, Array.toList_append]
theorem pput_end (s t : List UInt8) : pput s s.length t = s ++ t := by
  unfold pput
  rw [List.take_length, Nat.sub_self, List.drop_eq_nil_of_le (by omega)]; simp
theorem app_nil (a : ByteArray) : a ++ bs [] = a := by
  conv => lhs; rw [← bs_data a, bs_append, List.append_nil]
  exact bs_data a
/-- The state behind a write that was performed. -/
theorem arm_raw {n c : Nat} {keep : List Int} {safe rest : ByteArray} {s : Dk} (h : ArmUp n keep c safe rest s) (t : ByteArray) (hs : safe.size + rest.size + t.size ≤ 20000) :
    ∃ u, s.tick.raw 0 ((safe.size : Int) + rest.size) t = (0, u) ∧ u.down = false ∧ u.calls = n - c - 1 ∧ u.keep = keep ∧ u.lost = 0 ∧ u.d 0 = safe ∧ u.bytes 0 = safe ++ (rest ++ t) ∧ (∀ p ∈ u.pend, p.f = 0 ∧ safe.size ≤ p.a ∧ p.a + p.t.size ≤ safe.size + (rest ++ t).size) ∧ u.dur.length = 8 := by
  have ht : s.tick = { s with calls := s.calls - 1 } := by unfold Dk.tick; rw [h.dn, if_neg (by simp)]
  refine ⟨{ s with calls := s.calls - 1, pend := s.pend ++ pcs 0 t.size (safe.size + rest.size) t }, ?_, h.dn, by show s.calls - 1 = _; rw [h.ca], h.kp, h.lo, h.d0, ?_, ?_, h.dl⟩
  · rw [ht]
    unfold Dk.raw
    rw [show ({ s with calls := s.calls - 1 } : Dk).down = false from h.dn, if_neg (by simp), if_neg (by simp [isF]), if_neg (by omega), if_neg (by omega)]
    have e1 : ((0 : Int)).toNat = 0 := rfl
    have e2 : ((safe.size : Int) + rest.size).toNat = safe.size + rest.size := by omega
    rw [e1, e2]
  · have hb := h.by_
    unfold Dk.bytes at hb ⊢
    show bs (fileL (s.d 0).data.toList (s.pend ++ pcs 0 t.size (safe.size + rest.size) t) 0) = _
    rw [fileL_append]
    have hb2 : fileL (s.d 0).data.toList s.pend 0 = (safe ++ rest).data.toList := by
      have := congrArg (fun x : ByteArray => x.data.toList) hb
      simpa [bs] using this
    rw [hb2]
    by_cases h0 : t.size = 0
    · rw [pcs_none 0 t h0, fileL_nil, bs_data, ba_nil h0, app_nil]
    · rw [fileL_pcs0 0 _ t _ (by omega)]
      have hl : safe.size + rest.size = ((safe ++ rest).data.toList).length := by rw [dl_len, size_app]
      rw [hl, pput_end, ← data_app, bs_data]
      apply ByteArray.ext
      apply Array.ext'
      rw [data_app, data_app, data_app, data_app, List.append_assoc]
  · intro p hp
    rw [size_app]
    rcases List.mem_append.1 hp with hp | hp
    · have := h.ps p hp; omega
    · have := pcs_ok 0 _ _ _ p hp; omega
theorem arm_write {n c : Nat} {keep : List Int} {safe rest : ByteArray} {s : Dk} (h : ArmUp n keep c safe rest s) (t : ByteArray) (hs : safe.size + rest.size + t.size ≤ 20000) :
    (c + 1 < n ∧ ∃ u, s.write 0 ((safe.size : Int) + rest.size) t = (0, u) ∧ ArmUp n keep (c + 1) safe (rest ++ t) u) ∨ (c + 1 = n ∧ ∃ u, s.write 0 ((safe.size : Int) + rest.size) t = (10, u) ∧ ArmDn keep safe (rest ++ t) u) := by
  obtain ⟨u, h1, h2, h3, h4, h5, h6, h7, h8, h9⟩ := arm_raw h t hs
  have hcn := h.cn
  have hdue : s.due = decide (c + 1 = n) := by
    unfold Dk.due
    rw [h.dn, h.ca, Bool.not_false, Bool.true_and, Bool.eq_iff_iff, decide_eq_true_iff, decide_eq_true_iff]; omega
  unfold Dk.write
  by_cases hc : c + 1 = n
  · right
    rw [hdue, decide_eq_true hc, if_pos rfl, h1, h.kp]
    exact ⟨hc, _, rfl, crash_dn keep h2 h6 h8⟩
  · left
    rw [hdue, decide_eq_false hc, if_neg (by simp)]
    exact ⟨by omega, u, h1, ⟨h2, by omega, by rw [h3]; omega, h4, h5, h6, h7, h8, h9⟩⟩
theorem arm_flush {n c : Nat} {keep : List Int} {safe rest : ByteArray} {s : Dk} (h : ArmUp n keep c safe rest s) :
    (c + 1 < n ∧ ∃ u, s.flush 0 = (0, u) ∧ ArmUp n keep (c + 1) (safe ++ rest) (bs []) u) ∨ (c + 1 = n ∧ ∃ u, s.flush 0 = (10, u) ∧ ArmDn keep safe rest u) := by
  have hcn := h.cn
  have ht : s.tick = { s with calls := s.calls - 1 } := by unfold Dk.tick; rw [h.dn, if_neg (by simp)]
  have hdue : s.due = decide (c + 1 = n) := by
    unfold Dk.due
    rw [h.dn, h.ca, Bool.not_false, Bool.true_and, Bool.eq_iff_iff, decide_eq_true_iff, decide_eq_true_iff]; omega
  by_cases hc : c + 1 = n
  · right
    have he : s.enter = s.tick.crash keep := by unfold Dk.enter; rw [hdue, decide_eq_true hc, if_pos rfl, h.kp]
    refine ⟨hc, s.tick.crash keep, ?_, ?_⟩
    · unfold Dk.flush Dk.flush0 Dk.chk
      rw [he, crash_down, if_pos rfl, if_pos (by simp)]
    · rw [ht]
      exact crash_dn keep h.dn h.d0 h.ps
  · left
    have he : s.enter = s.tick := by unfold Dk.enter; rw [hdue, decide_eq_false hc, if_neg (by simp)]
    have hb : s.tick.bytes 0 = safe ++ rest := by rw [ht]; exact h.by_
    refine ⟨by omega, s.tick.settle 0 (safe ++ rest), ?_, ?_⟩
    · have hd : s.tick.down = false := by rw [ht]; exact h.dn
      have hl : s.tick.lost = 0 := by rw [ht]; exact h.lo
      have hck : s.tick.chk 0 = 0 := by
        unfold Dk.chk
        rw [hd, if_neg (by simp), if_neg (by simp [isF])]
      unfold Dk.flush Dk.flush0
      rw [he, hck, if_neg (by simp), hl, if_neg (by omega)]
      rw [show ((0 : Int)).toNat = 0 from rfl, hb]
    · have hpn : (s.tick.settle 0 (safe ++ rest)).pend = [] := by
        rw [ht]
        show s.pend.filter _ = []
        rw [List.filter_eq_nil_iff]
        intro p hp
        simp [(h.ps p hp).1]
      have hdd : (s.tick.settle 0 (safe ++ rest)).d 0 = safe ++ rest := by
        rw [set_d _ _ _ _ (by rw [ht]; show 0 < s.dur.length; rw [h.dl]; omega), if_pos rfl]
      refine ⟨by rw [ht]; exact h.dn, by omega, by rw [ht]; show s.calls - 1 = _; rw [h.ca]; omega, by rw [ht]; exact h.kp, by rw [ht]; exact h.lo, hdd, ?_, fun p hp => (by rw [hpn] at hp; cases hp), by rw [ht]; show (s.dur.set _ _).length = 8; rw [List.length_set]; exact h.dl⟩
      rw [Dk.bytes_none (by rw [hpn]; intro p hp; cases hp), hdd, app_nil]
theorem arm_read {n c : Nat} {keep : List Int} {safe rest : ByteArray} {s : Dk} (h : ArmUp n keep c safe rest s) : s.read 0 = (safe ++ rest, 0) := by
  refine (read_of s 0 (by omega) h.dn).trans ?_
  rw [h.by_]
end Go.Proofs.Ytlphblnnloigiaa
