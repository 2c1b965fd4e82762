/-
  Layer 6: what a crash leaves (mathematics for DiskLasts).
-/
import Derived.Test.YtlphblnnloigiaaDh
namespace Go.Proofs.Ytlphblnnloigiaa
set_option linter.unusedVariables false
set_option linter.unusedSimpArgs false
open Go.RowKit

/-- The byte at i of a list. -/
def bl (s : List UInt8) (i : Nat) : UInt8 := s.getD i 0
theorem bl_get (s : List UInt8) (i : Nat) (h : i < s.length) : s[i]? = some (bl s i) := by
  unfold bl; rw [List.getD_eq_getElem?_getD, List.getElem?_eq_getElem h]; rfl
theorem bl_of {s : List UInt8} {i : Nat} {b : UInt8} (h : s[i]? = some b) : bl s i = b := by
  unfold bl; rw [List.getD_eq_getElem?_getD, h]; rfl
theorem bt_bs (l : List UInt8) (i : Nat) : bt (bs l) i = bl l i := rfl
theorem bt_bl (s : ByteArray) (i : Nat) : bt s i = bl s.data.toList i := rfl
def Good (d0 : List UInt8) (L : List Pc) (f i : Nat) (b : UInt8) : Prop := (i < d0.length ∧ b = bl d0 i) ∨ (d0.length ≤ i ∧ b = 0) ∨ ∃ p ∈ L, p.f = f ∧ p.a ≤ i ∧ i < p.a + p.t.size ∧ b = bt p.t (i - p.a)
theorem fileL_good (d0 : List UInt8) (L : List Pc) (f : Nat) : ∀ (l : List Pc) (d : List UInt8), (∀ p ∈ l, p ∈ L) → d0.length ≤ d.length → (∀ i, i < d.length → Good d0 L f i (bl d i)) → ∀ i, i < (fileL d l f).length → Good d0 L f i (bl (fileL d l f) i)
  | [], d, _, _, h, i, hi => h i hi
  | p :: l, d, hl, hd, h, i, hi => by
    rw [fileL_cons] at hi ⊢
    by_cases hp : p.f = f
    · rw [if_pos hp] at hi ⊢
      refine fileL_good d0 L f l _ (fun q hq => hl q (by simp [hq])) (by rw [pput_length]; omega) ?_ i hi
      intro k hk
      have hk2 := bl_get _ k hk
      rw [pput_get] at hk2
      rw [pput_length, Pc.l_length] at hk
      rw [Pc.l_length] at hk2
      by_cases h1 : k < p.a
      · rw [if_pos h1] at hk2
        by_cases h2 : k < d.length
        · rw [if_pos h2, bl_get d k h2] at hk2
          injection hk2 with hk2
          rw [← hk2]; exact h k h2
        · rw [if_neg h2] at hk2
          injection hk2 with hk2
          rw [← hk2]; exact .inr (.inl ⟨by omega, rfl⟩)
      · rw [if_neg h1] at hk2
        by_cases h2 : k < p.a + p.t.size
        · rw [if_pos h2, bl_get p.l (k - p.a) (by rw [Pc.l_length]; omega)] at hk2
          injection hk2 with hk2
          rw [← hk2]; exact .inr (.inr ⟨p, hl p (by simp), hp, by omega, h2, rfl⟩)
        · rw [if_neg h2, bl_get d k (by omega)] at hk2
          injection hk2 with hk2
          rw [← hk2]; exact h k (by omega)
    · rw [if_neg hp] at hi ⊢
      exact fileL_good d0 L f l d (fun q hq => hl q (by simp [hq])) hd h i hi

/-- The piece p is part of what x wrote. -/
def Cov (p : Pc) (x : Ae) : Prop := x.a.f = p.f ∧ 0 ≤ x.a.n ∧ x.a.n ≤ p.a ∧ (p.a : Int) + p.t.size ≤ x.a.n + x.a.s.size ∧ ∀ j, j < p.t.size → bt p.t j = bt x.a.s (p.a - x.a.n.toNat + j)
structure Inv (s : Dk) (since : List Ae) : Prop where
  cov : ∀ p ∈ s.pend, ∃ x ∈ since, Cov p x
  rng : ∀ x ∈ since, 0 ≤ x.a.n ∧ x.a.n ≤ 4000
  dl : s.dur.length = 8
theorem bt_ext (t : ByteArray) (n j : Nat) (h : j < (t.extract 0 n).size) : bt (t.extract 0 n) j = bt t j := by
  have hs : (t.extract 0 n).size ≤ t.size := by simp; omega
  have h2 : (t.extract 0 n).data.toList[j]? = t.data.toList[j]? := by
    simp only [ByteArray.data_extract, Array.toList_extract, List.extract_eq_take_drop, List.drop_zero, Nat.sub_zero]
    rw [List.getElem?_take, if_pos (by simp at h; omega)]
  rw [bt_bl, bt_bl]
  unfold bl
  rw [List.getD_eq_getElem?_getD, List.getD_eq_getElem?_getD, h2]
theorem bt_ext2 (t : ByteArray) (n j : Nat) (h : j < t.size - n) : bt (t.extract n t.size) j = bt t (n + j) := by
  have h2 : (t.extract n t.size).data.toList[j]? = t.data.toList[n + j]? := by
    simp only [ByteArray.data_extract, Array.toList_extract, List.extract_eq_take_drop]
    rw [List.getElem?_take, if_pos h, List.getElem?_drop]
  rw [bt_bl, bt_bl]
  unfold bl
  rw [List.getD_eq_getElem?_getD, List.getD_eq_getElem?_getD, h2]
theorem kept_cov {keep : List Int} {l : List Pc} {since : List Ae} (h : ∀ p ∈ l, ∃ x ∈ since, Cov p x) : ∀ k, k ≤ l.length → ∀ p ∈ keptN keep l k, ∃ x ∈ since, Cov p x
  | 0, _, p, hp => by cases hp
  | k + 1, hk, p, hp => by
    rw [keptN] at hp
    rcases List.mem_append.1 hp with hp | hp
    · exact kept_cov h k (by omega) p hp
    · split at hp
      · cases hp
      · rw [List.mem_singleton] at hp
        subst hp
        obtain ⟨x, hx, c1, c2, c3, c4, c5⟩ := h (gp l k) (by rw [gp_get l k (by omega)]; exact List.getElem_mem _)
        have hs := cutP_size (gp l k) _ (surv_le (gp l k) k keep)
        have hsl := surv_le (gp l k) k keep
        refine ⟨x, hx, c1, c2, c3, ?_, fun j hj => ?_⟩
        · rw [hs]; show ((gp l k).a : Int) + _ ≤ _; omega
        · have h1 := bt_ext (gp l k).t (surv (gp l k) k keep) j hj
          rw [hs] at hj
          exact h1.trans (c5 j (by omega))
/-- What a crash leaves is as the law asks. -/
theorem crash_here {s : Dk} {since : List Ae} (h : Inv s since) (keep : List Int) (f : Nat) : HereOk (bs (fileL (s.d f).data.toList (kept keep s.pend) f)) (s.d f) since f := by
  have hm := fileL_mono (s.d f).data.toList (kept keep s.pend) f
  refine ⟨by rw [bs_size, ← dl_len]; exact hm, fun i hi => ?_⟩
  rw [bs_size] at hi
  have hg := fileL_good (s.d f).data.toList (kept keep s.pend) f (kept keep s.pend) (s.d f).data.toList (fun p hp => hp) (Nat.le_refl _) (fun i hi => .inl ⟨hi, rfl⟩) i hi
  rw [bt_bs]
  rcases hg with ⟨h1, h2⟩ | ⟨h1, h2⟩ | ⟨p, hp, h1, h2, h3, h4⟩
  · exact .inl ⟨by rw [dl_len] at h1; exact h1, h2⟩
  · exact .inr (.inl ⟨by rw [dl_len] at h1; exact h1, h2⟩)
  · obtain ⟨x, hx, c1, c2, c3, c4, c5⟩ := kept_cov h.cov _ (Nat.le_refl _) p hp
    obtain ⟨k, hk, rfl⟩ := List.mem_iff_getElem.1 hx
    refine .inr (.inr ⟨k, hk, ?_⟩)
    rw [ge_get since k hk]
    unfold mt
    rw [decide_eq_true_iff]
    refine ⟨by rw [c1, h1], by omega, by omega, ?_⟩
    rw [h4, c5 (i - p.a) (by omega)]
    congr 1; omega
theorem pcs_cov (f : Nat) (x : Ae) (hf : x.a.f = f) (hn : 0 ≤ x.a.n) : ∀ (m a : Nat) (t : ByteArray), x.a.n ≤ a → (a : Int) + t.size = x.a.n + x.a.s.size → (∀ j, j < t.size → bt t j = bt x.a.s (a - x.a.n.toNat + j)) → ∀ p ∈ pcs f m a t, Cov p x
  | 0, a, t, _, _, _, p, hp => by cases hp
  | m + 1, a, t, ha, hs, hb, p, hp => by
    rw [pcs] at hp
    split at hp
    · cases hp
    · rename_i h0
      obtain ⟨n, hn2⟩ : ∃ n, n = min t.size (32 - a % 32) := ⟨_, rfl⟩
      rw [← hn2] at hp
      have hnl : n ≤ t.size := by omega
      have hes : (t.extract 0 n).size = n := by simp; omega
      rcases List.mem_cons.1 hp with rfl | hp
      · refine ⟨hf, hn, ha, ?_, fun j hj => ?_⟩
        · show (a : Int) + (t.extract 0 n).size ≤ _; rw [hes]; omega
        · exact (bt_ext t n j hj).trans (hb j (by rw [hes] at hj; omega))
      · refine pcs_cov f x hf hn m (a + n) (t.extract n t.size) (by omega) (by simp; omega) (fun j hj => ?_) p hp
        have hj2 : j < t.size - n := by simpa using hj
        rw [bt_ext2 t n j hj2, hb (n + j) (by omega)]
        congr 1; omega
theorem Inv.wo {s : Dk} {since : List Ae} (h : Inv s since) (f : Nat) (b : ByteArray) : Inv (s.settle f b) (wo since f) := by
  refine ⟨fun p hp => ?_, fun x hx => h.rng x (List.mem_filter.1 hx).1, by show (s.dur.set f b).length = 8; rw [List.length_set]; exact h.dl⟩
  obtain ⟨hp1, hp2⟩ := List.mem_filter.1 hp
  obtain ⟨x, hx, c⟩ := h.cov p hp1
  refine ⟨x, List.mem_filter.2 ⟨hx, ?_⟩, c⟩
  have h1 := c.1
  simp at hp2 ⊢
  omega
theorem Inv.same {s t : Dk} {since : List Ae} (h : Inv s since) (hp : t.pend = s.pend) (hd : t.dur = s.dur) : Inv t since := ⟨by rw [hp]; exact h.cov, h.rng, by rw [hd]; exact h.dl⟩
theorem Inv.more {s : Dk} {since : List Ae} (h : Inv s since) (x : Ae) (hx : 0 ≤ x.a.n ∧ x.a.n ≤ 4000) : Inv s (since ++ [x]) :=
  ⟨fun p hp => by obtain ⟨y, hy, c⟩ := h.cov p hp; exact ⟨y, by simp [hy], c⟩, fun y hy => by
    rcases List.mem_append.1 hy with hy | hy
    · exact h.rng y hy
    · rw [List.mem_singleton] at hy; rw [hy]; exact hx, h.dl⟩
theorem Inv.raw {s : Dk} {since : List Ae} (h : Inv s since) (x : Ae) (hx : 0 ≤ x.a.n ∧ x.a.n ≤ 4000) : Inv (s.raw x.a.f x.a.n x.a.s).2 (since ++ [x]) := by
  have h1 := h.more x hx
  unfold Dk.raw
  split
  · exact h1
  split
  · exact h1
  split
  · exact h1
  split
  · exact h1
  · rename_i g1 g2 g3 g4
    have hf : 0 ≤ x.a.f ∧ x.a.f < 8 := by simpa [isF] using g2
    refine ⟨fun p hp => ?_, h1.rng, h1.dl⟩
    rcases List.mem_append.1 hp with hp | hp
    · exact h1.cov p hp
    · refine ⟨x, by simp, pcs_cov x.a.f.toNat x (by omega) hx.1 _ x.a.n.toNat x.a.s (by omega) (by omega) (fun j hj => ?_) p hp⟩
      rw [Nat.sub_self, Nat.zero_add]
theorem raw_none (s : Dk) (f n : Int) (t : ByteArray) (h : n < 0 ∨ 16777216 < n) : (s.raw f n t).2 = s ∧ (s.raw f n t).2 = s := by
  have : (s.raw f n t).2 = s := by
    unfold Dk.raw
    split
    · rfl
    split
    · rfl
    split
    · rfl
    split
    · rfl
    · omega
  exact ⟨this, this⟩
theorem raw_dur (s : Dk) (f n : Int) (t : ByteArray) : (s.raw f n t).2.dur = s.dur ∧ (s.raw f n t).2.down = s.down := by
  unfold Dk.raw
  split
  · exact ⟨rfl, rfl⟩
  split
  · exact ⟨rfl, rfl⟩
  split
  · exact ⟨rfl, rfl⟩
  split <;> exact ⟨rfl, rfl⟩
theorem d_of_dur {s t : Dk} (h : t.dur = s.dur) (f : Nat) : t.d f = s.d f := by unfold Dk.d; rw [h]
end Go.Proofs.Ytlphblnnloigiaa
