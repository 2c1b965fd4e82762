/-
  Layer 7: bounds of a log and its disk behind k deeds.
  Layer 7: what a crash leaves of a log's file, on plain lists.
  Layer 7: what the disk's calls make of a log's file.
  Layer 7: what a deed leaves.
-/
import Derived.Test.YtognomkhkoiabaaJ28
namespace Go.Proofs.Ytognomkhkoiabaa
set_option linter.unusedVariables false
set_option linter.unusedSimpArgs false
open Go.RowKit

def All2 {α β : Type} (R : α → β → Prop) : List α → List β → Prop
  | [], [] => True
  | a :: l, b :: m => R a b ∧ All2 R l m
  | _, _ => False
def StepP (t : Dk → Int × Dk) (n : Nat) : Prop := ∀ s : Dk, (t s).2.pend.length ≤ s.pend.length + n
theorem runT_pend : ∀ (T : List (Dk → Int × Dk)) (ns : List Nat), All2 StepP T ns → StepP (runT T) ns.sum
  | [], [], _ => fun s => Nat.le_refl _
  | [], _ :: _, h => h.elim
  | _ :: _, [], h => h.elim
  | t :: T, n :: ns, ⟨h1, h2⟩ => fun s => by
    have a := h1 s
    obtain ⟨⟨E, S⟩, hE⟩ : ∃ q, t s = q := ⟨_, rfl⟩
    rw [hE] at a
    by_cases h0 : E = 0
    · rw [runT_ok (t := t) hE h0]
      have := runT_pend T ns h2 S
      simp only [List.sum_cons]
      simp only at a
      omega
    · rw [runT_no (t := t) hE h0]
      simp only [List.sum_cons]
      simp only at a ⊢
      omega
/-- What is known of a log and its disk behind k deeds. -/
structure GI (f : Int) (k : Nat) (g : Lg) (s : Dk) : Prop where
  fi : g.file = f
  ex : ext g.rows ≤ 16777300 + 208 * k
  su : g.sure ≤ 1000000000
  pe : s.pend.length ≤ 2000 * k
theorem GI.append {f : Int} {k : Nat} {g : Lg} {s : Dk} (h : GI f k g s) {row : ByteArray} (hr : row.size ≤ 200) : GI f (k + 1) (g.append s row).2.1 (g.append s row).2.2 := by
  have hp := Dk.write_pend s g.file (ext g.rows) (frm row)
  rw [frm_size] at hp
  have he := ext_app g.rows row
  have := h.ex
  have := h.pe
  unfold Lg.append
  simp only
  split
  · exact ⟨h.fi, by simp only; omega, h.su, by simp only; omega⟩
  · exact ⟨h.fi, by simp only; omega, h.su, by simp only; omega⟩
theorem GI.flush {f : Int} {k : Nat} {g : Lg} {s : Dk} (h : GI f k g s) (hk : k ≤ 100) : GI f (k + 1) (g.flush s).2.1 (g.flush s).2.2 := by
  have h1 := h.ex
  have h2 := h.pe
  have h3 := ext_len g.rows
  have hp := runT_pend [fun s => s.flush g.file, fun s => s.write g.file 0 (hdr (ext g.rows) g.rows.length), fun s => s.flush g.file] [0, 16, 0] ⟨fun s => Dk.flush_pend s _, fun s => by have := Dk.write_pend s g.file 0 (hdr (ext g.rows) g.rows.length); rw [hdr_size] at this; exact this, fun s => Dk.flush_pend s _, trivial⟩ s
  simp only [List.sum_cons, List.sum_nil] at hp
  unfold Lg.flush
  split
  · exact ⟨h.fi, by simp only; omega, h.su, by simp only; omega⟩
  · simp only
    split
    · exact ⟨h.fi, by simp only; omega, by simp only; omega, by simp only; omega⟩
    · exact ⟨h.fi, by simp only; omega, h.su, by simp only; omega⟩
theorem GI.rewrite {f : Int} {k : Nat} {g : Lg} {s : Dk} (h : GI f k g s) {l : List ByteArray} (hx : ext l ≤ 1264) : GI f (k + 1) (g.rewrite s l).2.1 (g.rewrite s l).2.2 := by
  have h1 := h.ex
  have h2 := h.pe
  have h3 := ext_len l
  have hp := runT_pend [fun s => s.cut (g.file + 1) 0, fun s => s.write (g.file + 1) 0 (whl l), fun s => s.flush (g.file + 1), fun s => s.turn g.file (g.file + 1)] [0, ext l, 0, 0] ⟨fun s => Dk.cut_pend s _ _, fun s => by have := Dk.write_pend s (g.file + 1) 0 (whl l); rw [whl_size] at this; exact this, fun s => Dk.flush_pend s _, fun s => Dk.turn_pend s _ _, trivial⟩ s
  simp only [List.sum_cons, List.sum_nil] at hp
  unfold Lg.rewrite
  simp only
  split
  · exact ⟨h.fi, by simp only; omega, by simp only; omega, by simp only; omega⟩
  · exact ⟨h.fi, by simp only; omega, h.su, by simp only; omega⟩
end Go.Proofs.Ytognomkhkoiabaa

namespace Go.Proofs.Ytognomkhkoiabaa
set_option linter.unusedVariables false
set_option linter.unusedSimpArgs false
open Go.RowKit

/-- From a to n, x is d, or nothing or 0 behind d. -/
def Lk (d x : List UInt8) (a n : Nat) : Prop := ∀ k, a ≤ k → k < n → x[k]? = d[k]? ∨ (d.length ≤ k ∧ (x[k]? = none ∨ x[k]? = some 0))
theorem Lk.refl (d : List UInt8) (a n : Nat) : Lk d d a n := fun k _ _ => .inl rfl
theorem Lk.put {d x : List UInt8} {a n : Nat} (h : Lk d x a n) (p : Nat) (t : List UInt8) (hp : n ≤ p) : Lk d (pput x p t) a n := by
  intro k h1 h2
  rw [pput_get, if_pos (by omega)]
  by_cases hk : k < x.length
  · rw [if_pos hk]; exact h k h1 h2
  · rw [if_neg hk]
    have hx : x[k]? = none := List.getElem?_eq_none (by omega)
    rcases h k h1 h2 with h | ⟨h, _⟩
    · rw [hx] at h
      exact .inr ⟨List.getElem?_eq_none_iff.1 h.symm, .inr rfl⟩
    · exact .inr ⟨h, .inr rfl⟩
/-- The header H, and behind it d. -/
def Hk (d x H : List UInt8) (n : Nat) : Prop := (∀ k, k < 16 → x[k]? = H[k]?) ∧ Lk d x 16 n
theorem some_lt {x : List UInt8} {k : Nat} {y : UInt8} (h : x[k]? = some y) : k < x.length := (List.getElem?_eq_some_iff.1 h).1
theorem file_two (d : List UInt8) (f n : Nat) (H : ByteArray) (hH : H.size = 16) (hn : 16 ≤ n) : ∀ (L : List Pc) (x : List UInt8), (∀ p ∈ L, p.f = f → n ≤ p.a ∨ p = ⟨f, 0, H⟩) → (Lk d x 0 n ∨ Hk d x H.data.toList n) → (Lk d (fileL x L f) 0 n ∨ Hk d (fileL x L f) H.data.toList n)
  | [], x, _, h => h
  | p :: L, x, hp, h => by
    rw [fileL_cons]
    refine file_two d f n H hH hn L _ (fun q hq => hp q (by simp [hq])) ?_
    have hl : H.data.toList.length = 16 := by rw [dl_len']; exact hH
    by_cases hf : p.f = f
    · rw [if_pos hf]
      rcases hp p (by simp) hf with h1 | h1
      · rcases h with h | ⟨h, h2⟩
        · exact .inl (h.put _ _ h1)
        · refine .inr ⟨fun k hk => ?_, h2.put _ _ h1⟩
          have e := h k hk
          have e2 : H.data.toList[k]? = some (H.data.toList[k]'(by omega)) := List.getElem?_eq_getElem (by omega)
          rw [pput_get, if_pos (by omega), if_pos (some_lt (e.trans e2))]
          exact e
      · subst h1
        have lk : Lk d x 16 n := by
          rcases h with h | ⟨_, h⟩
          · exact fun k h1 h2 => h k (Nat.zero_le _) h2
          · exact h
        refine .inr ⟨fun k hk => ?_, fun k h1 h2 => ?_⟩
        · rw [pput_get, if_neg (Nat.not_lt_zero k), if_pos (by show k < 0 + H.data.toList.length; omega)]
          show H.data.toList[k - 0]? = _
          rw [Nat.sub_zero]
        · rw [pput_get, if_neg (Nat.not_lt_zero k), if_neg (by show ¬ k < 0 + H.data.toList.length; omega)]
          exact lk k h1 h2
    · rw [if_neg hf]; exact h

/-- The file d has the rows R (or nothing has been flushed yet). -/
def Snd (d : List UInt8) (R : List ByteArray) : Prop := (∀ k, k < ext R → d[k]? = (whl R).data.toList[k]?) ∨ (R = [] ∧ ∀ k, k < 8 → d[k]? = none ∨ d[k]? = some 0)
/-- The forms of R stand in d. -/
def Frm (d : List UInt8) (R : List ByteArray) : Prop := ∀ k, 16 ≤ k → k < ext R → d[k]? = (whl R).data.toList[k]?
theorem ext16 (R : List ByteArray) : 16 ≤ ext R := by unfold ext; omega
theorem whl_len (R : List ByteArray) : (whl R).data.toList.length = ext R := by rw [dl_len', whl_size]
theorem whl_some (R : List ByteArray) (k : Nat) (h : k < ext R) : ∃ y, (whl R).data.toList[k]? = some y := ⟨_, List.getElem?_eq_getElem (by rw [whl_len]; exact h)⟩
theorem whl_split (R : List ByteArray) : (whl R).data.toList = (hdr (ext R) R.length).data.toList ++ flat R := by unfold whl; rw [bs_list]
theorem hdr_len (e c : Int) : (hdr e c).data.toList.length = 16 := by rw [dl_len', hdr_size]
theorem whl_hdr (R : List ByteArray) (k : Nat) (h : k < 16) : (whl R).data.toList[k]? = (hdr (ext R) R.length).data.toList[k]? := by
  rw [whl_split, List.getElem?_append_left (by rw [hdr_len]; exact h)]
theorem whl_flat (R : List ByteArray) (k : Nat) (h : 16 ≤ k) : (whl R).data.toList[k]? = (flat R)[k - 16]? := by
  rw [whl_split, List.getElem?_append_right (by rw [hdr_len]; exact h), hdr_len]
theorem flat_append (a b : List ByteArray) : flat (a ++ b) = flat a ++ flat b := by unfold flat; rw [List.flatMap_append]
theorem ext_append (a b : List ByteArray) : ext (a ++ b) = ext a + (flat b).length := by
  rw [← flat_length, ← flat_length, flat_append, List.length_append]; omega
theorem ext_pre {a b : List ByteArray} (h : a <+: b) : ext a ≤ ext b := by
  obtain ⟨t, rfl⟩ := h
  rw [ext_append]; omega
theorem whl_pre {a b : List ByteArray} (h : a <+: b) (k : Nat) (h1 : 16 ≤ k) (h2 : k < ext a) : (whl a).data.toList[k]? = (whl b).data.toList[k]? := by
  obtain ⟨t, rfl⟩ := h
  have hl := flat_length a
  rw [whl_flat _ _ h1, whl_flat _ _ h1, flat_append, List.getElem?_append_left (by omega)]
theorem Frm.pre {d : List UInt8} {a b : List ByteArray} (h : Frm d b) (hp : a <+: b) : Frm d a := fun k h1 h2 => by
  rw [h k h1 (Nat.lt_of_lt_of_le h2 (ext_pre hp)), whl_pre hp k h1 h2]
theorem Snd.frm {d : List UInt8} {R : List ByteArray} (h : Snd d R) : Frm d R := fun k h1 h2 => by
  rcases h with h | ⟨rfl, _⟩
  · exact h k h2
  · exact absurd h2 (by show ¬ k < 16; omega)
theorem Snd.nil : Snd [] [] := .inr ⟨rfl, fun k _ => .inl rfl⟩
theorem val0 : W1.valOf 8 true (List.replicate 8 0) = 0 := by decide +kernel
theorem Snd.parse {s : ByteArray} {R : List ByteArray} (h : Snd s.data.toList R) (hx : ext R ≤ 1000000000000) : parseS s = some R := by
  have hl := dl_len' s
  rcases h with h | ⟨rfl, h⟩
  · have hsz : ext R ≤ s.size := by
      rcases Nat.lt_or_ge s.size (ext R) with hlt | hge
      · obtain ⟨y, hy⟩ := whl_some R s.size hlt
        have := some_lt ((h _ hlt).trans hy)
        omega
      · exact hge
    have e : s = whl R ++ bs (s.data.toList.drop (ext R)) := by
      apply W1.ba_ext
      rw [ByteArray.data_append, Array.toList_append, bs_list]
      have : (whl R).data.toList = s.data.toList.take (ext R) := by
        apply List.ext_getElem?
        intro k
        rw [List.getElem?_take]
        by_cases hk : k < ext R
        · rw [if_pos hk, h k hk]
        · rw [if_neg hk, List.getElem?_eq_none (by rw [whl_len]; omega)]
      rw [this, List.take_append_drop]
    rw [e]
    exact parse_whole R _ hx
  · unfold parseS
    by_cases h16 : s.size < 16
    · rw [if_pos h16]
    · rw [if_neg h16, if_pos]
      have : W1.bytesAt s 0 8 = List.replicate 8 0 := by
        unfold W1.bytesAt
        apply List.ext_getElem?
        intro k
        show ((s.data.toList.drop 0).take 8)[k]? = _
        rw [List.drop_zero, List.getElem?_take, List.getElem?_replicate]
        by_cases hk : k < 8
        · rw [if_pos hk, if_pos hk]
          rcases h k hk with h | h
          · have := List.getElem?_eq_none_iff.1 h; omega
          · exact h
        · rw [if_neg hk, if_neg hk]
      show W1.valOf 8 true (W1.bytesAt s 0 8) = 0
      rw [this, val0]

/-- What of a kept list is known. -/
theorem keptN_cut (keep : List Int) (l : List Pc) (k : Nat) (hk : k ≤ l.length) (p : Pc) (hp : p ∈ keptN keep l k) : ∃ q ∈ l, ∃ i, p = cutP q (surv q i keep) ∧ surv q i keep ≠ 0 := by
  induction k with
  | zero => cases hp
  | succ k ih =>
    rw [keptN] at hp
    rcases List.mem_append.1 hp with hp | hp
    · exact ih (by omega) hp
    · split at hp
      · cases hp
      · rename_i h0
        rw [List.mem_singleton] at hp
        refine ⟨gp l k, ?_, k, hp, h0⟩
        rw [gp_get l k (by omega)]; exact List.getElem_mem _
def hpc (R : List ByteArray) : Pc := ⟨3, 0, hdr (ext R) R.length⟩
def Pok (P : List Pc) (R1 : List ByteArray) : Prop := ∀ p ∈ P, p.f = 3 → ext R1 ≤ p.a ∨ p = hpc R1
theorem cut_hdr (R : List ByteArray) (keep : List Int) (i : Nat) (h : surv (hpc R) i keep ≠ 0) : cutP (hpc R) (surv (hpc R) i keep) = hpc R := by
  have hs : (hpc R).t.size = 16 := hdr_size _ _
  have e : surv (hpc R) i keep = 16 := by
    unfold surv at h ⊢
    rw [hs] at h ⊢
    split at h
    · rename_i h1; rw [if_pos h1]
    · rename_i h1
      rw [if_neg h1]
      split at h
      · rename_i h2; rw [if_pos h2]; rfl
      · exact absurd rfl h
  rw [e]
  unfold cutP
  have : (hpc R).t.extract 0 16 = (hpc R).t := by
    apply W1.ba_ext
    rw [W1.extract_list, List.drop_zero, List.take_of_length_le (by rw [dl_len']; omega)]
  rw [this]
theorem Pok.kept {P : List Pc} {R1 : List ByteArray} (h : Pok P R1) (keep : List Int) : Pok (kept keep P) R1 := by
  intro p hp hf
  obtain ⟨q, hq, i, e, h0⟩ := keptN_cut keep P P.length (Nat.le_refl _) p hp
  subst e
  rcases h q hq hf with h | h
  · exact .inl h
  · subst h
    exact .inr (cut_hdr R1 keep i h0)
/-- The durable bytes d, the pending writes P, the log's rows: R0 is found if no header survives, R1 else. -/
structure Cr (d : List UInt8) (P : List Pc) (rows R0 R1 : List ByteArray) : Prop where
  s0 : Snd d R0
  f1 : Frm d R1
  pe : Pok P R1
  p0 : R0 <+: R1
  p1 : R1 <+: rows
  lv : Frm (fileL d P 3) rows
theorem Cr.any {d : List UInt8} {P : List Pc} {rows R0 R1 : List ByteArray} (h : Cr d P rows R0 R1) (K : List Pc) (hK : Pok K R1) : Snd (fileL d K 3) R0 ∨ Snd (fileL d K 3) R1 := by
  have hn := ext16 R1
  have h01 := ext_pre h.p0
  rcases file_two d 3 (ext R1) (hdr (ext R1) R1.length) (hdr_size _ _) hn K d hK (.inl (Lk.refl _ _ _)) with g | ⟨g1, g2⟩
  · left
    rcases h.s0 with s | ⟨rfl, s⟩
    · left
      intro k hk
      rcases g k (Nat.zero_le _) (by omega) with g | ⟨g, _⟩
      · rw [g]; exact s k hk
      · obtain ⟨y, hy⟩ := whl_some R0 k hk
        have := some_lt ((s k hk).trans hy)
        omega
    · right
      refine ⟨rfl, fun k hk => ?_⟩
      rcases g k (Nat.zero_le _) (by omega) with g | ⟨_, g⟩
      · rw [g]; exact s k hk
      · exact g
  · right; left
    intro k hk
    by_cases h16 : k < 16
    · rw [g1 k h16, whl_hdr R1 k h16]
    · have e := h.f1 k (by omega) hk
      rcases g2 k (by omega) hk with g | ⟨g, _⟩
      · rw [g]; exact e
      · obtain ⟨y, hy⟩ := whl_some R1 k hk
        have := some_lt (e.trans hy)
        omega
theorem Cr.crash {d : List UInt8} {P : List Pc} {rows R0 R1 : List ByteArray} (h : Cr d P rows R0 R1) (keep : List Int) : Snd (fileL d (kept keep P) 3) R0 ∨ Snd (fileL d (kept keep P) 3) R1 := h.any _ (h.pe.kept keep)
theorem Cr.all {d : List UInt8} {P : List Pc} {rows R0 R1 : List ByteArray} (h : Cr d P rows R0 R1) : Snd (fileL d P 3) R0 ∨ Snd (fileL d P 3) R1 := h.any _ h.pe
end Go.Proofs.Ytognomkhkoiabaa

namespace Go.Proofs.Ytognomkhkoiabaa
set_option linter.unusedVariables false
set_option linter.unusedSimpArgs false
open Go.RowKit

/-- The disk is down, and its file 3 has the rows R. -/
structure Dd (s : Dk) (R : List ByteArray) : Prop where
  dn : s.down = true
  dl : s.dur.length = 8
  pe : s.pend = []
  sd : Snd (s.d 3).data.toList R
/-- The disk is up, and its file 3 is that of a log with these rows. -/
structure CS (s : Dk) (rows R0 R1 : List ByteArray) : Prop where
  dn : s.down = false
  dl : s.dur.length = 8
  cr : Cr (s.d 3).data.toList s.pend rows R0 R1
def In2 (R R0 R1 : List ByteArray) : Prop := R = R0 ∨ R = R1
def Ded (S : Dk) (R0 R1 : List ByteArray) : Prop := ∃ R, In2 R R0 R1 ∧ Dd S R
theorem CS.crash {s : Dk} {rows R0 R1 : List ByteArray} (h : CS s rows R0 R1) (keep : List Int) : Ded (s.crash keep) R0 R1 := by
  have e := crash_d s h.dn keep 3 (by decide)
  have hl : (s.crash keep).dur.length = 8 := by rw [Calm.crash h.dn]; simp
  have mk : ∀ R, Snd (fileL (s.d 3).data.toList (kept keep s.pend) 3) R → Dd (s.crash keep) R := fun R hR => ⟨crash_down s keep, hl, crash_pendN s h.dn keep, by rw [e, bs_list]; exact hR⟩
  rcases h.cr.crash keep with h | h
  · exact ⟨R0, .inl rfl, mk _ h⟩
  · exact ⟨R1, .inr rfl, mk _ h⟩
theorem d_dur {s t : Dk} (h : t.dur = s.dur) (f : Nat) : t.d f = s.d f := by unfold Dk.d; rw [h]
theorem CS.same {s t : Dk} {rows R0 R1 : List ByteArray} (h : CS s rows R0 R1) (h1 : t.down = s.down) (h2 : t.dur = s.dur) (h3 : t.pend = s.pend) : CS t rows R0 R1 :=
  ⟨h1.trans h.dn, by rw [h2]; exact h.dl, by rw [d_dur h2, h3]; exact h.cr⟩
theorem tick_eq {s : Dk} (h : s.down = false) : s.tick = { s with calls := s.calls - 1 } := by unfold Dk.tick; rw [h, if_neg (by simp)]
theorem CS.tick {s : Dk} {rows R0 R1 : List ByteArray} (h : CS s rows R0 R1) : CS s.tick rows R0 R1 := by rw [tick_eq h.dn]; exact h.same rfl rfl rfl
theorem CS.enter {s : Dk} {rows R0 R1 : List ByteArray} (h : CS s rows R0 R1) : Ded s.enter R0 R1 ∨ (CS s.enter rows R0 R1 ∧ s.enter.pend = s.pend ∧ s.enter.dur = s.dur) := by
  unfold Dk.enter
  split
  · exact .inl (h.tick.crash _)
  · refine .inr ⟨h.tick, ?_, ?_⟩
    · rw [tick_eq h.dn]
    · rw [tick_eq h.dn]
theorem CS.chk {s : Dk} {rows R0 R1 : List ByteArray} (h : CS s rows R0 R1) (f : Int) (hf : 0 ≤ f ∧ f < 8) : s.chk f = 0 := by
  unfold Dk.chk; rw [h.dn, if_neg (by simp), if_neg]
  unfold isF; rw [decide_eq_true hf]; simp
theorem Ded.chk {s : Dk} {R0 R1 : List ByteArray} (h : Ded s R0 R1) (f : Int) : s.chk f = 10 := by
  obtain ⟨R, _, h⟩ := h
  unfold Dk.chk; rw [if_pos h.dn]
theorem Ded.down {s : Dk} {R0 R1 : List ByteArray} (h : Ded s R0 R1) : s.down = true := by
  obtain ⟨R, _, h⟩ := h
  exact h.dn
theorem cs_clean {S : Dk} {rows R : List ByteArray} (dn : S.down = false) (dl : S.dur.length = 8) (hp : ∀ p ∈ S.pend, p.f ≠ 3) (hs : Snd (S.d 3).data.toList R) (hpre : R <+: rows) (hf : Frm (S.d 3).data.toList rows) : CS S rows R R :=
  ⟨dn, dl, ⟨hs, hf.pre hpre, fun p hp' h => absurd h (hp p hp'), List.prefix_refl _, hpre, by rw [fileL_none _ _ _ hp]; exact hf⟩⟩
theorem set_len (s : Dk) (f : Nat) (b : ByteArray) (h : s.dur.length = 8) : (s.settle f b).dur.length = 8 := by show (s.dur.set f b).length = 8; rw [List.length_set, h]
theorem set_pend (s : Dk) (f : Nat) (b : ByteArray) : ∀ p ∈ (s.settle f b).pend, p.f ≠ f := fun p hp => by
  have := (List.mem_filter.1 hp).2
  simpa using this
theorem CS.flush3 {s : Dk} {rows R0 R1 : List ByteArray} (h : CS s rows R0 R1) :
    (∃ S, s.flush 3 = (10, S) ∧ Ded S R0 R1) ∨ (∃ S, s.flush 3 = (12, S) ∧ CS S rows R0 R1) ∨ (∃ S, s.flush 3 = (0, S) ∧ (∀ p ∈ S.pend, p.f ≠ 3) ∧ ∀ R, R <+: rows → Snd (fileL (s.d 3).data.toList s.pend 3) R → CS S rows R R) := by
  rcases h.enter with hd | ⟨hu, hp, hdur⟩
  · left
    refine ⟨s.enter, ?_, hd⟩
    unfold Dk.flush Dk.flush0
    rw [hd.chk, if_pos (by decide)]
  · by_cases hl : 0 < s.enter.lost
    · right; left
      refine ⟨{ s.enter with lost := s.enter.lost - 1 }, ?_, hu.same rfl rfl rfl⟩
      unfold Dk.flush Dk.flush0
      rw [hu.chk 3 (by decide), if_neg (by decide), if_pos hl]
    · right; right
      have e : ((s.enter.settle 3 (s.enter.bytes 3)).d 3).data.toList = fileL (s.d 3).data.toList s.pend 3 := by
        rw [settleJ_d (by rw [hu.dl]; decide), if_pos rfl]
        unfold Dk.bytes
        rw [bs_list, hp, d_dur hdur]
      refine ⟨s.enter.settle 3 (s.enter.bytes 3), ?_, set_pend _ _ _, fun R hR hs => cs_clean hu.dn (set_len _ _ _ hu.dl) (set_pend _ _ _) (by rw [e]; exact hs) hR (by rw [e]; exact h.cr.lv)⟩
      unfold Dk.flush Dk.flush0
      rw [hu.chk 3 (by decide), if_neg (by decide), if_neg hl]
      rfl
/-- A write that is not refused. -/
theorem raw_ok {s : Dk} {f : Nat} {a : Nat} {t : ByteArray} (hd : s.down = false) (hf : f < 8) (ha : a + t.size ≤ 16777216) : s.raw (f : Int) (a : Int) t = (0, { s with pend := s.pend ++ pcs f t.size a t }) := by
  unfold Dk.raw
  have hF : isF (f : Int) = true := by unfold isF; exact decide_eq_true (by omega)
  rw [if_neg (by rw [hd]; simp), hF, if_neg (by simp), if_neg (by omega), if_neg (by omega)]
  rfl
theorem raw_full {s : Dk} {f : Nat} {a : Nat} {t : ByteArray} (hd : s.down = false) (hf : f < 8) (ha : ¬ a + t.size ≤ 16777216) : s.raw (f : Int) (a : Int) t = (7, s) := by
  unfold Dk.raw
  have hF : isF (f : Int) = true := by unfold isF; exact decide_eq_true (by omega)
  rw [if_neg (by rw [hd]; simp), hF, if_neg (by simp), if_neg (by omega), if_pos (by omega)]
theorem pcs_hdr (R : List ByteArray) : pcs 3 (hdr (ext R) R.length).size 0 (hdr (ext R) R.length) = [hpc R] := by
  have hs := hdr_size (ext R) R.length
  rw [pcs_step 3 0 _ (by omega)]
  have hm : min (hdr (ext R) R.length).size (32 - 0 % 32) = 16 := by omega
  rw [hm]
  have e1 : (hdr (ext R) R.length).extract 0 16 = hdr (ext R) R.length := by
    apply W1.ba_ext
    rw [W1.extract_list, List.drop_zero, List.take_of_length_le (by rw [dl_len']; omega)]
  rw [e1, pcs_zero _ _ _ (by simp; omega)]
  rfl
theorem write_due {s : Dk} {f : Int} {a : Int} {t : ByteArray} : s.write f a t = if s.due = true then (10, (s.tick.raw f a t).2.crash s.keep) else s.tick.raw f a t := rfl
/-- The header is written. -/
theorem CS.whead {s : Dk} {rows R : List ByteArray} (h : CS s rows R R) (hn : ∀ p ∈ s.pend, p.f ≠ 3) :
    (∃ S, s.write 3 0 (hdr (ext rows) rows.length) = (10, S) ∧ Ded S R rows) ∨ (∃ S, s.write 3 0 (hdr (ext rows) rows.length) = (0, S) ∧ CS S rows R rows ∧ Snd (fileL (S.d 3).data.toList S.pend 3) rows) := by
  have ht := h.tick
  have hraw := raw_ok (f := 3) (a := 0) (t := hdr (ext rows) rows.length) ht.dn (by decide) (by rw [hdr_size]; decide)
  rw [pcs_hdr] at hraw
  have hp : s.tick.pend = s.pend := by rw [tick_eq h.dn]
  have hf : Frm (s.tick.d 3).data.toList rows := by
    have := ht.cr.lv
    rwa [hp, fileL_none _ _ _ hn] at this
  have hfile : fileL (s.tick.d 3).data.toList (s.tick.pend ++ [hpc rows]) 3 = pput (s.tick.d 3).data.toList 0 (hdr (ext rows) rows.length).data.toList := by
    rw [fileL_append, hp, fileL_none _ _ _ hn, fileL_one, if_pos (show (hpc rows).f = 3 from rfl)]
    rfl
  have hl := hdr_len (ext rows) rows.length
  have hget : ∀ k, k < ext rows → (pput (s.tick.d 3).data.toList 0 (hdr (ext rows) rows.length).data.toList)[k]? = (whl rows).data.toList[k]? := fun k hk => by
    rw [pput_get, if_neg (by omega), hl]
    by_cases h16 : k < 16
    · rw [if_pos (by omega), whl_hdr rows k h16, Nat.sub_zero]
    · rw [if_neg (by omega)]; exact hf k (by omega) hk
  have hcs : CS { s.tick with pend := s.tick.pend ++ [hpc rows] } rows R rows := by
    refine ⟨ht.dn, ht.dl, ⟨ht.cr.s0, hf, fun p hp' h3 => ?_, h.cr.p1, List.prefix_refl _, ?_⟩⟩
    · rcases List.mem_append.1 hp' with hp' | hp'
      · rw [hp] at hp'; exact absurd h3 (hn p hp')
      · exact .inr (List.mem_singleton.1 hp')
    · show Frm (fileL (s.tick.d 3).data.toList (s.tick.pend ++ [hpc rows]) 3) rows
      rw [hfile]
      exact fun k _ hk => hget k hk
  by_cases hdue : s.due = true
  · left
    refine ⟨_, by rw [write_due, if_pos hdue], ?_⟩
    have hraw2 : s.tick.raw 3 0 (hdr (ext rows) rows.length) = (0, { s.tick with pend := s.tick.pend ++ [hpc rows] }) := hraw
    rw [hraw2]
    exact hcs.crash _
  · right
    refine ⟨_, by rw [write_due, if_neg hdue]; exact hraw, hcs, ?_⟩
    show Snd (fileL (s.tick.d 3).data.toList (s.tick.pend ++ [hpc rows]) 3) rows
    rw [hfile]
    exact .inl hget
/-- A row is written. -/
theorem CS.wapp {s : Dk} {rows R0 R1 : List ByteArray} (h : CS s rows R0 R1) (row : ByteArray) :
    (∃ S, s.write 3 (ext rows) (frm row) = (10, S) ∧ Ded S R0 R1) ∨ (∃ S, s.write 3 (ext rows) (frm row) = (7, S) ∧ CS S rows R0 R1) ∨ (∃ S, s.write 3 (ext rows) (frm row) = (0, S) ∧ CS S (rows ++ [row]) R0 R1) := by
  have ht := h.tick
  by_cases hfull : ext rows + (frm row).size ≤ 16777216
  · have hraw := raw_ok (s := s.tick) (f := 3) (a := ext rows) (t := frm row) ht.dn (by decide) hfull
    have hcs : CS { s.tick with pend := s.tick.pend ++ pcs 3 (frm row).size (ext rows) (frm row) } (rows ++ [row]) R0 R1 := by
      refine ⟨ht.dn, ht.dl, ⟨ht.cr.s0, ht.cr.f1, fun p hp' h3 => ?_, ht.cr.p0, ht.cr.p1.trans (List.prefix_append _ _), ?_⟩⟩
      · rcases List.mem_append.1 hp' with hp' | hp'
        · exact ht.cr.pe p hp' h3
        · have := (pcs_ok 3 _ _ _ p hp').2.1
          exact .inl (Nat.le_trans (ext_pre ht.cr.p1) this)
      · show Frm (fileL (s.tick.d 3).data.toList (s.tick.pend ++ pcs 3 (frm row).size (ext rows) (frm row)) 3) (rows ++ [row])
        have hlv := ht.cr.lv
        obtain ⟨x, hx⟩ : ∃ x, fileL (s.tick.d 3).data.toList s.tick.pend 3 = x := ⟨_, rfl⟩
        rw [fileL_append, fileL_pcs0 3 _ _ _ (by rw [frm_size]; omega), hx]
        rw [hx] at hlv
        have hfl := flat_length rows
        have h16 := ext16 rows
        intro k h1 h2
        rw [pput_get]
        by_cases hk : k < ext rows
        · obtain ⟨y, hy⟩ := whl_some rows k hk
          have e := hlv k h1 hk
          rw [if_pos hk, if_pos (some_lt (e.trans hy)), e, whl_pre (List.prefix_append rows [row]) k h1 hk]
        · have h3 : ext (rows ++ [row]) = ext rows + (frm row).data.toList.length := by rw [ext_append, dl_len']; unfold flat; simp [frm_size]
          rw [if_neg hk, if_pos (by omega), whl_flat _ _ h1, flat_append, List.getElem?_append_right (by omega)]
          have e1 : flat [row] = (frm row).data.toList := by simp [flat]
          rw [e1]
          congr 1
          omega
    by_cases hdue : s.due = true
    · left
      refine ⟨_, by rw [write_due, if_pos hdue], ?_⟩
      have hraw2 : s.tick.raw 3 (ext rows : Int) (frm row) = (0, { s.tick with pend := s.tick.pend ++ pcs 3 (frm row).size (ext rows) (frm row) }) := hraw
      rw [hraw2]
      exact hcs.crash _
    · right; right
      exact ⟨_, by rw [write_due, if_neg hdue]; exact hraw, hcs⟩
  · have hraw := raw_full (s := s.tick) (f := 3) (a := ext rows) (t := frm row) ht.dn (by decide) hfull
    have hraw2 : s.tick.raw 3 (ext rows : Int) (frm row) = (7, s.tick) := hraw
    by_cases hdue : s.due = true
    · left
      refine ⟨_, by rw [write_due, if_pos hdue], ?_⟩
      rw [hraw2]
      exact ht.crash _
    · right; left
      exact ⟨_, by rw [write_due, if_neg hdue]; exact hraw2, ht⟩
/-- File 4 is settled: file 3 is as it was. -/
theorem CS.set4 {s : Dk} {rows R0 R1 : List ByteArray} (h : CS s rows R0 R1) (b : ByteArray) : CS (s.settle 4 b) rows R0 R1 := by
  have e : (s.settle 4 b).d 3 = s.d 3 := by rw [settleJ_d (by rw [h.dl]; decide), if_neg (by decide)]
  refine ⟨h.dn, set_len _ _ _ h.dl, ⟨by rw [e]; exact h.cr.s0, by rw [e]; exact h.cr.f1, fun p hp h3 => h.cr.pe p (List.mem_filter.1 hp).1 h3, h.cr.p0, h.cr.p1, ?_⟩⟩
  rw [e]
  show Frm (fileL (s.d 3).data.toList (s.pend.filter _) 3) rows
  rw [fileL_filter _ _ _ _ (fun p _ h3 => by simp [h3])]
  exact h.cr.lv
theorem CS.put4 {s : Dk} {rows R0 R1 : List ByteArray} (h : CS s rows R0 R1) (l : List Pc) (hl : ∀ p ∈ l, p.f = 4) : CS { s with pend := s.pend ++ l } rows R0 R1 := by
  refine ⟨h.dn, h.dl, ⟨h.cr.s0, h.cr.f1, fun p hp h3 => ?_, h.cr.p0, h.cr.p1, ?_⟩⟩
  · rcases List.mem_append.1 hp with hp | hp
    · exact h.cr.pe p hp h3
    · have := hl p hp; omega
  · show Frm (fileL (s.d 3).data.toList (s.pend ++ l) 3) rows
    rw [fileL_append, fileL_none _ l _ (fun p hp => by have := hl p hp; omega)]
    exact h.cr.lv
end Go.Proofs.Ytognomkhkoiabaa

namespace Go.Proofs.Ytognomkhkoiabaa
set_option linter.unusedVariables false
set_option linter.unusedSimpArgs false
open Go.RowKit

/-- The four steps of a rewriting. -/
theorem CS.rewrite {s : Dk} {rows R0 R1 : List ByteArray} (h : CS s rows R0 R1) (l : List ByteArray) (hx : ext l ≤ 16000000) :
    (∃ S, runT [fun s => s.cut 4 0, fun s => s.write 4 0 (whl l), fun s => s.flush 4, fun s => s.turn 3 4] s = (10, S) ∧ Ded S R0 R1) ∨
    (∃ S, runT [fun s => s.cut 4 0, fun s => s.write 4 0 (whl l), fun s => s.flush 4, fun s => s.turn 3 4] s = (12, S) ∧ CS S rows R0 R1) ∨
    (∃ S, runT [fun s => s.cut 4 0, fun s => s.write 4 0 (whl l), fun s => s.flush 4, fun s => s.turn 3 4] s = (0, S) ∧ CS S l l l) := by
  obtain ⟨q, hq⟩ : ∃ q, runT [fun s => s.cut 4 0, fun s => s.write 4 0 (whl l), fun s => s.flush 4, fun s => s.turn 3 4] s = q := ⟨_, rfl⟩
  rw [hq]
  -- cut
  rcases h.enter with hd | ⟨h1, p1, d1⟩
  · have e : s.cut 4 0 = (10, s.enter) := by
      unfold Dk.cut Dk.cut0
      rw [hd.chk, if_pos (by decide)]
    rw [runT_bad e (by decide)] at hq
    exact .inl ⟨_, hq.symm, hd⟩
  have e1 : s.cut 4 0 = (0, s.enter.settle 4 ((s.enter.bytes 4).extract 0 0)) := by
    unfold Dk.cut Dk.cut0
    rw [h1.chk 4 (by decide), if_neg (by decide), if_neg (by omega)]
    rfl
  rw [runT_step e1] at hq
  have u1 := h1.set4 ((s.enter.bytes 4).extract 0 0)
  have q1 := set_pend s.enter 4 ((s.enter.bytes 4).extract 0 0)
  have g1 : (s.enter.settle 4 ((s.enter.bytes 4).extract 0 0)).d 4 = bs [] := by
    rw [settleJ_d (by rw [h1.dl]; decide), if_pos rfl]
    exact ba_nil (by simp)
  obtain ⟨S1, hS1⟩ : ∃ S1, s.enter.settle 4 ((s.enter.bytes 4).extract 0 0) = S1 := ⟨_, rfl⟩
  rw [hS1] at hq u1 q1 g1
  -- write
  have t1 := u1.tick
  have hp : S1.tick.pend = S1.pend := by rw [tick_eq u1.dn]
  have hd4 : S1.tick.d 4 = bs [] := by rw [tick_eq u1.dn]; exact g1
  have hraw : S1.tick.raw 4 0 (whl l) = (0, { S1.tick with pend := S1.tick.pend ++ pcs 4 (whl l).size 0 (whl l) }) := raw_ok (f := 4) (a := 0) t1.dn (by decide) (by rw [whl_size]; omega)
  have hcs := t1.put4 (pcs 4 (whl l).size 0 (whl l)) (fun p hp' => (pcs_ok 4 _ _ _ p hp').1)
  by_cases hdue : S1.due = true
  · have e : S1.write 4 0 (whl l) = (10, (S1.tick.raw 4 0 (whl l)).2.crash S1.keep) := by rw [write_due, if_pos hdue]
    rw [runT_bad e (by decide)] at hq
    left
    refine ⟨_, hq.symm, ?_⟩
    rw [hraw]
    exact hcs.crash _
  have e2 : S1.write 4 0 (whl l) = (0, { S1.tick with pend := S1.tick.pend ++ pcs 4 (whl l).size 0 (whl l) }) := by rw [write_due, if_neg hdue, hraw]
  rw [runT_step e2] at hq
  have b2 : ({ S1.tick with pend := S1.tick.pend ++ pcs 4 (whl l).size 0 (whl l) } : Dk).bytes 4 = whl l := by
    unfold Dk.bytes
    show bs (fileL (S1.tick.d 4).data.toList (S1.tick.pend ++ pcs 4 (whl l).size 0 (whl l)) 4) = whl l
    rw [fileL_append, hp, fileL_none _ _ _ q1, hd4, bs_list, fileL_new]
  obtain ⟨S2, hS2⟩ : ∃ S2, ({ S1.tick with pend := S1.tick.pend ++ pcs 4 (whl l).size 0 (whl l) } : Dk) = S2 := ⟨_, rfl⟩
  rw [hS2] at hq hcs b2
  -- flush
  rcases hcs.enter with hd | ⟨h3, p3, d3⟩
  · have e : S2.flush 4 = (10, S2.enter) := by
      unfold Dk.flush Dk.flush0
      rw [hd.chk, if_pos (by decide)]
    rw [runT_bad e (by decide)] at hq
    exact .inl ⟨_, hq.symm, hd⟩
  have b3 : S2.enter.bytes 4 = whl l := by
    unfold Dk.bytes at b2 ⊢
    rw [d_dur d3, p3]; exact b2
  by_cases hl : 0 < S2.enter.lost
  · have e : S2.flush 4 = (12, { S2.enter with lost := S2.enter.lost - 1 }) := by
      unfold Dk.flush Dk.flush0
      rw [h3.chk 4 (by decide), if_neg (by decide), if_pos hl]
    rw [runT_bad e (by decide)] at hq
    exact .inr (.inl ⟨_, hq.symm, h3.same rfl rfl rfl⟩)
  have e3 : S2.flush 4 = (0, S2.enter.settle 4 (whl l)) := by
    unfold Dk.flush Dk.flush0
    rw [h3.chk 4 (by decide), if_neg (by decide), if_neg hl]
    show (0, S2.enter.settle 4 (S2.enter.bytes 4)) = _
    rw [b3]
  rw [runT_step e3] at hq
  have u3 := h3.set4 (whl l)
  have q3 := set_pend S2.enter 4 (whl l)
  have g3 : (S2.enter.settle 4 (whl l)).d 4 = whl l := by rw [settleJ_d (by rw [h3.dl]; decide), if_pos rfl]
  obtain ⟨S3, hS3⟩ : ∃ S3, S2.enter.settle 4 (whl l) = S3 := ⟨_, rfl⟩
  rw [hS3] at hq u3 q3 g3
  -- turn
  rcases u3.enter with hd | ⟨h4, p4, d4⟩
  · have e : S3.turn 3 4 = (10, S3.enter) := by
      unfold Dk.turn Dk.turn0
      rw [if_pos hd.down]
    rw [runT_bad e (by decide)] at hq
    exact .inl ⟨_, hq.symm, hd⟩
  have hpd : S3.enter.pending 4 = false := by
    unfold Dk.pending
    rw [List.any_eq_false, p4]
    intro p hp'
    simp [q3 p hp']
  have e4 : S3.turn 3 4 = (0, (S3.enter.settle 3 (whl l)).settle 4 (bs [])) := by
    unfold Dk.turn Dk.turn0
    rw [if_neg (by rw [h4.dn]; simp), if_neg (by decide), if_neg (by decide)]
    have h44 : (4 : Int).toNat = 4 := rfl
    have h33 : (3 : Int).toNat = 3 := rfl
    rw [h44, h33, hpd, if_neg (by simp), d_dur d4, g3]
  rw [runT_step e4] at hq
  right; right
  refine ⟨_, hq.symm, ?_⟩
  have hd3 : ((S3.enter.settle 3 (whl l)).settle 4 (bs [])).d 3 = whl l := by
    rw [settleJ_d (by rw [set_len _ _ _ h4.dl]; decide), if_neg (by decide), settleJ_d (by rw [h4.dl]; decide), if_pos rfl]
  refine cs_clean h4.dn (set_len _ _ _ (set_len _ _ _ h4.dl)) (fun p hp => set_pend S3.enter 3 (whl l) p (List.mem_filter.1 hp).1) ?_ (List.prefix_refl _) ?_
  · rw [hd3]; exact .inl fun k _ => rfl
  · rw [hd3]; exact fun k _ _ => rfl
/-- A log and its disk: R0 or R1 is found after a crash. -/
structure Lv (s : Dk) (g : Lg) (R0 R1 : List ByteArray) : Prop where
  fi : g.file = 3
  cs : CS s g.rows R0 R1
  su : g.sure ≤ g.rows.length
  eq : g.sure = g.rows.length → R0 = g.rows
/-- What a deed leaves: M0 are the lists of rows that may be found if it answered OK, M1 otherwise. -/
def Out (M0 M1 : List (List ByteArray)) (r : Int × Lg × Dk) : Prop :=
  (r.1 = 10 ∧ ∃ R, R ∈ M1 ∧ Dd r.2.2 R) ∨ (r.1 ≠ 10 ∧ r.1 ≠ 0 ∧ ∃ R0 R1, R0 ∈ M1 ∧ R1 ∈ M1 ∧ Lv r.2.2 r.2.1 R0 R1) ∨ (r.1 = 0 ∧ ∃ R0 R1, R0 ∈ M0 ∧ R1 ∈ M0 ∧ Lv r.2.2 r.2.1 R0 R1)
theorem Ded.mem {S : Dk} {R0 R1 : List ByteArray} {M : List (List ByteArray)} (h : Ded S R0 R1) (h0 : R0 ∈ M) (h1 : R1 ∈ M) : ∃ R, R ∈ M ∧ Dd S R := by
  obtain ⟨R, e, h⟩ := h
  rcases e with e | e
  · exact ⟨R, e ▸ h0, h⟩
  · exact ⟨R, e ▸ h1, h⟩
theorem Lv.append {s : Dk} {g : Lg} {R0 R1 : List ByteArray} {M : List (List ByteArray)} (h : Lv s g R0 R1) (h0 : R0 ∈ M) (h1 : R1 ∈ M) (row : ByteArray) : Out M M (g.append s row) := by
  have hf := h.fi
  rcases h.cs.wapp row with ⟨S, e, hd⟩ | ⟨S, e, hc⟩ | ⟨S, e, hc⟩
  · have e2 : g.append s row = (10, g, S) := by unfold Lg.append; rw [hf, e]; rfl
    rw [e2]
    exact .inl ⟨rfl, hd.mem h0 h1⟩
  · have e2 : g.append s row = (7, g, S) := by unfold Lg.append; rw [hf, e]; rfl
    rw [e2]
    exact .inr (.inl ⟨(by decide : (7 : Int) ≠ 10), (by decide : (7 : Int) ≠ 0), R0, R1, h0, h1, ⟨hf, hc, h.su, h.eq⟩⟩)
  · have e2 : g.append s row = (0, ⟨g.file, g.rows ++ [row], g.sure⟩, S) := by unfold Lg.append; rw [hf, e]; rfl
    rw [e2]
    have hsu := h.su
    refine .inr (.inr ⟨rfl, R0, R1, h0, h1, ⟨hf, hc, ?_, ?_⟩⟩)
    · show g.sure ≤ (g.rows ++ [row]).length
      rw [List.length_append]; omega
    · intro he
      have he2 : g.sure = (g.rows ++ [row]).length := he
      rw [List.length_append, List.length_singleton] at he2
      omega
theorem Lv.flush {s : Dk} {g : Lg} {R0 R1 : List ByteArray} {M : List (List ByteArray)} (h : Lv s g R0 R1) (h0 : R0 ∈ M) (h1 : R1 ∈ M) : Out [g.rows] (M ++ [g.rows]) (g.flush s) := by
  have hf := h.fi
  have m0 : R0 ∈ M ++ [g.rows] := by simp [h0]
  have m1 : R1 ∈ M ++ [g.rows] := by simp [h1]
  have m2 : g.rows ∈ M ++ [g.rows] := by simp
  by_cases hs : g.sure = g.rows.length
  · have e : g.flush s = (0, g, s) := by unfold Lg.flush; rw [if_pos hs, if_neg (by rw [h.cs.dn]; simp)]
    have e0 := h.eq hs
    have e1 : R1 = g.rows := by
      have h2 := h.cs.cr.p0
      have h3 := h.cs.cr.p1
      rw [e0] at h2
      exact h3.eq_of_length (Nat.le_antisymm h3.length_le h2.length_le)
    rw [e]
    exact .inr (.inr ⟨rfl, R0, R1, by rw [e0]; simp, by rw [e1]; simp, h⟩)
  · have hr : g.flush s = if (runT [fun s => s.flush 3, fun s => s.write 3 0 (hdr (ext g.rows) g.rows.length), fun s => s.flush 3] s).1 = 0 then (0, ⟨g.file, g.rows, g.rows.length⟩, (runT [fun s => s.flush 3, fun s => s.write 3 0 (hdr (ext g.rows) g.rows.length), fun s => s.flush 3] s).2) else ((runT [fun s => s.flush 3, fun s => s.write 3 0 (hdr (ext g.rows) g.rows.length), fun s => s.flush 3] s).1, g, (runT [fun s => s.flush 3, fun s => s.write 3 0 (hdr (ext g.rows) g.rows.length), fun s => s.flush 3] s).2) := by
      unfold Lg.flush; rw [if_neg hs, hf]
    obtain ⟨q, hq⟩ : ∃ q, runT [fun s => s.flush 3, fun s => s.write 3 0 (hdr (ext g.rows) g.rows.length), fun s => s.flush 3] s = q := ⟨_, rfl⟩
    rw [hq] at hr
    have bad : ∀ E S, q = (E, S) → E ≠ 0 → g.flush s = (E, g, S) := fun E S e h0 => by rw [hr, e, if_neg h0]
    rcases h.cs.flush3 with ⟨S, e, hd⟩ | ⟨S, e, hc⟩ | ⟨S, e, hn, hc⟩
    · rw [runT_bad e (by decide)] at hq
      rw [bad 10 S hq.symm (by decide)]
      exact .inl ⟨rfl, hd.mem m0 m1⟩
    · rw [runT_bad e (by decide)] at hq
      rw [bad 12 S hq.symm (by decide)]
      exact .inr (.inl ⟨(by decide : (12 : Int) ≠ 10), (by decide : (12 : Int) ≠ 0), R0, R1, m0, m1, ⟨hf, hc, h.su, h.eq⟩⟩)
    · rw [runT_step e] at hq
      have hpre0 := h.cs.cr.p0.trans h.cs.cr.p1
      obtain ⟨R, hR, hcR⟩ : ∃ R, R ∈ M ++ [g.rows] ∧ CS S g.rows R R := by
        rcases h.cs.cr.all with ha | ha
        · exact ⟨R0, m0, hc R0 hpre0 ha⟩
        · exact ⟨R1, m1, hc R1 h.cs.cr.p1 ha⟩
      rcases hcR.whead hn with ⟨S2, e2, hd⟩ | ⟨S2, e2, hc2, hs2⟩
      · rw [runT_bad e2 (by decide)] at hq
        rw [bad 10 S2 hq.symm (by decide)]
        exact .inl ⟨rfl, hd.mem hR m2⟩
      · rw [runT_step e2] at hq
        rcases hc2.flush3 with ⟨S3, e3, hd⟩ | ⟨S3, e3, hc3⟩ | ⟨S3, e3, hn3, hc3⟩
        · rw [runT_bad e3 (by decide)] at hq
          rw [bad 10 S3 hq.symm (by decide)]
          exact .inl ⟨rfl, hd.mem hR m2⟩
        · rw [runT_bad e3 (by decide)] at hq
          rw [bad 12 S3 hq.symm (by decide)]
          exact .inr (.inl ⟨(by decide : (12 : Int) ≠ 10), (by decide : (12 : Int) ≠ 0), R, g.rows, hR, m2, ⟨hf, hc3, h.su, fun he => absurd he hs⟩⟩)
        · rw [runT_step e3] at hq
          have hq' : q = (0, S3) := hq.symm
          rw [hr, hq', if_pos rfl]
          exact .inr (.inr ⟨rfl, g.rows, g.rows, by simp, by simp, ⟨hf, hc3 g.rows (List.prefix_refl _) hs2, Nat.le_refl _, fun _ => rfl⟩⟩)
theorem Lv.rewrite {s : Dk} {g : Lg} {R0 R1 : List ByteArray} {M : List (List ByteArray)} (h : Lv s g R0 R1) (h0 : R0 ∈ M) (h1 : R1 ∈ M) (l : List ByteArray) (hx : ext l ≤ 16000000) : Out [l] (M ++ [l]) (g.rewrite s l) := by
  have hf := h.fi
  have m0 : R0 ∈ M ++ [l] := by simp [h0]
  have m1 : R1 ∈ M ++ [l] := by simp [h1]
  have h34 : (3 : Int) + 1 = 4 := rfl
  have hr : g.rewrite s l = if (runT [fun s => s.cut 4 0, fun s => s.write 4 0 (whl l), fun s => s.flush 4, fun s => s.turn 3 4] s).1 = 0 then (0, ⟨g.file, l, l.length⟩, (runT [fun s => s.cut 4 0, fun s => s.write 4 0 (whl l), fun s => s.flush 4, fun s => s.turn 3 4] s).2) else ((runT [fun s => s.cut 4 0, fun s => s.write 4 0 (whl l), fun s => s.flush 4, fun s => s.turn 3 4] s).1, g, (runT [fun s => s.cut 4 0, fun s => s.write 4 0 (whl l), fun s => s.flush 4, fun s => s.turn 3 4] s).2) := by
    unfold Lg.rewrite; rw [hf, h34]
  rcases h.cs.rewrite l hx with ⟨S, e, hd⟩ | ⟨S, e, hc⟩ | ⟨S, e, hc⟩
  · rw [e, if_neg (show ¬ (10 : Int) = 0 by decide)] at hr
    rw [hr]
    exact .inl ⟨rfl, hd.mem m0 m1⟩
  · rw [e, if_neg (show ¬ (12 : Int) = 0 by decide)] at hr
    rw [hr]
    exact .inr (.inl ⟨(by decide : (12 : Int) ≠ 10), (by decide : (12 : Int) ≠ 0), R0, R1, m0, m1, ⟨hf, hc, h.su, h.eq⟩⟩)
  · rw [e, if_pos rfl] at hr
    rw [hr]
    exact .inr (.inr ⟨rfl, l, l, by simp, by simp, ⟨hf, hc, Nat.le_refl _, fun _ => rfl⟩⟩)
theorem Lv.crash {s : Dk} {g : Lg} {R0 R1 : List ByteArray} {M : List (List ByteArray)} (h : Lv s g R0 R1) (h0 : R0 ∈ M) (h1 : R1 ∈ M) (keep : List Int) : ∃ R, R ∈ M ∧ Dd (s.crash keep) R := (h.cs.crash keep).mem h0 h1
theorem Lv.lose {s : Dk} {g : Lg} {R0 R1 : List ByteArray} (h : Lv s g R0 R1) (n : Int) : Lv (s.lose n) g R0 R1 := ⟨h.fi, h.cs.same rfl rfl rfl, h.su, h.eq⟩
theorem Lv.arm {s : Dk} {g : Lg} {R0 R1 : List ByteArray} (h : Lv s g R0 R1) (n : Int) (k : List Int) : Lv (s.arm n k) g R0 R1 := ⟨h.fi, h.cs.same rfl rfl rfl, h.su, h.eq⟩
/-- The log is opened again. -/
structure Re (s : Dk) (R : List ByteArray) : Prop where
  lv : Lv s ⟨3, R, R.length⟩ R R
  rd : s.read 3 = (s.d 3, 0)
  pa : parseS (s.d 3) = some R
  sz : (s.d 3).size ≤ 16777216
  gi : ∀ k, GI 3 k ⟨3, R, R.length⟩ s
theorem snd_ext {d : List UInt8} {R : List ByteArray} (h : Snd d R) (hd : d.length ≤ 16777216) : ext R ≤ 16777216 := by
  rcases h with h | ⟨rfl, _⟩
  · rcases Nat.lt_or_ge d.length (ext R) with hlt | hge
    · obtain ⟨y, hy⟩ := whl_some R d.length hlt
      have := some_lt ((h _ hlt).trans hy)
      omega
    · omega
  · decide
theorem re_of {t : Dk} {R : List ByteArray} (h1 : t.down = false) (h2 : t.dur.length = 8) (h3 : t.pend = []) (h4 : Snd (t.d 3).data.toList R) (h5 : (t.d 3).size ≤ 16777216) : Re t R := by
  have hx := snd_ext h4 (by rw [dl_len']; exact h5)
  have hb : t.bytes 3 = t.d 3 := Dk.bytes_none (by rw [h3]; intro p hp; cases hp)
  refine ⟨⟨rfl, cs_clean h1 h2 (by rw [h3]; intro p hp; cases hp) h4 (List.prefix_refl _) h4.frm, Nat.le_refl _, fun _ => rfl⟩, ?_, h4.parse (by omega), h5, fun k => ⟨rfl, by show ext R ≤ _; omega, by show R.length ≤ _; have := ext_len R; omega, by rw [h3]; exact Nat.zero_le _⟩⟩
  have := read_of t 3 (by decide) h1
  rw [hb] at this
  exact this
theorem Dd.again {s : Dk} {R : List ByteArray} (h : Dd s R) (hok : s.ok) : Re (((s.arm 0 []).lose 0).start) R :=
  re_of (t := ((s.arm 0 []).lose 0).start) rfl h.dl h.pe h.sd (hok.d_le 3)
theorem re_begin : Re dk0 [] := re_of (t := dk0) rfl rfl rfl (by rw [dk0_d 3, bs_list]; exact Snd.nil) (by rw [dk0_d 3]; decide)
end Go.Proofs.Ytognomkhkoiabaa
