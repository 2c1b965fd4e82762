/-
  Layer 6: one operation, as the law DiskLasts follows it (mathematics).
-/
import Derived.Test.YtlphblnnloigiaaDlast
import Derived.Test.YtlphblnnloigiaaDarm
namespace Go.Proofs.Ytlphblnnloigiaa
set_option linter.unusedVariables false
set_option linter.unusedSimpArgs false
open Go.RowKit

def sin1 (s : Dk) (since : List Ae) (x : Ae) : List Ae := if x.a.o % 11 ≤ 1 ∧ s.down = false ∧ 0 ≤ x.a.n ∧ x.a.n < 4000 then since ++ [x] else since
def cares (x : Ae) : Prop := x.a.o % 11 = 2 ∨ x.a.o % 11 = 3 ∨ x.a.o % 11 = 4
/-- The machine has gone down. -/
structure OutDown (s : Dk) (since : List Ae) (x : Ae) (r : ByteArray × Int × Dk) : Prop where
  dn : r.2.2.down = true
  here : ∀ f, f < 8 → HereOk (r.2.2.d f) (s.d f) (sin1 s since x) f
  pd : r.2.2.pend = []
  dl : r.2.2.dur.length = 8
  er : cares x → r.2.1 ≠ 0
  rng : ∀ y ∈ sin1 s since x, 0 ≤ y.a.n ∧ y.a.n ≤ 4000
/-- A file has been made durable. -/
structure OutSet (s : Dk) (since : List Ae) (x : Ae) (r : ByteArray × Int × Dk) (F : Nat) (b : ByteArray) : Prop where
  dn : r.2.2.down = false
  k : x.a.o % 11 = 2 ∨ x.a.o % 11 = 3
  er : r.2.1 = 0
  f : x.a.f = F
  lt : F < 8
  du : r.2.2.dur = s.dur.set F b
  rd : r.2.2.read x.a.f = (b, 0)
  iv : Inv r.2.2 (wo since F)
structure OutTurn (s : Dk) (since : List Ae) (x : Ae) (r : ByteArray × Int × Dk) (F G : Nat) : Prop where
  dn : r.2.2.down = false
  k : x.a.o % 11 = 4
  er : r.2.1 = 0
  f : x.a.f = F
  g : x.a.g = G
  lt : F < 8
  lg : G < 8
  ne : F ≠ G
  du : r.2.2.dur = (s.dur.set F (s.d G)).set G (bs [])
  iv : Inv r.2.2 (wo (wo since F) G)
structure OutElse (s : Dk) (since : List Ae) (x : Ae) (r : ByteArray × Int × Dk) : Prop where
  dn : r.2.2.down = false
  er : cares x → r.2.1 ≠ 0
  du : r.2.2.dur = s.dur
  iv : Inv r.2.2 (sin1 s since x)
theorem sin1_no {s : Dk} {since : List Ae} {x : Ae} (h : ¬ x.a.o % 11 ≤ 1) : sin1 s since x = since := by unfold sin1; rw [if_neg (fun g => h g.1)]
theorem sin1_rng {s : Dk} {since : List Ae} {x : Ae} (h : Inv s since) : ∀ y ∈ sin1 s since x, 0 ≤ y.a.n ∧ y.a.n ≤ 4000 := by
  intro y hy
  unfold sin1 at hy
  split at hy
  · rename_i g
    rcases List.mem_append.1 hy with hy | hy
    · exact h.rng y hy
    · rw [List.mem_singleton] at hy; rw [hy]; exact ⟨g.2.2.1, by omega⟩
  · exact h.rng y hy
theorem tick_up {s : Dk} (h : s.down = false) : s.tick = { s with calls := s.calls - 1 } := by unfold Dk.tick; rw [h, if_neg (by simp)]
theorem down_of_crash {s u : Dk} {since : List Ae} {x : Ae} (hu : u.down = false) (hd : u.dur = s.dur) (hi : Inv u (sin1 s since x)) (keep : List Int) (c : ByteArray) (e : Int) (he : cares x → e ≠ 0) : OutDown s since x (c, e, u.crash keep) := by
  refine ⟨crash_down _ _, fun f hf => ?_, crash_pendN u hu keep, ?_, he, hi.rng⟩
  · show HereOk ((u.crash keep).d f) _ _ _
    rw [crash_d u hu keep f hf]
    have := crash_here hi keep f
    rw [d_of_dur hd f] at this ⊢
    exact this
  · show (u.crash keep).dur.length = 8
    rw [Calm.crash hu]; simp
theorem step_up {s : Dk} {since : List Ae} (x : Ae) (h : Inv s since) (hd : s.down = false) (hok : okN x.a = true) :
    OutDown s since x (s.act x.a) ∨ (∃ F b, OutSet s since x (s.act x.a) F b) ∨ (∃ F G, OutTurn s since x (s.act x.a) F G) ∨ OutElse s since x (s.act x.a) := by
  have hn : ¬ (4000 ≤ x.a.n ∧ x.a.n ≤ 16777216) := by unfold okN at hok; exact of_decide_eq_true hok
  have ht := tick_up hd
  have htd : s.tick.down = false := by rw [ht]; exact hd
  have htu : s.tick.dur = s.dur := by rw [ht]
  have htp : s.tick.pend = s.pend := Dk.tick_pend s
  have hit : Inv s.tick since := h.same htp htu
  have hk0 : 0 ≤ x.a.o % 11 ∧ x.a.o % 11 < 11 := by omega
  generalize hr : s.act x.a = r
  unfold Dk.act at hr
  split at hr
  · rename_i hk
    subst hr
    have hcn : ¬ cares x := by unfold cares; omega
    obtain ⟨hrd, hrn⟩ := raw_dur s.tick x.a.f x.a.n x.a.s
    have hir : Inv (s.tick.raw x.a.f x.a.n x.a.s).2 (sin1 s since x) := by
      unfold sin1
      by_cases hg : 0 ≤ x.a.n ∧ x.a.n < 4000
      · rw [if_pos ⟨by omega, hd, hg.1, hg.2⟩]; exact hit.raw x ⟨hg.1, by omega⟩
      · rw [if_neg (fun g => hg ⟨g.2.2.1, g.2.2.2⟩), (raw_none s.tick _ _ _ (by omega)).1]; exact hit
    unfold Dk.write
    by_cases hdue : s.due = true
    · rw [if_pos hdue]
      exact .inl (down_of_crash (hrn.trans htd) (hrd.trans htu) hir _ _ _ (fun g => absurd g hcn))
    · rw [if_neg hdue]
      exact .inr (.inr (.inr ⟨hrn.trans htd, fun g => absurd g hcn, hrd.trans htu, hir⟩))
  split at hr
  · rename_i _ hk
    subst hr
    have hs1 : sin1 s since x = since := sin1_no (by omega)
    unfold Dk.flush Dk.enter
    by_cases hdue : s.due = true
    · rw [if_pos hdue]
      left
      have := down_of_crash (s := s) (u := s.tick) (since := since) (x := x) htd htu (by rw [hs1]; exact hit) s.keep (bs []) 10 (fun _ => by omega)
      unfold Dk.flush0 Dk.chk
      rw [crash_down, if_pos rfl, if_pos (by simp)]
      exact this
    · rw [if_neg hdue]
      right
      unfold Dk.flush0
      rcases chk_cases s.tick x.a.f with hc | hc | ⟨hc, _, hf0, hf8⟩
      · rw [hc, if_pos (by simp)]
        exact .inr (.inr ⟨htd, fun _ => by show (10 : Int) ≠ 0; omega, htu, by rw [hs1]; exact hit⟩)
      · rw [hc, if_pos (by simp)]
        exact .inr (.inr ⟨htd, fun _ => by show (1 : Int) ≠ 0; omega, htu, by rw [hs1]; exact hit⟩)
      · rw [hc, if_neg (by simp)]
        by_cases hl : 0 < s.tick.lost
        · rw [if_pos hl]
          exact .inr (.inr ⟨htd, fun _ => by show (12 : Int) ≠ 0; omega, htu, by rw [hs1]; exact hit.same rfl rfl⟩)
        · rw [if_neg hl]
          refine .inl ⟨x.a.f.toNat, s.tick.bytes x.a.f.toNat, htd, .inl hk, rfl, by omega, by omega, ?_, ?_, hit.wo _ _⟩
          · show s.tick.dur.set _ _ = _; rw [htu]
          · have hfe : x.a.f = (x.a.f.toNat : Int) := by omega
            have hrd := read_of (s.tick.settle x.a.f.toNat (s.tick.bytes x.a.f.toNat)) x.a.f.toNat (by omega) htd
            rw [← hfe] at hrd
            refine hrd.trans ?_
            rw [Dk.bytes_none, set_d _ _ _ _ (by rw [htu, h.dl]; omega), if_pos rfl]
            intro p hp
            have := (List.mem_filter.1 hp).2
            simpa using this
  split at hr
  · rename_i _ _ hk
    subst hr
    have hs1 : sin1 s since x = since := sin1_no (by omega)
    unfold Dk.cut Dk.enter
    by_cases hdue : s.due = true
    · rw [if_pos hdue]
      left
      have := down_of_crash (s := s) (u := s.tick) (since := since) (x := x) htd htu (by rw [hs1]; exact hit) s.keep (bs []) 10 (fun _ => by omega)
      unfold Dk.cut0 Dk.chk
      rw [crash_down, if_pos rfl, if_pos (by simp)]
      exact this
    · rw [if_neg hdue]
      right
      unfold Dk.cut0
      rcases chk_cases s.tick x.a.f with hc | hc | ⟨hc, _, hf0, hf8⟩
      · rw [hc, if_pos (by simp)]
        exact .inr (.inr ⟨htd, fun _ => by show (10 : Int) ≠ 0; omega, htu, by rw [hs1]; exact hit⟩)
      · rw [hc, if_pos (by simp)]
        exact .inr (.inr ⟨htd, fun _ => by show (1 : Int) ≠ 0; omega, htu, by rw [hs1]; exact hit⟩)
      · rw [hc, if_neg (by simp)]
        by_cases hl : x.a.n < 0 ∨ ((s.tick.bytes x.a.f.toNat).size : Int) < x.a.n
        · rw [if_pos hl]
          exact .inr (.inr ⟨htd, fun _ => by show (1 : Int) ≠ 0; omega, htu, by rw [hs1]; exact hit⟩)
        · rw [if_neg hl]
          refine .inl ⟨x.a.f.toNat, (s.tick.bytes x.a.f.toNat).extract 0 x.a.n.toNat, htd, .inr hk, rfl, by omega, by omega, ?_, ?_, hit.wo _ _⟩
          · show s.tick.dur.set _ _ = _; rw [htu]
          · have hfe : x.a.f = (x.a.f.toNat : Int) := by omega
            have hrd := read_of (s.tick.settle x.a.f.toNat ((s.tick.bytes x.a.f.toNat).extract 0 x.a.n.toNat)) x.a.f.toNat (by omega) htd
            rw [← hfe] at hrd
            refine hrd.trans ?_
            rw [Dk.bytes_none, set_d _ _ _ _ (by rw [htu, h.dl]; omega), if_pos rfl]
            intro p hp
            have := (List.mem_filter.1 hp).2
            simpa using this
  split at hr
  · rename_i _ _ _ hk
    subst hr
    have hs1 : sin1 s since x = since := sin1_no (by omega)
    unfold Dk.turn Dk.enter
    by_cases hdue : s.due = true
    · rw [if_pos hdue]
      left
      have := down_of_crash (s := s) (u := s.tick) (since := since) (x := x) htd htu (by rw [hs1]; exact hit) s.keep (bs []) 10 (fun _ => by omega)
      unfold Dk.turn0
      rw [if_pos (crash_down _ _)]
      exact this
    · rw [if_neg hdue]
      right
      unfold Dk.turn0
      rw [htd, if_neg (by simp)]
      by_cases h1 : isF x.a.f = false ∨ isF x.a.g = false
      · rw [if_pos h1]
        exact .inr (.inr ⟨htd, fun _ => by show (1 : Int) ≠ 0; omega, htu, by rw [hs1]; exact hit⟩)
      · rw [if_neg h1]
        by_cases h2 : x.a.f = x.a.g
        · rw [if_pos h2]
          exact .inr (.inr ⟨htd, fun _ => by show (1 : Int) ≠ 0; omega, htu, by rw [hs1]; exact hit⟩)
        · rw [if_neg h2]
          by_cases h3 : s.tick.pending x.a.g.toNat = true
          · rw [if_pos h3]
            exact .inr (.inr ⟨htd, fun _ => by show (11 : Int) ≠ 0; omega, htu, by rw [hs1]; exact hit⟩)
          · rw [if_neg h3]
            have hf : 0 ≤ x.a.f ∧ x.a.f < 8 := by
              have : isF x.a.f = true := by cases g : isF x.a.f with
                | true => rfl
                | false => exact absurd (.inl g) h1
              simpa [isF] using this
            have hg : 0 ≤ x.a.g ∧ x.a.g < 8 := by
              have : isF x.a.g = true := by cases g : isF x.a.g with
                | true => rfl
                | false => exact absurd (.inr g) h1
              simpa [isF] using this
            refine .inr (.inl ⟨x.a.f.toNat, x.a.g.toNat, htd, hk, rfl, by omega, by omega, by omega, by omega, by omega, ?_, (hit.wo _ _).wo _ _⟩)
            show (s.tick.dur.set _ _).set _ _ = _
            rw [htu, d_of_dur htu]
  split at hr
  · rename_i _ _ _ _ hk
    subst hr
    have hs1 : sin1 s since x = since := sin1_no (by omega)
    exact .inl (down_of_crash hd rfl (by rw [hs1]; exact h) _ _ _ (fun g => by unfold cares at g; omega))
  right; right; right
  have hcn : ¬ cares x := by unfold cares; omega
  have hs1 : sin1 s since x = since := sin1_no (by omega)
  split at hr
  · subst hr; exact ⟨hd, fun g => absurd g hcn, rfl, by rw [hs1]; exact h.same rfl rfl⟩
  split at hr
  · subst hr; exact ⟨rfl, fun g => absurd g hcn, rfl, by rw [hs1]; exact h.same rfl rfl⟩
  split at hr
  · subst hr; exact ⟨hd, fun g => absurd g hcn, rfl, by rw [hs1]; exact h⟩
  split at hr
  · subst hr; exact ⟨hd, fun g => absurd g hcn, rfl, by rw [hs1]; exact h.same rfl rfl⟩
  · subst hr; exact ⟨hd, fun g => absurd g hcn, rfl, by rw [hs1]; exact h⟩
/-- On a machine that is down. -/
theorem step_down {s : Dk} (x : Ae) (hd : s.down = true) (hp : s.pend = []) : (s.act x.a).2.2.dur = s.dur ∧ (s.act x.a).2.2.pend = [] ∧ (cares x → (s.act x.a).2.1 ≠ 0) := by
  unfold Dk.act
  split
  · rename_i hk
    rw [down_write hd]; exact ⟨rfl, hp, fun g => by unfold cares at g; omega⟩
  split
  · rw [down_flush hd]; exact ⟨rfl, hp, fun _ => by show (10 : Int) ≠ 0; omega⟩
  split
  · rw [down_cut hd]; exact ⟨rfl, hp, fun _ => by show (10 : Int) ≠ 0; omega⟩
  split
  · rw [down_turn hd]; exact ⟨rfl, hp, fun _ => by show (10 : Int) ≠ 0; omega⟩
  split
  · rw [down_crash hd]; exact ⟨rfl, hp, fun g => by unfold cares at g; omega⟩
  split
  · exact ⟨rfl, hp, fun g => by unfold cares at g; omega⟩
  split
  · exact ⟨rfl, hp, fun g => by unfold cares at g; omega⟩
  split
  · exact ⟨rfl, hp, fun g => by unfold cares at g; omega⟩
  split
  · exact ⟨rfl, hp, fun g => by unfold cares at g; omega⟩
  · exact ⟨rfl, hp, fun g => by unfold cares at g; omega⟩
/-- Crashing again changes nothing. -/
theorem again_dur {s : Dk} (hp : s.pend = []) (hl : s.dur.length = 8) : (s.start.crash []).dur = s.dur ∧ (s.start.crash []).pend = [] ∧ (s.start.crash []).down = true := by
  refine ⟨?_, crash_pendN _ rfl _, crash_down _ _⟩
  rw [Calm.crash rfl]
  simp only []
  rw [← map_d s hl]
  apply List.map_congr_left
  intro f _
  rw [kept_nil, fileL_nil, bs_data]; rfl
end Go.Proofs.Ytlphblnnloigiaa
