/-
  The reference of layer 6: Copy.
-/
import Derived.Test.YtcfngdlgllanhaaDRn
import Derived.Test.YtcfngdlgllanhaaDRd
import Derived.Deep.RegionHeld3
namespace Go.Proofs.Ytcfngdlgllanhaa
set_option linter.unusedVariables false
set_option linter.unusedSimpArgs false
open Go.RowKit

/-- An empty new row. -/
structure EIn (W0 w : World) (e : TypeId) (g : Nat) : Prop where
  bk : Blk w g e #[]
  lo : W0.heap.size ≤ g
  bel : Below W0.heap.size W0 w
theorem EIn.later {W0 w w' : World} {e : TypeId} {g : Nat} (hb : Hid (Below w.heap.size w w')) (h : Hid (EIn W0 w e g)) : Hid (EIn W0 w' e g) := Lib.hid ⟨h.out.bk.below hb.out h.out.bk.lt, h.out.lo, h.out.bel.trans (hb.out.mono h.out.bel.size)⟩
/-- A new row. -/
structure NIn (W0 w : World) (e : TypeId) (sz n : Nat) (v : Value) (xs : List Value) : Prop where
  own : w.ownsRow 0 e sz v n xs
  lo : ∀ k, v.ownBlock = some k → W0.heap.size ≤ k
  bel : Below W0.heap.size W0 w
theorem NIn.later {W0 w w' : World} {e : TypeId} {sz n : Nat} {v : Value} {xs : List Value} (hb : Hid (Below w.heap.size w w')) (h : Hid (NIn W0 w e sz n v xs)) : Hid (NIn W0 w' e sz n v xs) :=
  Lib.hid ⟨own_heap h.out.own fun k _ hk => hb.out.block k hk, h.out.lo, h.out.bel.trans (hb.out.mono h.out.bel.size)⟩
structure RowT (t e : TypeId) (sz bytes : Nat) (i : TypeInfo) (z : Value) : Prop where
  ht : Try.prog.underlying t = some (.slice e)
  hi : Try.prog.info? e = some i
  hz : i.zero = some z
  hsz : i.size = sz
  hby : i.bytes = bytes
  hzs : z.cells.size = sz
  h0 : 0 < sz
  hb : bytes ≤ 64
theorem bel_al {W0 w : World} (h : Below W0.heap.size W0 w) (o : Obj) : Below W0.heap.size W0 (w.alloc o) := h.trans ((below_new w o).mono h.size)
theorem bel_dr {W0 w : World} (h : Below W0.heap.size W0 w) : Below W0.heap.size W0 w.drew := h.drew
theorem ein_new {W0 w : World} {e : TypeId} {g : Nat} (hb : Below W0.heap.size W0 w) (hg : g = w.heap.size) : Hid (EIn W0 (w.alloc (.cells #[] e)) e g) := by
  subst hg; exact Lib.hid ⟨Blk.new w e #[], hb.size, bel_al hb _⟩
theorem ein_alloc {W0 w : World} {e : TypeId} {g : Nat} {o : Obj} (h : Hid (EIn W0 w e g)) : Hid (EIn W0 (w.alloc o) e g) := EIn.later (Lib.hid (below_new w o)) h
theorem ein_drew {W0 w : World} {e : TypeId} {g : Nat} (h : Hid (EIn W0 w e g)) : Hid (EIn W0 w.drew e g) := Lib.hid ⟨h.out.bk, h.out.lo, h.out.bel.drew⟩
theorem nin_alloc {W0 w : World} {e : TypeId} {sz n : Nat} {v : Value} {xs : List Value} {o : Obj} (h : Hid (NIn W0 w e sz n v xs)) : Hid (NIn W0 (w.alloc o) e sz n v xs) := NIn.later (Lib.hid (below_new w o)) h
theorem nin_drew {W0 w : World} {e : TypeId} {sz n : Nat} {v : Value} {xs : List Value} (h : Hid (NIn W0 w e sz n v xs)) : Hid (NIn W0 w.drew e sz n v xs) := Lib.hid ⟨h.out.own, h.out.lo, h.out.bel.drew⟩
theorem step_apN {ops : Array Oper} {o : Oper} {a : Act} {w W0 : World} {K : Act → World → Prop} {Q : Exit → Act → World → Prop} {E : Prop} {t e : TypeId} {sz bytes : Nat} {i : TypeInfo} {z : Value} (hgd : o.guard = none) (d s : Operand)
    (ho : o.op = .call { callee := .builtin .append, args := #[d, s], argTypes := #[t, t] }) (hty : o.type = t) (hR : RowT t e sz bytes i z) (g : Nat) (u : Value) (m : Nat) (news : List Value) (hd : a.eval d = .slice (some ⟨g, 0, none⟩) 0 0) (hs : a.eval s = u)
    (hE : Hid (EIn W0 w e g)) (hu : Hid (∀ w', Below W0.heap.size W0 w' → Src w' u m sz news)) (h1 : ∀ y ∈ news, y.oneCell' = true) (hm : m ≤ 1000000)
    (h : ∀ v' w', Hid (NIn W0 w' e sz m v' news) → Hid (Below w.heap.size w w') → K (a.put o.dst v') w') :
    if Region.wanted o (yielded ops a.tmps) = true then Oper.wp Try.prog o a w K Q else E := by
  have hw' : Region.wanted o (yielded ops a.tmps) = true := by simp [Region.wanted, hgd]
  rw [if_pos hw']
  have hbk := hE.out.bk
  unfold Blk at hbk
  have hg : w.ownsRow 0 e sz (.slice (some ⟨g, 0, none⟩) 0 0) 0 [] := ⟨by simp, .inr ⟨g, 0, #[], rfl, Nat.zero_le _, hbk, Nat.le_refl _, by decide, by simp, by simp⟩⟩
  obtain ⟨v', w', hr, h2, h3, h4⟩ := app_new (w := w) hR.ht hR.hi hR.hz hR.hsz hR.hby hR.hzs hR.h0 g hg u m news (hu.out w hE.out.bel) h1 hm hR.hb
  unfold Oper.wp execOp
  simp only [ho, hty, resolve, invoke, builtin, Sem.run_bind, Sem.run_pure, Result.andThen_ok, List.map_toArray, List.map_cons, List.map_nil, hd, hs, hr]
  refine h v' w' (Lib.hid ⟨h2, fun k hk => ?_, hE.out.bel.trans (h3.mono hE.out.bel.size)⟩) (Lib.hid h3)
  rcases h4 with h4 | h4
  · rw [h4] at hk; injection hk with hk; have := hE.out.lo; omega
  · rw [h4] at hk; injection hk with hk; have := hE.out.bel.size; omega
theorem copy_end {w W6 : World} {s : Dk} {v1 v2 v3 : Value} (ok : s.ok) (n1 : Hid (NIn w W6 9 1 8 v1 (s.dur.map Value.string))) (n2 : Hid (NIn w W6 74 3 s.pend.length v2 (pc s.pend))) (n3 : Hid (NIn w W6 3 1 s.keep.length v3 (iv s.keep))) :
    RNew w s (.returned (.pointer (some ⟨W6.heap.size, 0, none⟩))) (W6.alloc (.cells #[v1, v2, .int .i64 s.lost, .bool s.down, .int .i64 s.calls, v3] 56)) := by
  have hl : ∀ {e sz n v xs k}, NIn w W6 e sz n v xs → v.ownBlock = some k → w.heap.size ≤ k ∧ k < (W6.alloc (.cells #[v1, v2, .int .i64 s.lost, .bool s.down, .int .i64 s.calls, v3] 56)).heap.size := fun h hk => ⟨h.lo _ hk, by have := (World.ownsRow.lt h.own _ hk).2; simp; omega⟩
  refine ⟨W6.heap.size, rfl, ⟨v1, v2, v3, ⟨Blk.new W6 _ _, n1.out.own.alloc _, n2.out.own.alloc _, n3.out.own.alloc _, ok⟩, ⟨⟨n1.out.bel.size, by simp⟩, fun k hk => hl n1.out hk, fun k hk => hl n2.out hk, fun k hk => hl n3.out hk⟩⟩, n1.out.bel.trans ((below_new _ _).mono n1.out.bel.size)⟩
set_option maxRecDepth 100000 in
set_option maxHeartbeats 0 in
theorem copyR {B : Nat → Prop} {w : World} {db : Nat} {s : Dk} (h : RefAt B w db s) :
    Calls Try.prog 13 #[.pointer (some ⟨db, 0, none⟩)] w (RNew w s) := by
  obtain ⟨i1, hi1, hz1, hs1, hb1⟩ := info_parts infoStr
  obtain ⟨i2, hi2, hz2, hs2, hb2⟩ := info_parts infoRP
  obtain ⟨i3, hi3, hz3, hs3, hb3⟩ := info_parts infoI
  have R1 : RowT 40 9 1 16 i1 (.string (bs [])) := ⟨Try.underlying40, hi1, hz1, hs1, hb1, rfl, by decide, by decide⟩
  have R2 : RowT 54 74 3 32 i2 (.agg #[.int .i64 0, .int .i64 0, .string (bs [])]) := ⟨Try.underlying54, hi2, hz2, hs2, hb2, rfl, by decide, by decide⟩
  have R3 : RowT 30 3 1 8 i3 (.int .i64 0) := ⟨Try.underlying30, hi3, hz3, hs3, hb3, rfl, by decide, by decide⟩
  clear hi1 hz1 hs1 hb1 hi2 hz2 hs2 hb2 hi3 hz3 hs3 hb3
  obtain ⟨lv, qv, kv, h, _⟩ := h
  have ok := h.ok
  have HOK := Lib.hid ok
  have S1 : Hid (∀ w', Below w.heap.size w w' → Src w' lv 8 1 (s.dur.map Value.string)) := Lib.hid fun w' hb => (Src.own h.lst).below hb
  have S2 : Hid (∀ w', Below w.heap.size w w' → Src w' qv s.pend.length 3 (pc s.pend)) := Lib.hid fun w' hb => (Src.own h.q).below hb
  have S3 : Hid (∀ w', Below w.heap.size w w' → Src w' kv s.keep.length 1 (iv s.keep)) := Lib.hid fun w' hb => (Src.own h.kp).below hb
  have O1 : ∀ u ∈ s.dur.map Value.string, u.oneCell' = true := fun u hu => by
    obtain ⟨z, _, rfl⟩ := List.mem_map.1 hu; rfl
  have O2 := pc_one s.pend
  have O3 := iv_one s.keep
  have P2 := ok.pn
  have P3 := ok.kn
  have CS : Hid (∀ w', Below w.heap.size w w' → w'.cell? ⟨db, 0, none⟩ = some lv ∧ w'.cell? ⟨db, 1, none⟩ = some qv ∧ w'.cell? ⟨db, 2, none⟩ = some (.int .i64 s.lost) ∧ w'.cell? ⟨db, 3, none⟩ = some (.bool s.down) ∧ w'.cell? ⟨db, 4, none⟩ = some (.int .i64 s.calls) ∧ w'.cell? ⟨db, 5, none⟩ = some kv) := Lib.hid fun w' hb => by
    obtain ⟨c0, c1, c2, c3, c4, c5, _⟩ := h.cells
    exact ⟨keep_below hb c0, keep_below hb c1, keep_below hb c2, keep_below hb c3, keep_below hb c4, keep_below hb c5⟩
  have HE : Hid (∀ W6 v1 v2 v3, Hid (NIn w W6 9 1 8 v1 (s.dur.map Value.string)) → Hid (NIn w W6 74 3 s.pend.length v2 (pc s.pend)) → Hid (NIn w W6 3 1 s.keep.length v3 (iv s.keep)) → RNew w s (.returned (.pointer (some ⟨W6.heap.size, 0, none⟩))) (W6.alloc (.cells #[v1, v2, .int .i64 s.lost, .bool s.down, .int .i64 s.calls, v3] 56))) := Lib.hid fun W6 v1 v2 v3 a b c => copy_end HOK.out a b c
  have B0 : Hid (Below w.heap.size w w.drew) := Lib.hid (Below.refl _ _).drew
  obtain ⟨c0, c1, c2, c3, c4, c5⟩ := CS.out w.drew B0.out
  generalize s.dur.map Value.string = X1 at *
  generalize pc s.pend = X2 at *
  generalize s.pend.length = N2 at *
  generalize iv s.keep = X3 at *
  generalize s.keep.length = N3 at *
  generalize (s.lost : Int) = lo at *
  generalize (s.calls : Int) = ca at *
  generalize s.down = dn at *
  clear h ok
  go_enter Try.func13, Try.ntmps13
  go_wp2_with fail
  go_region_held3 (fun w' => w'.cell? ⟨db, 0, none⟩ = some lv ∧ w'.cell? ⟨db, 1, none⟩ = some qv ∧ w'.cell? ⟨db, 2, none⟩ = some (.int .i64 lo) ∧ w'.cell? ⟨db, 3, none⟩ = some (.bool dn) ∧ w'.cell? ⟨db, 4, none⟩ = some (.int .i64 ca) ∧ w'.cell? ⟨db, 5, none⟩ = some kv) (first | exact CS.out _ (by repeat (first | exact B0.out | exact Below.refl _ _ | exact (NIn.bel (Hid.out (by assumption))) | with_reducible apply bel_al | with_reducible apply bel_dr)) | fail)
    (first
      | (refine step_apN (W0 := w) (by rfl) (.tmp 3) (.tmp 7) (by rfl) (by rfl) R1 _ lv 8 X1 rfl (by kernel_rfl) (by repeat (first | assumption | with_reducible apply ein_drew | (with_reducible refine ein_new (by repeat (first | exact B0.out | exact Below.refl _ _ | exact (NIn.bel (Hid.out (by assumption))) | with_reducible apply bel_al | with_reducible apply bel_dr)) (by simp)) | with_reducible apply ein_alloc | (refine EIn.later (by assumption) ?_))) S1 O1 (by decide) ?_; intro v2 w2 hN hB; obtain ⟨vA, vcap, rfl⟩ := own_form hN.out.own)
      | (refine step_apN (W0 := w) (by rfl) (.tmp 9) (.tmp 13) (by rfl) (by rfl) R2 _ qv N2 X2 rfl (by kernel_rfl) (by repeat (first | assumption | with_reducible apply ein_drew | (with_reducible refine ein_new (by repeat (first | exact B0.out | exact Below.refl _ _ | exact (NIn.bel (Hid.out (by assumption))) | with_reducible apply bel_al | with_reducible apply bel_dr)) (by simp)) | with_reducible apply ein_alloc | (refine EIn.later (by assumption) ?_))) S2 O2 P2 ?_; intro v2 w2 hN hB; obtain ⟨vA, vcap, rfl⟩ := own_form hN.out.own)
      | (refine step_apN (W0 := w) (by rfl) (.tmp 27) (.tmp 31) (by rfl) (by rfl) R3 _ kv N3 X3 rfl (by kernel_rfl) (by repeat (first | assumption | with_reducible apply ein_drew | (with_reducible refine ein_new (by repeat (first | exact B0.out | exact Below.refl _ _ | exact (NIn.bel (Hid.out (by assumption))) | with_reducible apply bel_al | with_reducible apply bel_dr)) (by simp)) | with_reducible apply ein_alloc | (refine EIn.later (by assumption) ?_))) S3 O3 P3 ?_; intro v2 w2 hN hB; obtain ⟨vA, vcap, rfl⟩ := own_form hN.out.own))
  all_goals
    go_wp2_with fail
    go_ret
    exact HE.out _ _ _ _ (by repeat (first | assumption | with_reducible apply nin_drew | with_reducible apply nin_alloc | (refine NIn.later (by assumption) ?_))) (by repeat (first | assumption | with_reducible apply nin_drew | with_reducible apply nin_alloc | (refine NIn.later (by assumption) ?_))) (by repeat (first | assumption | with_reducible apply nin_drew | with_reducible apply nin_alloc | (refine NIn.later (by assumption) ?_)))
end Go.Proofs.Ytcfngdlgllanhaa
