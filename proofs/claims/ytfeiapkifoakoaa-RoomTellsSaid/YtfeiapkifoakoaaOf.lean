/-
  Contract of the reference's Of.
-/
import Derived.Test.YtfeiapkifoakoaaEndsW
import Derived.Test.YtfeiapkifoakoaaOfM
import Derived.Test.YtfeiapkifoakoaaAppS
import Derived.Test.YtfeiapkifoakoaaRefAdd
namespace Go.Proofs.Ytfeiapkifoakoaa
set_option linter.unusedVariables false
set_option linter.unusedSimpArgs false
open Go.RowKit

theorem Own.drew {w : World} {base : Nat} {v : Value} {l : List Sp} (h : Own w base v l) : Own w.drew base v l := ⟨h.row, h.wf, h.len⟩
/-- What follows is kept out of the walk's sight. -/
theorem wp_hide2 {P : Program} {c : Code} {Q : Exit → Act → World → Prop} {a : Act} {w : World} (h : ∀ Q' : Exit → Act → World → Prop, Hid (∀ e a w, Q e a w → Q' e a w) → Code.wp P c Q' a w) : Code.wp P c Q a w := h Q (Lib.hid fun _ _ _ h => h)
/-- What holds at the head of each round. -/
def OfRel (l : List Sp) (s : Sp) (b : Bool) (E : List Int) (w0 : World) (o i : Value) (wl : World) : Prop :=
  ∃ (k : Nat) (O : List Sp), i = .int .i64 k ∧ k + 1 ≤ E.length ∧ Coll b l s E k O ∧ Own wl w0.heap.size o O ∧ Below w0.heap.size w0 wl
theorem OfRel.mk {l : List Sp} {s : Sp} {b : Bool} {E : List Int} {w0 : World} {o i : Value} {wl : World} (k : Nat) (O : List Sp) (h1 : i = .int .i64 k) (h2 : k + 1 ≤ E.length) (h3 : Coll b l s E k O) (h4 : Own wl w0.heap.size o O) (h5 : Below w0.heap.size w0 wl) : OfRel l s b E w0 o i wl := ⟨k, O, h1, h2, h3, h4, h5⟩
theorem srow_one (w : World) (p n : Int) (hs : Sp.wf ⟨p, n⟩) : SRow (w.alloc (.cells #[.int .i64 p, .int .i64 n] 24)) (w.alloc (.cells #[.int .i64 p, .int .i64 n] 24)).heap.size (.slice (some ⟨w.heap.size, 0, none⟩) 1 1) [⟨p, n⟩] :=
  srow_lit w 24 [⟨p, n⟩] (fun x hx => by rw [List.mem_singleton.1 hx]; exact hs) (by simp)
theorem fact2 (W : World) (o : Obj) : Own ((W.alloc (.cells #[] 24)).alloc o).drew W.heap.size (.slice (some ⟨W.heap.size, 0, none⟩) 0 0) [] := ((own_empty W W.heap.size (Nat.le_refl _)).below (below_new _ _)).drew
theorem fact3 (W : World) (o : Obj) : Own ((W.alloc o).alloc (.cells #[] 24)).drew W.heap.size (.slice (some ⟨W.heap.size + 1, 0, none⟩) 0 0) [] := by
  have h := own_empty (W.alloc o) W.heap.size (by simp)
  rw [size_new] at h
  exact h.drew
theorem fact4 (W : World) (p n : Int) (hs : Sp.wf ⟨p, n⟩) {w2 : World} (hg : ((W.alloc (.cells #[] 24)).alloc (.cells #[.int .i64 p, .int .i64 n] 24)).drew.grownBy w2 (Value.slice (some ⟨W.heap.size, 0, none⟩) 0 0).ownBlock) : SRow w2 w2.heap.size (.slice (some ⟨W.heap.size + 1, 0, none⟩) 1 1) [⟨p, n⟩] := by
  have h := srow_one (W.alloc (.cells #[] 24)) p n hs
  rw [size_new W] at h
  refine srow_grown (w := ((W.alloc (.cells #[] 24)).alloc (.cells #[.int .i64 p, .int .i64 n] 24)).drew) h hg (Nat.le_refl _) (by simp [Value.ownBlock])
theorem fact5 (W : World) (p n : Int) (hs : Sp.wf ⟨p, n⟩) {w2 : World} (hg : ((W.alloc (.cells #[.int .i64 p, .int .i64 n] 24)).alloc (.cells #[] 24)).drew.grownBy w2 (Value.slice (some ⟨W.heap.size + 1, 0, none⟩) 0 0).ownBlock) : SRow w2 w2.heap.size (.slice (some ⟨W.heap.size, 0, none⟩) 1 1) [⟨p, n⟩] := by
  have h := (srow_one W p n hs).keep (below_new _ (.cells #[] 24))
  refine srow_grown (w := ((W.alloc (.cells #[.int .i64 p, .int .i64 n] 24)).alloc (.cells #[] 24)).drew) h hg (Nat.le_refl _) (by simp [Value.ownBlock])
theorem Own.store {w : World} {base go capo N : Nat} {O : List Sp} {x : Sp} (h : Own w base (.slice (some ⟨go, 0, none⟩) (N + 1) capo) (O ++ [x])) (hN : O.length = N) (z : Int) (hz : Sp.wf ⟨x.p, z⟩) : Own (w.setCell ⟨go, N * 2 + 1, none⟩ (.int .i64 z)) base (.slice (some ⟨go, 0, none⟩) (N + 1) capo) (O ++ [⟨x.p, z⟩]) := by
  have hl := h.len
  rcases h.row.2 with ⟨hv, _⟩ | ⟨g, cap, cur, hv, hb, hg, h1, h2, h3, h4⟩
  · cases hv
  · injection hv with e1 e2 e3
    injection e1 with e1
    injection e1 with e1 _ _
    subst e1; subst e3
    have hlen : (O ++ [x]).length = N + 1 := by simp; omega
    rw [hlen] at h1 h4
    refine Own.mkN (by simp; omega) (fun s hs => ?_) (by simp at hl; omega) hb (cur := cur.toList.set (N * 2 + 1) (.int .i64 z)) ?_ h1 h2 (by simp; omega) ?_
    · rcases List.mem_append.1 hs with h5 | h5
      · exact h.wf s (by simp [h5])
      · rw [List.mem_singleton.1 h5]; exact hz
    · unfold Cells
      rw [setCell_eq_setRow w go (N * 2 + 1) cur 24 (0, 0) _ hg]
      have := setRow_heap w go cur (cur.setIfInBounds (N * 2 + 1) (.int .i64 z)) 24 (0, 0) hg
      rw [this]
      congr 2
      apply Array.ext'
      simp
    · rw [List.take_set, h4, sc_append, sc_append]
      have hsl : (sc O).length = N * 2 := by rw [sc_length]; omega
      rw [List.set_append_right _ _ (by omega), hsl, show N * 2 + 1 - N * 2 = 1 by omega]
      rfl
theorem below2 (W : World) (o o2 : Obj) : Below W.heap.size W ((W.alloc o).alloc o2).drew := (((Below.refl _ _).alloc (Nat.le_refl _) o).alloc (by simp) o2).drew

set_option maxRecDepth 100000 in
set_option maxHeartbeats 0 in
theorem ofSpec : OfSpec := by
  intro v l s b w hl hri hok hr
  have hwf := hok.wf
  obtain ⟨p, n⟩ := s
  unfold spv
  have hb0 := below_new w (.cells #[.int .i64 p, .int .i64 n] 24)
  have q1 : (w.alloc (.cells #[.int .i64 p, .int .i64 n] 24)).cell? ⟨w.heap.size, 0, none⟩ = some (.int .i64 p) := (Blk.new w 24 _).cell 0
  have q2 : (w.alloc (.cells #[.int .i64 p, .int .i64 n] 24)).cell? ⟨w.heap.size, 1, none⟩ = some (.int .i64 n) := (Blk.new w 24 _).cell 1
  have r0 := hr.keep hb0
  have hlt : w.heap.size < (w.alloc (.cells #[.int .i64 p, .int .i64 n] 24)).heap.size := by simp
  have HWF := Lib.hid hwf
  have HOK : Hid (∀ x ∈ l ++ [⟨p, n⟩], x.ok) := fun x hx => by
    rcases List.mem_append.1 hx with h | h
    · exact (right_ok hri x h).1
    · rw [List.mem_singleton.1 h]; exact hok
  have HLN : Hid ((l ++ [(⟨p, n⟩ : Sp)]).length = l.length + 1) := by show _ = _; simp
  have HRI := Lib.hid hri
  have HSO := Lib.hid hok
  obtain ⟨W, hW⟩ : ∃ W, w.alloc (.cells #[.int .i64 p, .int .i64 n] 24) = W := ⟨_, rfl⟩
  rw [hW] at hb0 q1 q2 r0 hlt
  obtain ⟨g, hg⟩ : ∃ g, w.heap.size = g := ⟨_, rfl⟩
  rw [hg] at q1 q2 hlt
  have HB0 := Lib.hid hb0
  clear hwf hri hok hr hb0
  go_enter Try.func27, Try.ntmps27
  go_wp2_with fail
  have HG := Lib.hid hg
  clear hW hg
  have F1 := Lib.hid (own_empty W W.heap.size (Nat.le_refl _)).drew
  have F2 := Lib.hid (fact2 W (.cells #[.int .i64 p, .int .i64 n] 24))
  have F3 := Lib.hid (fact3 W (.cells #[.int .i64 p, .int .i64 n] 24))
  have B1 := Lib.hid (below_new W (.cells #[] 24)).drew
  have B2 := Lib.hid (below2 W (.cells #[] 24) (.cells #[.int .i64 p, .int .i64 n] 24))
  have B3 := Lib.hid (below2 W (.cells #[.int .i64 p, .int .i64 n] 24) (.cells #[] 24))
  have R1 := Lib.hid (r0.below B1.out)
  have R2 := Lib.hid (r0.below B2.out)
  have R3 := Lib.hid (r0.below B3.out)
  have R0 := Lib.hid r0
  clear r0
  rename_i K hK
  suffices key : ∀ (y13 y15 y17 y18 ve : Value) (E : List Int) (w3 w4 : World), Hid (EndsAt (l ++ [⟨p, n⟩]) (2 * (l ++ [(⟨p, n⟩ : Sp)]).length) E) → Hid (w4.ownsRow w3.heap.size 3 1 ve E.length (iv E)) → Hid (Below W.heap.size W w4) → w4.cell? ⟨g, 0, none⟩ = some (.int .i64 p) → w4.cell? ⟨g, 1, none⟩ = some (.int .i64 n) →
      K { tmps := #[v, .agg #[.int .i64 p, .int .i64 n], .bool b, undef, .pointer (some ⟨g, 0, none⟩), undef, .slice none 0 0, ve, undef, undef, undef, undef, undef, y13, v, y15, .agg #[.int .i64 p, .int .i64 n], y17, y18, ve, undef, undef, undef, undef, undef, undef, undef, undef, undef, undef, undef, undef, undef, undef, undef, undef, undef, undef, undef, undef, undef, undef, undef, undef, undef, undef, undef, undef, undef, undef, undef, undef, undef, undef, undef, undef, undef, undef, undef, undef, undef, undef, undef, undef, undef, undef, undef, undef, undef, undef, undef, undef, undef, undef, undef, undef, undef, undef, undef, undef, undef, undef, undef, undef, undef, undef, undef, undef, undef, undef, undef, undef, undef, undef, undef, undef, undef, undef, undef, undef, undef, undef, undef, undef, undef, undef, undef, undef, undef, undef, undef, undef, undef, undef, undef, undef, undef, undef, undef, undef], defers := [] } w4 by
    go_region_held3 (fun w' => w'.cell? ⟨g, 0, none⟩ = some (.int .i64 p) ∧ w'.cell? ⟨g, 1, none⟩ = some (.int .i64 n))
      (first | exact ⟨q1, q2⟩ | (go_split_ands; first | exact ⟨by assumption, by assumption⟩ | exact ⟨keep_below (below_new _ _) (by assumption), keep_below (below_new _ _) (by assumption)⟩ | exact ⟨keep_below (below_new _ _).drew (by assumption), keep_below (below_new _ _).drew (by assumption)⟩ | exact ⟨keep_below b4 (by assumption), keep_below b4 (by assumption)⟩ | exact ⟨(hk3.out.cell (p := ⟨g, 0, none⟩) hlt).trans (by assumption), (hk3.out.cell (p := ⟨g, 1, none⟩) hlt).trans (by assumption)⟩ | exact ⟨(hk2.out.cell (p := ⟨g, 0, none⟩) hlt).trans (by assumption), (hk2.out.cell (p := ⟨g, 1, none⟩) hlt).trans (by assumption)⟩) | fail)
      (first
        | (refine step_apps (by rfl) (.tmp 13) (.tmp 14) (by rfl) W.heap.size W.heap.size (.slice (some ⟨W.heap.size, 0, none⟩) 0 0) v [] l (by kernel_rfl) (by kernel_rfl) (by first | exact F1.out | exact F2.out) (by first | exact R1.out | exact R2.out) (by simp; omega) (by simp; try omega) ?_; intro v2 w2 hb2 hg2 hk2; have hacc := (by first | exact B1.out.trans hk2.out | exact B2.out.trans hk2.out : Below W.heap.size W w2))
        | (refine step_apps (by rfl) (.tmp 13) (.tmp 14) (by rfl) W.heap.size W.heap.size (.slice (some ⟨W.heap.size + 1, 0, none⟩) 0 0) v [] l (by kernel_rfl) (by kernel_rfl) F3.out R3.out (by simp; omega) (by simp; try omega) ?_; intro v2 w2 hb2 hg2 hk2; have hacc := (B3.out.trans hk2.out : Below W.heap.size W w2))
        | (refine step_apps (by rfl) (.tmp 15) (.tmp 17) (by rfl) W.heap.size _ v2 (.slice (some ⟨w2.heap.size, 0, none⟩) 1 1) ([] ++ l) [⟨p, n⟩] (by kernel_rfl) (by kernel_rfl) (hb2.out.below (below_new w2 _)) (srow_one w2 p n HWF.out) (by simp; omega) (by have := hacc.size; simp; omega) ?_; intro v3 w3 hb3 hg3 hk3; replace hacc := (hacc.trans ((below_new w2 (.cells #[.int .i64 p, .int .i64 n] 24)).mono hacc.size)).trans hk3.out)
        | (refine step_apps (by rfl) (.tmp 15) (.tmp 17) (by rfl) W.heap.size _ v2 (.slice (some ⟨W.heap.size + 1, 0, none⟩) 1 1) ([] ++ l) [⟨p, n⟩] (by kernel_rfl) (by kernel_rfl) hb2.out (fact4 W p n HWF.out hg2.out) (by simp; omega) (by have := hacc.size; omega) ?_; intro v3 w3 hb3 hg3 hk3; replace hacc := hacc.trans hk3.out)
        | (refine step_apps (by rfl) (.tmp 15) (.tmp 17) (by rfl) W.heap.size _ v2 (.slice (some ⟨W.heap.size, 0, none⟩) 1 1) ([] ++ l) [⟨p, n⟩] (by kernel_rfl) (by kernel_rfl) hb2.out (fact5 W p n HWF.out hg2.out) (by simp; omega) (by have := hacc.size; omega) ?_; intro v3 w3 hb3 hg3 hk3; replace hacc := hacc.trans hk3.out)
        | (go_at_call 40; refine (endsR v3 (l ++ [⟨p, n⟩]) w3 hb3.out.srow HOK.out (by rw [HLN.out]; omega)).mono ?_; rintro e w4 ⟨ve, E, rfl, hE, hrow, b4⟩; replace hacc := chain hacc b4 (Nat.le_refl _)))
    all_goals
      rename_i hS
      exact key _ _ _ _ _ _ _ _ (Lib.hid hE) (Lib.hid hrow) (Lib.hid hacc) hS.1 hS.2
  intro y13 y15 y17 y18 ve E w3 w4 HE HROW HACC f1 f2
  apply hK
  have HAE := Lib.hid (AllEnds.of HE.out)
  have hE2 := HE.out.2.2
  have HPE := Lib.hid (ends_ok HAE.out HRI.out HSO.out)
  have hEl : E.length ≤ 202 := by rw [HLN.out] at hE2; omega
  have hE0 : 0 < E.length := List.length_pos_of_mem (HAE.out.mem ⟨p, n⟩ (by simp)).1
  clear hE2
  obtain ⟨ge, cape, rfl, _, hge⟩ := HROW.out.form hE0
  have HEC : Hid (∀ k (hk : k < E.length), w4.cell? ⟨ge, k, none⟩ = some (.int .i64 E[k])) := fun k hk => by
    rw [HROW.out.cellAt k (by omega)]; simp [iv, hk]
  have R4 := Lib.hid ((R0.out.below HACC.out).mono HACC.out.size)
  have hgW : g < w4.heap.size := Nat.lt_of_lt_of_le hlt HACC.out.size
  clear F1 F2 F3 B1 B2 B3 R1 R2 R3 q1 q2 hlt
  go_wp2_with fail
  go_loopw [8, 9, 10, 11, 12] (fun o i x y z wl => OfRel l ⟨p, n⟩ b E w4 o i wl) (fun _ i _ _ _ _ => E.length - (intOf i).toNat)
  case atStart => exact OfRel.mk 0 [] rfl (by omega) (Coll.zero HAE.out) ⟨World.ownsRow_nil _ _ _ _, fun s hs => by simp at hs, by simp⟩ (Below.refl _ _)
  case round =>
    obtain ⟨k, O, rfl, hk1, hC, hov, hB⟩ := hrel
    obtain ⟨ro, rfl⟩ : ∃ x, x = u8 := ⟨_, rfl⟩
    have HC := Lib.hid hC
    have hOl := hC.len
    have HOV := Lib.hid hov
    have hBs := hB.size
    clear hC hov
    by_cases hlt : k + 1 < E.length
    · have c1 := (hB.cell (p := ⟨ge, k, none⟩) hge).trans (HEC.out k (by omega))
      have c2 := (hB.cell (p := ⟨ge, k + 1, none⟩) hge).trans (HEC.out (k + 1) hlt)
      have g1 := (hB.cell (p := ⟨g, 0, none⟩) hgW).trans f1
      have g2 := (hB.cell (p := ⟨g, 1, none⟩) hgW).trans f2
      have pX := HPE.out E[k] (List.getElem_mem _)
      have pY := HPE.out E[k + 1] (List.getElem_mem _)
      have hXY := asc_lt HAE.out.asc hlt (Nat.lt_succ_self k)
      have HSK := Lib.hid (fun h => HC.out.skip HAE.out hlt h)
      have HPU := Lib.hid (fun h1 h2 => HC.out.push HAE.out HRI.out HSO.out hlt h1 h2)
      have HJO := Lib.hid (fun O' x (e : O = O' ++ [x]) h1 h2 => (e ▸ HC.out : Coll b l ⟨p, n⟩ E k (O' ++ [x])).join HAE.out HRI.out HSO.out hlt h1 h2)
      have HNE := Lib.hid (fun O' x (e : O = O' ++ [x]) (h1 : x.e ≠ E[k]) => (e ▸ HC.out : Coll b l ⟨p, n⟩ E k (O' ++ [x])).ne (by omega) h1)
      have hsel : selP b l ⟨p, n⟩ E[k] ↔ if b = true then inn l E[k] ∨ inn [⟨p, n⟩] E[k] else inn l E[k] ∧ ¬ inn [⟨p, n⟩] E[k] := by
        have e : inn [(⟨p, n⟩ : Sp)] E[k] ↔ (⟨p, n⟩ : Sp).has E[k] := by
          rw [inn_cons]; exact ⟨fun h => h.elim (fun h => h) (fun h => absurd h (inn_nil _)), .inl⟩
        unfold selP; rw [e]
      have HI1 := Lib.hid (fun w' (h : SRow w' w'.heap.size v l) => inR v l E[k] w' h (fun x hx => (right_ok HRI.out x hx).1))
      have HI2 := Lib.hid (fun u w' (h : SRow w' w'.heap.size u [⟨p, n⟩]) => inR u [⟨p, n⟩] E[k] w' h (fun x hx => by rw [List.mem_singleton.1 hx]; exact HSO.out))
      have RR := Lib.hid ((R4.out.below hB).mono hBs)
      obtain ⟨X, hX⟩ : ∃ X, E[k] = X := ⟨_, rfl⟩
      obtain ⟨Y, hY⟩ : ∃ Y, E[k + 1] = Y := ⟨_, rfl⟩
      rw [hX] at c1 pX hsel HI1 HI2 HSK HPU HJO HNE hXY
      rw [hY] at c2 pY HPU HJO hXY
      obtain ⟨bi, hbi⟩ : ∃ x, decide (inn l X) = x := ⟨_, rfl⟩
      obtain ⟨ba, hba⟩ : ∃ x, decide (inn [(⟨p, n⟩ : Sp)] X) = x := ⟨_, rfl⟩
      rw [hbi] at HI1
      rw [hba] at HI2
      have hsel2 : selP b l ⟨p, n⟩ X ↔ (if b = true then bi || ba else bi && !ba) = true := by
        rw [hsel, ← hbi, ← hba]; cases b <;> simp
      have HSEL := Lib.hid hsel2
      clear hX hY hbi hba hsel hsel2
      obtain ⟨pX1, pX2⟩ := pX
      obtain ⟨pY1, pY2⟩ := pY
      have y1 : IntKind.i64.wrap ((k : Int) + 1) = (k : Int) + 1 := IntWalk.i64_in _ (by omega)
      have y2 : (k : Int) + 1 < E.length := by omega
      have y3 : (k : Int) < E.length := by omega
      have y4 : (0 : Int) ≤ (k : Int) + 1 := by omega
      have y5 : ((k : Int) + 1).toNat = k + 1 := by omega
      have y6 : (0 : Int) ≤ (k : Int) := by omega
      have y7 : IntKind.i64.wrap (Y - X) = Y - X := IntWalk.i64_in _ (by omega)
      go_wp2_with fail
      refine (HI1.out _ RR.out).mono ?_; rintro e w5 ⟨rfl, b5⟩
      have d1 := keep_below b5 c1
      have d2 := keep_below b5 c2
      have d3 := keep_below b5 g1
      have d4 := keep_below b5 g2
      have hB5 := chain hB b5 (Nat.le_refl _)
      replace HOV := Lib.hid (HOV.out.below b5)
      clear c1 c2 g1 g2 b5 hB hBs RR
      go_wp2_with fail
      go_region_held3 (fun w' => w'.cell? ⟨g, 0, none⟩ = some (.int .i64 p) ∧ w'.cell? ⟨g, 1, none⟩ = some (.int .i64 n) ∧ w'.cell? ⟨ge, k, none⟩ = some (.int .i64 X))
        (first | exact ⟨d3, d4, d1⟩ | exact ⟨keep_below (below_new w5 _) d3, keep_below (below_new w5 _) d4, keep_below (below_new w5 _) d1⟩ | exact ⟨keep_below b6 (keep_below (below_new w5 _) d3), keep_below b6 (keep_below (below_new w5 _) d4), keep_below b6 (keep_below (below_new w5 _) d1)⟩ | go_keep)
        (first
          | (go_at_call 41; refine (HI2.out _ _ ?_).mono ?_; (first | (with_reducible exact srow_one _ p n HWF.out) | exact srow_one w5 p n HWF.out); rintro e w6 ⟨rfl, b6⟩))
      have b6' : Below w5.heap.size w5 w6 := by first | exact (below_new w5 _).trans (b6.mono (by simp)) | exact ((below_new w5 _).drew).trans (b6.mono (by simp))
      have e1 := keep_below b6' d1
      have e2 := keep_below b6' d2
      have hB6 := chain hB5 b6' (Nat.le_refl _)
      replace HOV := Lib.hid (HOV.out.below b6')
      clear d1 d2 d3 d4 b6 b6' hB5 HI1 HI2
      cases b
      · cases bi
        · cases ba
          · have hn : ¬ selP false l ⟨p, n⟩ X := fun h => by have := HSEL.out.1 h; simp at this
            have HS := Lib.hid (HSK.out hn)
            clear hn HSEL
            repeat (((first | apply_assumption | (simp only [Exit.then, Exit.inBlock, if_true]; apply_assumption)); refine wp_hide2 fun QX HQ => ?_; go_wp2_with fail; refine HQ.out _ _ _ ?_))
            go_big_unhide
            change _ ∧ _
            go_big_round
            refine ⟨?rel, ?measure⟩
            case rel => exact OfRel.mk (k + 1) O (by go_num) (by omega) HS.out HOV.out hB6
            case measure => simp [intOf]; omega
          · have hn : ¬ selP false l ⟨p, n⟩ X := fun h => by have := HSEL.out.1 h; simp at this
            have HS := Lib.hid (HSK.out hn)
            clear hn HSEL
            repeat (((first | apply_assumption | (simp only [Exit.then, Exit.inBlock, if_true]; apply_assumption)); refine wp_hide2 fun QX HQ => ?_; go_wp2_with fail; refine HQ.out _ _ _ ?_))
            go_big_unhide
            change _ ∧ _
            go_big_round
            refine ⟨?rel, ?measure⟩
            case rel => exact OfRel.mk (k + 1) O (by go_num) (by omega) HS.out HOV.out hB6
            case measure => simp [intOf]; omega
        · cases ba
          · have hn : selP false l ⟨p, n⟩ X := HSEL.out.2 (by simp)
            have HPS := Lib.hid (fun h2 => HPU.out hn h2)
            have HJS := Lib.hid (fun O' x e h2 => HJO.out O' x e hn h2)
            clear hn HSEL
            rcases List.eq_nil_or_concat O with hO | ⟨O', x, hO⟩
            · have HP := Lib.hid (HPS.out (fun x hx => by rw [hO] at hx; simp at hx))
              rw [hO] at HP HOV
              have hrs : ∃ A cp, ro = .slice A 0 cp := by
                rcases HOV.out.form with ⟨rfl, _⟩ | ⟨go, cp, cur, rfl, _⟩
                · exact ⟨_, _, rfl⟩
                · exact ⟨_, _, rfl⟩
              obtain ⟨A, cp, rfl⟩ := hrs
              clear hO
              go_wp2_with fail
              first | (go_quiet (fail)) | skip
              have j1 : (w6.drewN nq).cell? ⟨ge, k, none⟩ = some (.int .i64 X) := e1
              have j2 : (w6.drewN nq).cell? ⟨ge, k + 1, none⟩ = some (.int .i64 Y) := e2
              have HO7 : Hid (Own (w6.drewN nq) w4.heap.size (.slice A 0 cp) ([] : List Sp)) := Lib.hid ⟨HOV.out.row, HOV.out.wf, HOV.out.len⟩
              have hB7 : Below w4.heap.size w4 (w6.drewN nq) := ⟨hB6.os, hB6.tape, hB6.output, hB6.size, hB6.block⟩
              generalize w6.drewN nq = w7 at *
              clear e1 e2 hB6 HOV
              have HW9 : Hid (Sp.wf ⟨X, Y - X⟩) := Lib.hid (by unfold Sp.wf; simp only; omega)
              have i1 : w7.drew.cell? ⟨ge, k, none⟩ = some (.int .i64 X) := j1
              have i2 : w7.drew.cell? ⟨ge, k + 1, none⟩ = some (.int .i64 Y) := j2
              have i3 : (w7.alloc (.cells #[.int .i64 X, .int .i64 (Y - X)] 24)).drew.cell? ⟨ge, k, none⟩ = some (.int .i64 X) := keep_below (below_new w7 _) j1
              have i4 : (w7.alloc (.cells #[.int .i64 X, .int .i64 (Y - X)] 24)).drew.cell? ⟨ge, k + 1, none⟩ = some (.int .i64 Y) := keep_below (below_new w7 _) j2
              have i5 : ∀ g, ((.slice A 0 cp) : Value).ownBlock = some g → ge ≠ g := fun g hg => by have := (HO7.out.row.lt g hg).1; omega
              have HLE : Hid ((([] : List Sp)).length ≤ 900) := Lib.hid (by simp)
              go_wp2_with fail
              go_region_held3 (fun w' => w'.cell? ⟨ge, k, none⟩ = some (.int .i64 X) ∧ w'.cell? ⟨ge, k + 1, none⟩ = some (.int .i64 Y))
                (first | (with_reducible exact ⟨i1, i2⟩) | (with_reducible exact ⟨i3, i4⟩) | (with_reducible exact ⟨grown_cell HG9.out i3 i5, grown_cell HG9.out i4 i5⟩) | go_keep)
                ((refine step_push_sp (by rfl) _ _ (by rfl) w4.heap.size (.slice A 0 cp) ([] : List Sp) w7.heap.size X (Y - X) (by kernel_rfl) (by kernel_rfl) (HO7.out.below (below_new w7 _)).drew (cells_new w7 _ _) HLE.out HW9.out (by have := hB7.size; simp; omega) ?_; intro v9 w12 HV9 HG9 HD9))
              have hfin := ((chain hB7 (below_new w7 (.cells #[.int .i64 X, .int .i64 (Y - X)] 24)) (Nat.le_refl _)).drew).trans (below_own HG9.out (HO7.out.below (below_new w7 _)).drew (Nat.le_refl _) (by have := hB7.size; simp; omega))
              repeat (((first | apply_assumption | (simp only [Exit.then, Exit.inBlock, if_true]; apply_assumption)); refine wp_hide2 fun QX HQ => ?_; go_wp2_with fail; refine HQ.out _ _ _ ?_))
              go_big_unhide
              change _ ∧ _
              go_big_round
              refine ⟨?rel, ?measure⟩
              case rel => exact OfRel.mk (k + 1) _ (by go_num) (by omega) HP.out HV9.out hfin
              case measure => simp [intOf]; omega
            · have hOn : O'.length + 1 = O.length := by rw [hO]; simp
              have HOEQ : Hid (O = O' ++ [x]) := by show _ = _; rw [hO]; simp
              have hx := (right_ok HC.out.right x (by rw [HOEQ.out]; simp)).1
              have HN2 := Lib.hid (fun h => HNE.out O' x HOEQ.out h)
              have HJ2 := Lib.hid (fun h => HJS.out O' x HOEQ.out h)
              have HPS2 : Hid ((∀ y ∈ O' ++ [x], y.e ≠ X) → Coll false l ⟨p, n⟩ E (k + 1) (O' ++ [x] ++ [⟨X, Y - X⟩])) := fun h => by have := HPS.out (by rw [HOEQ.out]; exact h); rw [HOEQ.out] at this; exact this
              have hov := HOV.out
              rw [HOEQ.out] at hov
              have hN2 : (∀ y ∈ O' ++ [x], y.e ≠ X) ∨ x.e = X := by
                by_cases h : x.e = X
                · exact .inr h
                · exact .inl (HN2.out h)
              have HN3 := Lib.hid hN2
              obtain ⟨N, hN⟩ : ∃ N, O'.length = N := ⟨_, rfl⟩
              have hlen : (O' ++ [x]).length = N + 1 := by simp; omega
              have hNb : N ≤ 300 := by omega
              obtain ⟨go, capo, cur, hro, hgo, hcu, v1, v2, v3, v4⟩ : ∃ g cap cur, ro = .slice (some ⟨g, 0, none⟩) (O' ++ [x]).length cap ∧ w4.heap.size ≤ g ∧ Cells w6 g cur ∧ (O' ++ [x]).length ≤ cap ∧ cap ≤ maxLen ∧ cur.length = cap * 2 ∧ cur.take ((O' ++ [x]).length * 2) = sc (O' ++ [x]) := by
                rcases hov.form with ⟨_, h⟩ | h
                · simp at h
                · exact h
              rw [hlen] at hro v1 v4
              have hcells : ∀ j, j < (N + 1) * 2 → w6.cell? ⟨go, j, none⟩ = (sc (O' ++ [x]))[j]? := fun j hj => by
                rw [hcu.cell, ← v4, List.getElem?_take, if_pos hj]
              have hs1 := sc_at (O' ++ [x]) N (by omega)
              have hgx : gt (O' ++ [x]) N = x := by
                have h9 : (O' ++ [x])[N]? = some x := by rw [← hN]; simp
                unfold gt
                rw [List.getD_eq_getElem?_getD, h9]; rfl
              rw [hgx] at hs1
              have z1 := (hcells (N * 2) (by omega)).trans hs1.1
              have z2 := (hcells (N * 2 + 1) (by omega)).trans hs1.2
              have hxe : x.e = x.p + x.n := rfl
              have HN9 := Lib.hid hN
              rw [hro] at hov
              have HOV2 := Lib.hid hov
              have HSTO := Lib.hid (fun w' (h : Own w' w4.heap.size (.slice (some ⟨go, 0, none⟩) (N + 1) capo) (O' ++ [x])) z hz => h.store hN z hz)
              subst hro
              have hfr : w6.frozen? ⟨go, N * 2 + 1, none⟩ = false := by unfold Cells at hcu; simp [World.frozen?, hcu]
              clear hO hov hN2 hcells hs1 hgx hcu v4 v3 v2 HOV
              obtain ⟨xp, hxp⟩ : ∃ a, x.p = a := ⟨_, rfl⟩
              obtain ⟨xn, hxn⟩ : ∃ a, x.n = a := ⟨_, rfl⟩
              unfold Sp.ok at hx
              rw [hxp, hxn] at hx hxe
              rw [hxp] at z1 HSTO
              rw [hxn] at z2
              have HXE := Lib.hid hxe
              have HXP := Lib.hid hxp
              clear hxp hxn hxe hlen hOn hN
              obtain ⟨o1, o2, o3, o4⟩ := hx
              have s1 : IntKind.i64.wrap ((N : Int) + 1 - 1) = N := by rw [IntWalk.i64_in _ (by omega)]; omega
              have s2 : (N : Int) + 1 - 1 = N := by omega
              have s3 : IntKind.i64.wrap (N : Int) = N := IntWalk.i64_in _ (by omega)
              have s4 : (0 : Int) ≤ N := by omega
              have s5 : (N : Int) < (N : Int) + 1 := by omega
              have s6 : IntKind.i64.wrap (xp + xn) = xp + xn := IntWalk.i64_in _ (by omega)
              have s7 : IntKind.i64.wrap (Y - xp) = Y - xp := IntWalk.i64_in _ (by omega)
              have s8 : decide ((0 : Int) < (N : Int) + 1) = true := by rw [decide_eq_true_iff]; omega
              by_cases hj : xp + xn = X
              · have hj' : (xp + xn == X) = true := by simp [hj]
                have HJ := Lib.hid (HJ2.out (by rw [HXE.out]; exact hj))
                rw [HXP.out] at HJ
                go_wp2_with fail
                go_quiet (fail)
                have j2 : (w6.drewN nq).cell? ⟨ge, k + 1, none⟩ = some (.int .i64 Y) := e2
                have j3 : (w6.drewN nq).cell? ⟨go, N * 2, none⟩ = some (.int .i64 xp) := z1
                have j4 : (w6.drewN nq).cell? ⟨go, N * 2 + 1, none⟩ = some (.int .i64 xn) := z2
                have j5 : (w6.drewN nq).frozen? ⟨go, N * 2 + 1, none⟩ = false := hfr
                have HO7 : Hid (Own (w6.drewN nq) w4.heap.size (.slice (some ⟨go, 0, none⟩) (N + 1) capo) (O' ++ [x])) := Lib.hid ⟨HOV2.out.row, HOV2.out.wf, HOV2.out.len⟩
                have hB7 : Below w4.heap.size w4 (w6.drewN nq) := ⟨hB6.os, hB6.tape, hB6.output, hB6.size, hB6.block⟩
                generalize w6.drewN nq = w7 at *
                clear e1 e2 hB6 HOV2 z1 z2 hfr
                have HW9 : Hid (Sp.wf ⟨xp, Y - xp⟩) := Lib.hid (by unfold Sp.wf; simp only; omega)
                have hgg : ¬ ge = go := by omega
                have HST := Lib.hid (HSTO.out w7 HO7.out (Y - xp) HW9.out).drew
                have HBT := Lib.hid (hB7.setCell (p := ⟨go, N * 2 + 1, none⟩) hgo (.int .i64 (Y - xp))).drew
                have i1 : w7.drew.cell? ⟨ge, k + 1, none⟩ = some (.int .i64 Y) := j2
                have i2 : w7.drew.cell? ⟨go, N * 2, none⟩ = some (.int .i64 xp) := j3
                have i3 : (w7.setCell ⟨go, N * 2 + 1, none⟩ (.int .i64 (Y - xp))).drew.cell? ⟨ge, k + 1, none⟩ = some (.int .i64 Y) := (World.cell?_setCell_other w7 _ _ _ (by intro e; injection e with a1 a2 _; omega)).trans j2
                have i4 : (w7.setCell ⟨go, N * 2 + 1, none⟩ (.int .i64 (Y - xp))).drew.cell? ⟨go, N * 2, none⟩ = some (.int .i64 xp) := (World.cell?_setCell_other w7 _ _ _ (by intro e; injection e with a1 a2 _; omega)).trans j3
                go_wp2_with fail
                go_region_held3 (fun w' => w'.cell? ⟨ge, k + 1, none⟩ = some (.int .i64 Y) ∧ w'.cell? ⟨go, N * 2, none⟩ = some (.int .i64 xp))
                  (first | (with_reducible exact ⟨i1, i2⟩) | (with_reducible exact ⟨i3, i4⟩) | go_keep)
                  (fail)
                repeat (((first | apply_assumption | (simp only [Exit.then, Exit.inBlock, if_true]; apply_assumption)); refine wp_hide2 fun QX HQ => ?_; go_wp2_with fail; refine HQ.out _ _ _ ?_))
                go_big_unhide
                change _ ∧ _
                go_big_round
                refine ⟨?rel, ?measure⟩
                case rel => exact OfRel.mk (k + 1) _ (by go_num) (by omega) HJ.out HST.out HBT.out
                case measure => simp [intOf]; omega
              · have hj' : (xp + xn == X) = false := by simp [hj]
                have HP := Lib.hid (HPS2.out (HN3.out.elim (fun h => h) (fun h => absurd (HXE.out ▸ h) hj)))
                go_wp2_with fail
                go_quiet (fail)
                have j1 : (w6.drewN nq).cell? ⟨ge, k, none⟩ = some (.int .i64 X) := e1
                have j2 : (w6.drewN nq).cell? ⟨ge, k + 1, none⟩ = some (.int .i64 Y) := e2
                have HO7 : Hid (Own (w6.drewN nq) w4.heap.size (.slice (some ⟨go, 0, none⟩) (N + 1) capo) (O' ++ [x])) := Lib.hid ⟨HOV2.out.row, HOV2.out.wf, HOV2.out.len⟩
                have hB7 : Below w4.heap.size w4 (w6.drewN nq) := ⟨hB6.os, hB6.tape, hB6.output, hB6.size, hB6.block⟩
                generalize w6.drewN nq = w7 at *
                clear e1 e2 hB6 HOV2
                have HW9 : Hid (Sp.wf ⟨X, Y - X⟩) := Lib.hid (by unfold Sp.wf; simp only; omega)
                have i1 : w7.drew.cell? ⟨ge, k, none⟩ = some (.int .i64 X) := j1
                have i2 : w7.drew.cell? ⟨ge, k + 1, none⟩ = some (.int .i64 Y) := j2
                have i3 : (w7.alloc (.cells #[.int .i64 X, .int .i64 (Y - X)] 24)).drew.cell? ⟨ge, k, none⟩ = some (.int .i64 X) := keep_below (below_new w7 _) j1
                have i4 : (w7.alloc (.cells #[.int .i64 X, .int .i64 (Y - X)] 24)).drew.cell? ⟨ge, k + 1, none⟩ = some (.int .i64 Y) := keep_below (below_new w7 _) j2
                have i5 : ∀ g, ((.slice (some ⟨go, 0, none⟩) (N + 1) capo) : Value).ownBlock = some g → ge ≠ g := fun g hg => by have := (HO7.out.row.lt g hg).1; omega
                have HLE : Hid (((O' ++ [x])).length ≤ 900) := Lib.hid (by rw [List.length_append, HN9.out]; simp only [List.length_singleton]; omega)
                go_wp2_with fail
                go_region_held3 (fun w' => w'.cell? ⟨ge, k, none⟩ = some (.int .i64 X) ∧ w'.cell? ⟨ge, k + 1, none⟩ = some (.int .i64 Y))
                  (first | (with_reducible exact ⟨i1, i2⟩) | (with_reducible exact ⟨i3, i4⟩) | (with_reducible exact ⟨grown_cell HG9.out i3 i5, grown_cell HG9.out i4 i5⟩) | go_keep)
                  ((refine step_push_sp (by rfl) _ _ (by rfl) w4.heap.size (.slice (some ⟨go, 0, none⟩) (N + 1) capo) (O' ++ [x]) w7.heap.size X (Y - X) (by kernel_rfl) (by kernel_rfl) (HO7.out.below (below_new w7 _)).drew (cells_new w7 _ _) HLE.out HW9.out (by have := hB7.size; simp; omega) ?_; intro v9 w12 HV9 HG9 HD9))
                have hfin := ((chain hB7 (below_new w7 (.cells #[.int .i64 X, .int .i64 (Y - X)] 24)) (Nat.le_refl _)).drew).trans (below_own HG9.out (HO7.out.below (below_new w7 _)).drew (Nat.le_refl _) (by have := hB7.size; simp; omega))
                repeat (((first | apply_assumption | (simp only [Exit.then, Exit.inBlock, if_true]; apply_assumption)); refine wp_hide2 fun QX HQ => ?_; go_wp2_with fail; refine HQ.out _ _ _ ?_))
                go_big_unhide
                change _ ∧ _
                go_big_round
                refine ⟨?rel, ?measure⟩
                case rel => exact OfRel.mk (k + 1) _ (by go_num) (by omega) HP.out HV9.out hfin
                case measure => simp [intOf]; omega
          · have hn : ¬ selP false l ⟨p, n⟩ X := fun h => by have := HSEL.out.1 h; simp at this
            have HS := Lib.hid (HSK.out hn)
            clear hn HSEL
            repeat (((first | apply_assumption | (simp only [Exit.then, Exit.inBlock, if_true]; apply_assumption)); refine wp_hide2 fun QX HQ => ?_; go_wp2_with fail; refine HQ.out _ _ _ ?_))
            go_big_unhide
            change _ ∧ _
            go_big_round
            refine ⟨?rel, ?measure⟩
            case rel => exact OfRel.mk (k + 1) O (by go_num) (by omega) HS.out HOV.out hB6
            case measure => simp [intOf]; omega
      · cases bi
        · cases ba
          · have hn : ¬ selP true l ⟨p, n⟩ X := fun h => by have := HSEL.out.1 h; simp at this
            have HS := Lib.hid (HSK.out hn)
            clear hn HSEL
            repeat (((first | apply_assumption | (simp only [Exit.then, Exit.inBlock, if_true]; apply_assumption)); refine wp_hide2 fun QX HQ => ?_; go_wp2_with fail; refine HQ.out _ _ _ ?_))
            go_big_unhide
            change _ ∧ _
            go_big_round
            refine ⟨?rel, ?measure⟩
            case rel => exact OfRel.mk (k + 1) O (by go_num) (by omega) HS.out HOV.out hB6
            case measure => simp [intOf]; omega
          · have hn : selP true l ⟨p, n⟩ X := HSEL.out.2 (by simp)
            have HPS := Lib.hid (fun h2 => HPU.out hn h2)
            have HJS := Lib.hid (fun O' x e h2 => HJO.out O' x e hn h2)
            clear hn HSEL
            rcases List.eq_nil_or_concat O with hO | ⟨O', x, hO⟩
            · have HP := Lib.hid (HPS.out (fun x hx => by rw [hO] at hx; simp at hx))
              rw [hO] at HP HOV
              have hrs : ∃ A cp, ro = .slice A 0 cp := by
                rcases HOV.out.form with ⟨rfl, _⟩ | ⟨go, cp, cur, rfl, _⟩
                · exact ⟨_, _, rfl⟩
                · exact ⟨_, _, rfl⟩
              obtain ⟨A, cp, rfl⟩ := hrs
              clear hO
              go_wp2_with fail
              first | (go_quiet (fail)) | skip
              have j1 : (w6.drewN nq).cell? ⟨ge, k, none⟩ = some (.int .i64 X) := e1
              have j2 : (w6.drewN nq).cell? ⟨ge, k + 1, none⟩ = some (.int .i64 Y) := e2
              have HO7 : Hid (Own (w6.drewN nq) w4.heap.size (.slice A 0 cp) ([] : List Sp)) := Lib.hid ⟨HOV.out.row, HOV.out.wf, HOV.out.len⟩
              have hB7 : Below w4.heap.size w4 (w6.drewN nq) := ⟨hB6.os, hB6.tape, hB6.output, hB6.size, hB6.block⟩
              generalize w6.drewN nq = w7 at *
              clear e1 e2 hB6 HOV
              have HW9 : Hid (Sp.wf ⟨X, Y - X⟩) := Lib.hid (by unfold Sp.wf; simp only; omega)
              have i1 : w7.drew.cell? ⟨ge, k, none⟩ = some (.int .i64 X) := j1
              have i2 : w7.drew.cell? ⟨ge, k + 1, none⟩ = some (.int .i64 Y) := j2
              have i3 : (w7.alloc (.cells #[.int .i64 X, .int .i64 (Y - X)] 24)).drew.cell? ⟨ge, k, none⟩ = some (.int .i64 X) := keep_below (below_new w7 _) j1
              have i4 : (w7.alloc (.cells #[.int .i64 X, .int .i64 (Y - X)] 24)).drew.cell? ⟨ge, k + 1, none⟩ = some (.int .i64 Y) := keep_below (below_new w7 _) j2
              have i5 : ∀ g, ((.slice A 0 cp) : Value).ownBlock = some g → ge ≠ g := fun g hg => by have := (HO7.out.row.lt g hg).1; omega
              have HLE : Hid ((([] : List Sp)).length ≤ 900) := Lib.hid (by simp)
              go_wp2_with fail
              go_region_held3 (fun w' => w'.cell? ⟨ge, k, none⟩ = some (.int .i64 X) ∧ w'.cell? ⟨ge, k + 1, none⟩ = some (.int .i64 Y))
                (first | (with_reducible exact ⟨i1, i2⟩) | (with_reducible exact ⟨i3, i4⟩) | (with_reducible exact ⟨grown_cell HG9.out i3 i5, grown_cell HG9.out i4 i5⟩) | go_keep)
                ((refine step_push_sp (by rfl) _ _ (by rfl) w4.heap.size (.slice A 0 cp) ([] : List Sp) w7.heap.size X (Y - X) (by kernel_rfl) (by kernel_rfl) (HO7.out.below (below_new w7 _)).drew (cells_new w7 _ _) HLE.out HW9.out (by have := hB7.size; simp; omega) ?_; intro v9 w12 HV9 HG9 HD9))
              have hfin := ((chain hB7 (below_new w7 (.cells #[.int .i64 X, .int .i64 (Y - X)] 24)) (Nat.le_refl _)).drew).trans (below_own HG9.out (HO7.out.below (below_new w7 _)).drew (Nat.le_refl _) (by have := hB7.size; simp; omega))
              repeat (((first | apply_assumption | (simp only [Exit.then, Exit.inBlock, if_true]; apply_assumption)); refine wp_hide2 fun QX HQ => ?_; go_wp2_with fail; refine HQ.out _ _ _ ?_))
              go_big_unhide
              change _ ∧ _
              go_big_round
              refine ⟨?rel, ?measure⟩
              case rel => exact OfRel.mk (k + 1) _ (by go_num) (by omega) HP.out HV9.out hfin
              case measure => simp [intOf]; omega
            · have hOn : O'.length + 1 = O.length := by rw [hO]; simp
              have HOEQ : Hid (O = O' ++ [x]) := by show _ = _; rw [hO]; simp
              have hx := (right_ok HC.out.right x (by rw [HOEQ.out]; simp)).1
              have HN2 := Lib.hid (fun h => HNE.out O' x HOEQ.out h)
              have HJ2 := Lib.hid (fun h => HJS.out O' x HOEQ.out h)
              have HPS2 : Hid ((∀ y ∈ O' ++ [x], y.e ≠ X) → Coll true l ⟨p, n⟩ E (k + 1) (O' ++ [x] ++ [⟨X, Y - X⟩])) := fun h => by have := HPS.out (by rw [HOEQ.out]; exact h); rw [HOEQ.out] at this; exact this
              have hov := HOV.out
              rw [HOEQ.out] at hov
              have hN2 : (∀ y ∈ O' ++ [x], y.e ≠ X) ∨ x.e = X := by
                by_cases h : x.e = X
                · exact .inr h
                · exact .inl (HN2.out h)
              have HN3 := Lib.hid hN2
              obtain ⟨N, hN⟩ : ∃ N, O'.length = N := ⟨_, rfl⟩
              have hlen : (O' ++ [x]).length = N + 1 := by simp; omega
              have hNb : N ≤ 300 := by omega
              obtain ⟨go, capo, cur, hro, hgo, hcu, v1, v2, v3, v4⟩ : ∃ g cap cur, ro = .slice (some ⟨g, 0, none⟩) (O' ++ [x]).length cap ∧ w4.heap.size ≤ g ∧ Cells w6 g cur ∧ (O' ++ [x]).length ≤ cap ∧ cap ≤ maxLen ∧ cur.length = cap * 2 ∧ cur.take ((O' ++ [x]).length * 2) = sc (O' ++ [x]) := by
                rcases hov.form with ⟨_, h⟩ | h
                · simp at h
                · exact h
              rw [hlen] at hro v1 v4
              have hcells : ∀ j, j < (N + 1) * 2 → w6.cell? ⟨go, j, none⟩ = (sc (O' ++ [x]))[j]? := fun j hj => by
                rw [hcu.cell, ← v4, List.getElem?_take, if_pos hj]
              have hs1 := sc_at (O' ++ [x]) N (by omega)
              have hgx : gt (O' ++ [x]) N = x := by
                have h9 : (O' ++ [x])[N]? = some x := by rw [← hN]; simp
                unfold gt
                rw [List.getD_eq_getElem?_getD, h9]; rfl
              rw [hgx] at hs1
              have z1 := (hcells (N * 2) (by omega)).trans hs1.1
              have z2 := (hcells (N * 2 + 1) (by omega)).trans hs1.2
              have hxe : x.e = x.p + x.n := rfl
              have HN9 := Lib.hid hN
              rw [hro] at hov
              have HOV2 := Lib.hid hov
              have HSTO := Lib.hid (fun w' (h : Own w' w4.heap.size (.slice (some ⟨go, 0, none⟩) (N + 1) capo) (O' ++ [x])) z hz => h.store hN z hz)
              subst hro
              have hfr : w6.frozen? ⟨go, N * 2 + 1, none⟩ = false := by unfold Cells at hcu; simp [World.frozen?, hcu]
              clear hO hov hN2 hcells hs1 hgx hcu v4 v3 v2 HOV
              obtain ⟨xp, hxp⟩ : ∃ a, x.p = a := ⟨_, rfl⟩
              obtain ⟨xn, hxn⟩ : ∃ a, x.n = a := ⟨_, rfl⟩
              unfold Sp.ok at hx
              rw [hxp, hxn] at hx hxe
              rw [hxp] at z1 HSTO
              rw [hxn] at z2
              have HXE := Lib.hid hxe
              have HXP := Lib.hid hxp
              clear hxp hxn hxe hlen hOn hN
              obtain ⟨o1, o2, o3, o4⟩ := hx
              have s1 : IntKind.i64.wrap ((N : Int) + 1 - 1) = N := by rw [IntWalk.i64_in _ (by omega)]; omega
              have s2 : (N : Int) + 1 - 1 = N := by omega
              have s3 : IntKind.i64.wrap (N : Int) = N := IntWalk.i64_in _ (by omega)
              have s4 : (0 : Int) ≤ N := by omega
              have s5 : (N : Int) < (N : Int) + 1 := by omega
              have s6 : IntKind.i64.wrap (xp + xn) = xp + xn := IntWalk.i64_in _ (by omega)
              have s7 : IntKind.i64.wrap (Y - xp) = Y - xp := IntWalk.i64_in _ (by omega)
              have s8 : decide ((0 : Int) < (N : Int) + 1) = true := by rw [decide_eq_true_iff]; omega
              by_cases hj : xp + xn = X
              · have hj' : (xp + xn == X) = true := by simp [hj]
                have HJ := Lib.hid (HJ2.out (by rw [HXE.out]; exact hj))
                rw [HXP.out] at HJ
                go_wp2_with fail
                go_quiet (fail)
                have j2 : (w6.drewN nq).cell? ⟨ge, k + 1, none⟩ = some (.int .i64 Y) := e2
                have j3 : (w6.drewN nq).cell? ⟨go, N * 2, none⟩ = some (.int .i64 xp) := z1
                have j4 : (w6.drewN nq).cell? ⟨go, N * 2 + 1, none⟩ = some (.int .i64 xn) := z2
                have j5 : (w6.drewN nq).frozen? ⟨go, N * 2 + 1, none⟩ = false := hfr
                have HO7 : Hid (Own (w6.drewN nq) w4.heap.size (.slice (some ⟨go, 0, none⟩) (N + 1) capo) (O' ++ [x])) := Lib.hid ⟨HOV2.out.row, HOV2.out.wf, HOV2.out.len⟩
                have hB7 : Below w4.heap.size w4 (w6.drewN nq) := ⟨hB6.os, hB6.tape, hB6.output, hB6.size, hB6.block⟩
                generalize w6.drewN nq = w7 at *
                clear e1 e2 hB6 HOV2 z1 z2 hfr
                have HW9 : Hid (Sp.wf ⟨xp, Y - xp⟩) := Lib.hid (by unfold Sp.wf; simp only; omega)
                have hgg : ¬ ge = go := by omega
                have HST := Lib.hid (HSTO.out w7 HO7.out (Y - xp) HW9.out).drew
                have HBT := Lib.hid (hB7.setCell (p := ⟨go, N * 2 + 1, none⟩) hgo (.int .i64 (Y - xp))).drew
                have i1 : w7.drew.cell? ⟨ge, k + 1, none⟩ = some (.int .i64 Y) := j2
                have i2 : w7.drew.cell? ⟨go, N * 2, none⟩ = some (.int .i64 xp) := j3
                have i3 : (w7.setCell ⟨go, N * 2 + 1, none⟩ (.int .i64 (Y - xp))).drew.cell? ⟨ge, k + 1, none⟩ = some (.int .i64 Y) := (World.cell?_setCell_other w7 _ _ _ (by intro e; injection e with a1 a2 _; omega)).trans j2
                have i4 : (w7.setCell ⟨go, N * 2 + 1, none⟩ (.int .i64 (Y - xp))).drew.cell? ⟨go, N * 2, none⟩ = some (.int .i64 xp) := (World.cell?_setCell_other w7 _ _ _ (by intro e; injection e with a1 a2 _; omega)).trans j3
                go_wp2_with fail
                go_region_held3 (fun w' => w'.cell? ⟨ge, k + 1, none⟩ = some (.int .i64 Y) ∧ w'.cell? ⟨go, N * 2, none⟩ = some (.int .i64 xp))
                  (first | (with_reducible exact ⟨i1, i2⟩) | (with_reducible exact ⟨i3, i4⟩) | go_keep)
                  (fail)
                repeat (((first | apply_assumption | (simp only [Exit.then, Exit.inBlock, if_true]; apply_assumption)); refine wp_hide2 fun QX HQ => ?_; go_wp2_with fail; refine HQ.out _ _ _ ?_))
                go_big_unhide
                change _ ∧ _
                go_big_round
                refine ⟨?rel, ?measure⟩
                case rel => exact OfRel.mk (k + 1) _ (by go_num) (by omega) HJ.out HST.out HBT.out
                case measure => simp [intOf]; omega
              · have hj' : (xp + xn == X) = false := by simp [hj]
                have HP := Lib.hid (HPS2.out (HN3.out.elim (fun h => h) (fun h => absurd (HXE.out ▸ h) hj)))
                go_wp2_with fail
                go_quiet (fail)
                have j1 : (w6.drewN nq).cell? ⟨ge, k, none⟩ = some (.int .i64 X) := e1
                have j2 : (w6.drewN nq).cell? ⟨ge, k + 1, none⟩ = some (.int .i64 Y) := e2
                have HO7 : Hid (Own (w6.drewN nq) w4.heap.size (.slice (some ⟨go, 0, none⟩) (N + 1) capo) (O' ++ [x])) := Lib.hid ⟨HOV2.out.row, HOV2.out.wf, HOV2.out.len⟩
                have hB7 : Below w4.heap.size w4 (w6.drewN nq) := ⟨hB6.os, hB6.tape, hB6.output, hB6.size, hB6.block⟩
                generalize w6.drewN nq = w7 at *
                clear e1 e2 hB6 HOV2
                have HW9 : Hid (Sp.wf ⟨X, Y - X⟩) := Lib.hid (by unfold Sp.wf; simp only; omega)
                have i1 : w7.drew.cell? ⟨ge, k, none⟩ = some (.int .i64 X) := j1
                have i2 : w7.drew.cell? ⟨ge, k + 1, none⟩ = some (.int .i64 Y) := j2
                have i3 : (w7.alloc (.cells #[.int .i64 X, .int .i64 (Y - X)] 24)).drew.cell? ⟨ge, k, none⟩ = some (.int .i64 X) := keep_below (below_new w7 _) j1
                have i4 : (w7.alloc (.cells #[.int .i64 X, .int .i64 (Y - X)] 24)).drew.cell? ⟨ge, k + 1, none⟩ = some (.int .i64 Y) := keep_below (below_new w7 _) j2
                have i5 : ∀ g, ((.slice (some ⟨go, 0, none⟩) (N + 1) capo) : Value).ownBlock = some g → ge ≠ g := fun g hg => by have := (HO7.out.row.lt g hg).1; omega
                have HLE : Hid (((O' ++ [x])).length ≤ 900) := Lib.hid (by rw [List.length_append, HN9.out]; simp only [List.length_singleton]; omega)
                go_wp2_with fail
                go_region_held3 (fun w' => w'.cell? ⟨ge, k, none⟩ = some (.int .i64 X) ∧ w'.cell? ⟨ge, k + 1, none⟩ = some (.int .i64 Y))
                  (first | (with_reducible exact ⟨i1, i2⟩) | (with_reducible exact ⟨i3, i4⟩) | (with_reducible exact ⟨grown_cell HG9.out i3 i5, grown_cell HG9.out i4 i5⟩) | go_keep)
                  ((refine step_push_sp (by rfl) _ _ (by rfl) w4.heap.size (.slice (some ⟨go, 0, none⟩) (N + 1) capo) (O' ++ [x]) w7.heap.size X (Y - X) (by kernel_rfl) (by kernel_rfl) (HO7.out.below (below_new w7 _)).drew (cells_new w7 _ _) HLE.out HW9.out (by have := hB7.size; simp; omega) ?_; intro v9 w12 HV9 HG9 HD9))
                have hfin := ((chain hB7 (below_new w7 (.cells #[.int .i64 X, .int .i64 (Y - X)] 24)) (Nat.le_refl _)).drew).trans (below_own HG9.out (HO7.out.below (below_new w7 _)).drew (Nat.le_refl _) (by have := hB7.size; simp; omega))
                repeat (((first | apply_assumption | (simp only [Exit.then, Exit.inBlock, if_true]; apply_assumption)); refine wp_hide2 fun QX HQ => ?_; go_wp2_with fail; refine HQ.out _ _ _ ?_))
                go_big_unhide
                change _ ∧ _
                go_big_round
                refine ⟨?rel, ?measure⟩
                case rel => exact OfRel.mk (k + 1) _ (by go_num) (by omega) HP.out HV9.out hfin
                case measure => simp [intOf]; omega
        · cases ba
          · have hn : selP true l ⟨p, n⟩ X := HSEL.out.2 (by simp)
            have HPS := Lib.hid (fun h2 => HPU.out hn h2)
            have HJS := Lib.hid (fun O' x e h2 => HJO.out O' x e hn h2)
            clear hn HSEL
            rcases List.eq_nil_or_concat O with hO | ⟨O', x, hO⟩
            · have HP := Lib.hid (HPS.out (fun x hx => by rw [hO] at hx; simp at hx))
              rw [hO] at HP HOV
              have hrs : ∃ A cp, ro = .slice A 0 cp := by
                rcases HOV.out.form with ⟨rfl, _⟩ | ⟨go, cp, cur, rfl, _⟩
                · exact ⟨_, _, rfl⟩
                · exact ⟨_, _, rfl⟩
              obtain ⟨A, cp, rfl⟩ := hrs
              clear hO
              go_wp2_with fail
              first | (go_quiet (fail)) | skip
              have j1 : (w6.drewN nq).cell? ⟨ge, k, none⟩ = some (.int .i64 X) := e1
              have j2 : (w6.drewN nq).cell? ⟨ge, k + 1, none⟩ = some (.int .i64 Y) := e2
              have HO7 : Hid (Own (w6.drewN nq) w4.heap.size (.slice A 0 cp) ([] : List Sp)) := Lib.hid ⟨HOV.out.row, HOV.out.wf, HOV.out.len⟩
              have hB7 : Below w4.heap.size w4 (w6.drewN nq) := ⟨hB6.os, hB6.tape, hB6.output, hB6.size, hB6.block⟩
              generalize w6.drewN nq = w7 at *
              clear e1 e2 hB6 HOV
              have HW9 : Hid (Sp.wf ⟨X, Y - X⟩) := Lib.hid (by unfold Sp.wf; simp only; omega)
              have i1 : w7.drew.cell? ⟨ge, k, none⟩ = some (.int .i64 X) := j1
              have i2 : w7.drew.cell? ⟨ge, k + 1, none⟩ = some (.int .i64 Y) := j2
              have i3 : (w7.alloc (.cells #[.int .i64 X, .int .i64 (Y - X)] 24)).drew.cell? ⟨ge, k, none⟩ = some (.int .i64 X) := keep_below (below_new w7 _) j1
              have i4 : (w7.alloc (.cells #[.int .i64 X, .int .i64 (Y - X)] 24)).drew.cell? ⟨ge, k + 1, none⟩ = some (.int .i64 Y) := keep_below (below_new w7 _) j2
              have i5 : ∀ g, ((.slice A 0 cp) : Value).ownBlock = some g → ge ≠ g := fun g hg => by have := (HO7.out.row.lt g hg).1; omega
              have HLE : Hid ((([] : List Sp)).length ≤ 900) := Lib.hid (by simp)
              go_wp2_with fail
              go_region_held3 (fun w' => w'.cell? ⟨ge, k, none⟩ = some (.int .i64 X) ∧ w'.cell? ⟨ge, k + 1, none⟩ = some (.int .i64 Y))
                (first | (with_reducible exact ⟨i1, i2⟩) | (with_reducible exact ⟨i3, i4⟩) | (with_reducible exact ⟨grown_cell HG9.out i3 i5, grown_cell HG9.out i4 i5⟩) | go_keep)
                ((refine step_push_sp (by rfl) _ _ (by rfl) w4.heap.size (.slice A 0 cp) ([] : List Sp) w7.heap.size X (Y - X) (by kernel_rfl) (by kernel_rfl) (HO7.out.below (below_new w7 _)).drew (cells_new w7 _ _) HLE.out HW9.out (by have := hB7.size; simp; omega) ?_; intro v9 w12 HV9 HG9 HD9))
              have hfin := ((chain hB7 (below_new w7 (.cells #[.int .i64 X, .int .i64 (Y - X)] 24)) (Nat.le_refl _)).drew).trans (below_own HG9.out (HO7.out.below (below_new w7 _)).drew (Nat.le_refl _) (by have := hB7.size; simp; omega))
              repeat (((first | apply_assumption | (simp only [Exit.then, Exit.inBlock, if_true]; apply_assumption)); refine wp_hide2 fun QX HQ => ?_; go_wp2_with fail; refine HQ.out _ _ _ ?_))
              go_big_unhide
              change _ ∧ _
              go_big_round
              refine ⟨?rel, ?measure⟩
              case rel => exact OfRel.mk (k + 1) _ (by go_num) (by omega) HP.out HV9.out hfin
              case measure => simp [intOf]; omega
            · have hOn : O'.length + 1 = O.length := by rw [hO]; simp
              have HOEQ : Hid (O = O' ++ [x]) := by show _ = _; rw [hO]; simp
              have hx := (right_ok HC.out.right x (by rw [HOEQ.out]; simp)).1
              have HN2 := Lib.hid (fun h => HNE.out O' x HOEQ.out h)
              have HJ2 := Lib.hid (fun h => HJS.out O' x HOEQ.out h)
              have HPS2 : Hid ((∀ y ∈ O' ++ [x], y.e ≠ X) → Coll true l ⟨p, n⟩ E (k + 1) (O' ++ [x] ++ [⟨X, Y - X⟩])) := fun h => by have := HPS.out (by rw [HOEQ.out]; exact h); rw [HOEQ.out] at this; exact this
              have hov := HOV.out
              rw [HOEQ.out] at hov
              have hN2 : (∀ y ∈ O' ++ [x], y.e ≠ X) ∨ x.e = X := by
                by_cases h : x.e = X
                · exact .inr h
                · exact .inl (HN2.out h)
              have HN3 := Lib.hid hN2
              obtain ⟨N, hN⟩ : ∃ N, O'.length = N := ⟨_, rfl⟩
              have hlen : (O' ++ [x]).length = N + 1 := by simp; omega
              have hNb : N ≤ 300 := by omega
              obtain ⟨go, capo, cur, hro, hgo, hcu, v1, v2, v3, v4⟩ : ∃ g cap cur, ro = .slice (some ⟨g, 0, none⟩) (O' ++ [x]).length cap ∧ w4.heap.size ≤ g ∧ Cells w6 g cur ∧ (O' ++ [x]).length ≤ cap ∧ cap ≤ maxLen ∧ cur.length = cap * 2 ∧ cur.take ((O' ++ [x]).length * 2) = sc (O' ++ [x]) := by
                rcases hov.form with ⟨_, h⟩ | h
                · simp at h
                · exact h
              rw [hlen] at hro v1 v4
              have hcells : ∀ j, j < (N + 1) * 2 → w6.cell? ⟨go, j, none⟩ = (sc (O' ++ [x]))[j]? := fun j hj => by
                rw [hcu.cell, ← v4, List.getElem?_take, if_pos hj]
              have hs1 := sc_at (O' ++ [x]) N (by omega)
              have hgx : gt (O' ++ [x]) N = x := by
                have h9 : (O' ++ [x])[N]? = some x := by rw [← hN]; simp
                unfold gt
                rw [List.getD_eq_getElem?_getD, h9]; rfl
              rw [hgx] at hs1
              have z1 := (hcells (N * 2) (by omega)).trans hs1.1
              have z2 := (hcells (N * 2 + 1) (by omega)).trans hs1.2
              have hxe : x.e = x.p + x.n := rfl
              have HN9 := Lib.hid hN
              rw [hro] at hov
              have HOV2 := Lib.hid hov
              have HSTO := Lib.hid (fun w' (h : Own w' w4.heap.size (.slice (some ⟨go, 0, none⟩) (N + 1) capo) (O' ++ [x])) z hz => h.store hN z hz)
              subst hro
              have hfr : w6.frozen? ⟨go, N * 2 + 1, none⟩ = false := by unfold Cells at hcu; simp [World.frozen?, hcu]
              clear hO hov hN2 hcells hs1 hgx hcu v4 v3 v2 HOV
              obtain ⟨xp, hxp⟩ : ∃ a, x.p = a := ⟨_, rfl⟩
              obtain ⟨xn, hxn⟩ : ∃ a, x.n = a := ⟨_, rfl⟩
              unfold Sp.ok at hx
              rw [hxp, hxn] at hx hxe
              rw [hxp] at z1 HSTO
              rw [hxn] at z2
              have HXE := Lib.hid hxe
              have HXP := Lib.hid hxp
              clear hxp hxn hxe hlen hOn hN
              obtain ⟨o1, o2, o3, o4⟩ := hx
              have s1 : IntKind.i64.wrap ((N : Int) + 1 - 1) = N := by rw [IntWalk.i64_in _ (by omega)]; omega
              have s2 : (N : Int) + 1 - 1 = N := by omega
              have s3 : IntKind.i64.wrap (N : Int) = N := IntWalk.i64_in _ (by omega)
              have s4 : (0 : Int) ≤ N := by omega
              have s5 : (N : Int) < (N : Int) + 1 := by omega
              have s6 : IntKind.i64.wrap (xp + xn) = xp + xn := IntWalk.i64_in _ (by omega)
              have s7 : IntKind.i64.wrap (Y - xp) = Y - xp := IntWalk.i64_in _ (by omega)
              have s8 : decide ((0 : Int) < (N : Int) + 1) = true := by rw [decide_eq_true_iff]; omega
              by_cases hj : xp + xn = X
              · have hj' : (xp + xn == X) = true := by simp [hj]
                have HJ := Lib.hid (HJ2.out (by rw [HXE.out]; exact hj))
                rw [HXP.out] at HJ
                go_wp2_with fail
                go_quiet (fail)
                have j2 : (w6.drewN nq).cell? ⟨ge, k + 1, none⟩ = some (.int .i64 Y) := e2
                have j3 : (w6.drewN nq).cell? ⟨go, N * 2, none⟩ = some (.int .i64 xp) := z1
                have j4 : (w6.drewN nq).cell? ⟨go, N * 2 + 1, none⟩ = some (.int .i64 xn) := z2
                have j5 : (w6.drewN nq).frozen? ⟨go, N * 2 + 1, none⟩ = false := hfr
                have HO7 : Hid (Own (w6.drewN nq) w4.heap.size (.slice (some ⟨go, 0, none⟩) (N + 1) capo) (O' ++ [x])) := Lib.hid ⟨HOV2.out.row, HOV2.out.wf, HOV2.out.len⟩
                have hB7 : Below w4.heap.size w4 (w6.drewN nq) := ⟨hB6.os, hB6.tape, hB6.output, hB6.size, hB6.block⟩
                generalize w6.drewN nq = w7 at *
                clear e1 e2 hB6 HOV2 z1 z2 hfr
                have HW9 : Hid (Sp.wf ⟨xp, Y - xp⟩) := Lib.hid (by unfold Sp.wf; simp only; omega)
                have hgg : ¬ ge = go := by omega
                have HST := Lib.hid (HSTO.out w7 HO7.out (Y - xp) HW9.out).drew
                have HBT := Lib.hid (hB7.setCell (p := ⟨go, N * 2 + 1, none⟩) hgo (.int .i64 (Y - xp))).drew
                have i1 : w7.drew.cell? ⟨ge, k + 1, none⟩ = some (.int .i64 Y) := j2
                have i2 : w7.drew.cell? ⟨go, N * 2, none⟩ = some (.int .i64 xp) := j3
                have i3 : (w7.setCell ⟨go, N * 2 + 1, none⟩ (.int .i64 (Y - xp))).drew.cell? ⟨ge, k + 1, none⟩ = some (.int .i64 Y) := (World.cell?_setCell_other w7 _ _ _ (by intro e; injection e with a1 a2 _; omega)).trans j2
                have i4 : (w7.setCell ⟨go, N * 2 + 1, none⟩ (.int .i64 (Y - xp))).drew.cell? ⟨go, N * 2, none⟩ = some (.int .i64 xp) := (World.cell?_setCell_other w7 _ _ _ (by intro e; injection e with a1 a2 _; omega)).trans j3
                go_wp2_with fail
                go_region_held3 (fun w' => w'.cell? ⟨ge, k + 1, none⟩ = some (.int .i64 Y) ∧ w'.cell? ⟨go, N * 2, none⟩ = some (.int .i64 xp))
                  (first | (with_reducible exact ⟨i1, i2⟩) | (with_reducible exact ⟨i3, i4⟩) | go_keep)
                  (fail)
                repeat (((first | apply_assumption | (simp only [Exit.then, Exit.inBlock, if_true]; apply_assumption)); refine wp_hide2 fun QX HQ => ?_; go_wp2_with fail; refine HQ.out _ _ _ ?_))
                go_big_unhide
                change _ ∧ _
                go_big_round
                refine ⟨?rel, ?measure⟩
                case rel => exact OfRel.mk (k + 1) _ (by go_num) (by omega) HJ.out HST.out HBT.out
                case measure => simp [intOf]; omega
              · have hj' : (xp + xn == X) = false := by simp [hj]
                have HP := Lib.hid (HPS2.out (HN3.out.elim (fun h => h) (fun h => absurd (HXE.out ▸ h) hj)))
                go_wp2_with fail
                go_quiet (fail)
                have j1 : (w6.drewN nq).cell? ⟨ge, k, none⟩ = some (.int .i64 X) := e1
                have j2 : (w6.drewN nq).cell? ⟨ge, k + 1, none⟩ = some (.int .i64 Y) := e2
                have HO7 : Hid (Own (w6.drewN nq) w4.heap.size (.slice (some ⟨go, 0, none⟩) (N + 1) capo) (O' ++ [x])) := Lib.hid ⟨HOV2.out.row, HOV2.out.wf, HOV2.out.len⟩
                have hB7 : Below w4.heap.size w4 (w6.drewN nq) := ⟨hB6.os, hB6.tape, hB6.output, hB6.size, hB6.block⟩
                generalize w6.drewN nq = w7 at *
                clear e1 e2 hB6 HOV2
                have HW9 : Hid (Sp.wf ⟨X, Y - X⟩) := Lib.hid (by unfold Sp.wf; simp only; omega)
                have i1 : w7.drew.cell? ⟨ge, k, none⟩ = some (.int .i64 X) := j1
                have i2 : w7.drew.cell? ⟨ge, k + 1, none⟩ = some (.int .i64 Y) := j2
                have i3 : (w7.alloc (.cells #[.int .i64 X, .int .i64 (Y - X)] 24)).drew.cell? ⟨ge, k, none⟩ = some (.int .i64 X) := keep_below (below_new w7 _) j1
                have i4 : (w7.alloc (.cells #[.int .i64 X, .int .i64 (Y - X)] 24)).drew.cell? ⟨ge, k + 1, none⟩ = some (.int .i64 Y) := keep_below (below_new w7 _) j2
                have i5 : ∀ g, ((.slice (some ⟨go, 0, none⟩) (N + 1) capo) : Value).ownBlock = some g → ge ≠ g := fun g hg => by have := (HO7.out.row.lt g hg).1; omega
                have HLE : Hid (((O' ++ [x])).length ≤ 900) := Lib.hid (by rw [List.length_append, HN9.out]; simp only [List.length_singleton]; omega)
                go_wp2_with fail
                go_region_held3 (fun w' => w'.cell? ⟨ge, k, none⟩ = some (.int .i64 X) ∧ w'.cell? ⟨ge, k + 1, none⟩ = some (.int .i64 Y))
                  (first | (with_reducible exact ⟨i1, i2⟩) | (with_reducible exact ⟨i3, i4⟩) | (with_reducible exact ⟨grown_cell HG9.out i3 i5, grown_cell HG9.out i4 i5⟩) | go_keep)
                  ((refine step_push_sp (by rfl) _ _ (by rfl) w4.heap.size (.slice (some ⟨go, 0, none⟩) (N + 1) capo) (O' ++ [x]) w7.heap.size X (Y - X) (by kernel_rfl) (by kernel_rfl) (HO7.out.below (below_new w7 _)).drew (cells_new w7 _ _) HLE.out HW9.out (by have := hB7.size; simp; omega) ?_; intro v9 w12 HV9 HG9 HD9))
                have hfin := ((chain hB7 (below_new w7 (.cells #[.int .i64 X, .int .i64 (Y - X)] 24)) (Nat.le_refl _)).drew).trans (below_own HG9.out (HO7.out.below (below_new w7 _)).drew (Nat.le_refl _) (by have := hB7.size; simp; omega))
                repeat (((first | apply_assumption | (simp only [Exit.then, Exit.inBlock, if_true]; apply_assumption)); refine wp_hide2 fun QX HQ => ?_; go_wp2_with fail; refine HQ.out _ _ _ ?_))
                go_big_unhide
                change _ ∧ _
                go_big_round
                refine ⟨?rel, ?measure⟩
                case rel => exact OfRel.mk (k + 1) _ (by go_num) (by omega) HP.out HV9.out hfin
                case measure => simp [intOf]; omega
          · have hn : selP true l ⟨p, n⟩ X := HSEL.out.2 (by simp)
            have HPS := Lib.hid (fun h2 => HPU.out hn h2)
            have HJS := Lib.hid (fun O' x e h2 => HJO.out O' x e hn h2)
            clear hn HSEL
            rcases List.eq_nil_or_concat O with hO | ⟨O', x, hO⟩
            · have HP := Lib.hid (HPS.out (fun x hx => by rw [hO] at hx; simp at hx))
              rw [hO] at HP HOV
              have hrs : ∃ A cp, ro = .slice A 0 cp := by
                rcases HOV.out.form with ⟨rfl, _⟩ | ⟨go, cp, cur, rfl, _⟩
                · exact ⟨_, _, rfl⟩
                · exact ⟨_, _, rfl⟩
              obtain ⟨A, cp, rfl⟩ := hrs
              clear hO
              go_wp2_with fail
              first | (go_quiet (fail)) | skip
              have j1 : (w6.drewN nq).cell? ⟨ge, k, none⟩ = some (.int .i64 X) := e1
              have j2 : (w6.drewN nq).cell? ⟨ge, k + 1, none⟩ = some (.int .i64 Y) := e2
              have HO7 : Hid (Own (w6.drewN nq) w4.heap.size (.slice A 0 cp) ([] : List Sp)) := Lib.hid ⟨HOV.out.row, HOV.out.wf, HOV.out.len⟩
              have hB7 : Below w4.heap.size w4 (w6.drewN nq) := ⟨hB6.os, hB6.tape, hB6.output, hB6.size, hB6.block⟩
              generalize w6.drewN nq = w7 at *
              clear e1 e2 hB6 HOV
              have HW9 : Hid (Sp.wf ⟨X, Y - X⟩) := Lib.hid (by unfold Sp.wf; simp only; omega)
              have i1 : w7.drew.cell? ⟨ge, k, none⟩ = some (.int .i64 X) := j1
              have i2 : w7.drew.cell? ⟨ge, k + 1, none⟩ = some (.int .i64 Y) := j2
              have i3 : (w7.alloc (.cells #[.int .i64 X, .int .i64 (Y - X)] 24)).drew.cell? ⟨ge, k, none⟩ = some (.int .i64 X) := keep_below (below_new w7 _) j1
              have i4 : (w7.alloc (.cells #[.int .i64 X, .int .i64 (Y - X)] 24)).drew.cell? ⟨ge, k + 1, none⟩ = some (.int .i64 Y) := keep_below (below_new w7 _) j2
              have i5 : ∀ g, ((.slice A 0 cp) : Value).ownBlock = some g → ge ≠ g := fun g hg => by have := (HO7.out.row.lt g hg).1; omega
              have HLE : Hid ((([] : List Sp)).length ≤ 900) := Lib.hid (by simp)
              go_wp2_with fail
              go_region_held3 (fun w' => w'.cell? ⟨ge, k, none⟩ = some (.int .i64 X) ∧ w'.cell? ⟨ge, k + 1, none⟩ = some (.int .i64 Y))
                (first | (with_reducible exact ⟨i1, i2⟩) | (with_reducible exact ⟨i3, i4⟩) | (with_reducible exact ⟨grown_cell HG9.out i3 i5, grown_cell HG9.out i4 i5⟩) | go_keep)
                ((refine step_push_sp (by rfl) _ _ (by rfl) w4.heap.size (.slice A 0 cp) ([] : List Sp) w7.heap.size X (Y - X) (by kernel_rfl) (by kernel_rfl) (HO7.out.below (below_new w7 _)).drew (cells_new w7 _ _) HLE.out HW9.out (by have := hB7.size; simp; omega) ?_; intro v9 w12 HV9 HG9 HD9))
              have hfin := ((chain hB7 (below_new w7 (.cells #[.int .i64 X, .int .i64 (Y - X)] 24)) (Nat.le_refl _)).drew).trans (below_own HG9.out (HO7.out.below (below_new w7 _)).drew (Nat.le_refl _) (by have := hB7.size; simp; omega))
              repeat (((first | apply_assumption | (simp only [Exit.then, Exit.inBlock, if_true]; apply_assumption)); refine wp_hide2 fun QX HQ => ?_; go_wp2_with fail; refine HQ.out _ _ _ ?_))
              go_big_unhide
              change _ ∧ _
              go_big_round
              refine ⟨?rel, ?measure⟩
              case rel => exact OfRel.mk (k + 1) _ (by go_num) (by omega) HP.out HV9.out hfin
              case measure => simp [intOf]; omega
            · have hOn : O'.length + 1 = O.length := by rw [hO]; simp
              have HOEQ : Hid (O = O' ++ [x]) := by show _ = _; rw [hO]; simp
              have hx := (right_ok HC.out.right x (by rw [HOEQ.out]; simp)).1
              have HN2 := Lib.hid (fun h => HNE.out O' x HOEQ.out h)
              have HJ2 := Lib.hid (fun h => HJS.out O' x HOEQ.out h)
              have HPS2 : Hid ((∀ y ∈ O' ++ [x], y.e ≠ X) → Coll true l ⟨p, n⟩ E (k + 1) (O' ++ [x] ++ [⟨X, Y - X⟩])) := fun h => by have := HPS.out (by rw [HOEQ.out]; exact h); rw [HOEQ.out] at this; exact this
              have hov := HOV.out
              rw [HOEQ.out] at hov
              have hN2 : (∀ y ∈ O' ++ [x], y.e ≠ X) ∨ x.e = X := by
                by_cases h : x.e = X
                · exact .inr h
                · exact .inl (HN2.out h)
              have HN3 := Lib.hid hN2
              obtain ⟨N, hN⟩ : ∃ N, O'.length = N := ⟨_, rfl⟩
              have hlen : (O' ++ [x]).length = N + 1 := by simp; omega
              have hNb : N ≤ 300 := by omega
              obtain ⟨go, capo, cur, hro, hgo, hcu, v1, v2, v3, v4⟩ : ∃ g cap cur, ro = .slice (some ⟨g, 0, none⟩) (O' ++ [x]).length cap ∧ w4.heap.size ≤ g ∧ Cells w6 g cur ∧ (O' ++ [x]).length ≤ cap ∧ cap ≤ maxLen ∧ cur.length = cap * 2 ∧ cur.take ((O' ++ [x]).length * 2) = sc (O' ++ [x]) := by
                rcases hov.form with ⟨_, h⟩ | h
                · simp at h
                · exact h
              rw [hlen] at hro v1 v4
              have hcells : ∀ j, j < (N + 1) * 2 → w6.cell? ⟨go, j, none⟩ = (sc (O' ++ [x]))[j]? := fun j hj => by
                rw [hcu.cell, ← v4, List.getElem?_take, if_pos hj]
              have hs1 := sc_at (O' ++ [x]) N (by omega)
              have hgx : gt (O' ++ [x]) N = x := by
                have h9 : (O' ++ [x])[N]? = some x := by rw [← hN]; simp
                unfold gt
                rw [List.getD_eq_getElem?_getD, h9]; rfl
              rw [hgx] at hs1
              have z1 := (hcells (N * 2) (by omega)).trans hs1.1
              have z2 := (hcells (N * 2 + 1) (by omega)).trans hs1.2
              have hxe : x.e = x.p + x.n := rfl
              have HN9 := Lib.hid hN
              rw [hro] at hov
              have HOV2 := Lib.hid hov
              have HSTO := Lib.hid (fun w' (h : Own w' w4.heap.size (.slice (some ⟨go, 0, none⟩) (N + 1) capo) (O' ++ [x])) z hz => h.store hN z hz)
              subst hro
              have hfr : w6.frozen? ⟨go, N * 2 + 1, none⟩ = false := by unfold Cells at hcu; simp [World.frozen?, hcu]
              clear hO hov hN2 hcells hs1 hgx hcu v4 v3 v2 HOV
              obtain ⟨xp, hxp⟩ : ∃ a, x.p = a := ⟨_, rfl⟩
              obtain ⟨xn, hxn⟩ : ∃ a, x.n = a := ⟨_, rfl⟩
              unfold Sp.ok at hx
              rw [hxp, hxn] at hx hxe
              rw [hxp] at z1 HSTO
              rw [hxn] at z2
              have HXE := Lib.hid hxe
              have HXP := Lib.hid hxp
              clear hxp hxn hxe hlen hOn hN
              obtain ⟨o1, o2, o3, o4⟩ := hx
              have s1 : IntKind.i64.wrap ((N : Int) + 1 - 1) = N := by rw [IntWalk.i64_in _ (by omega)]; omega
              have s2 : (N : Int) + 1 - 1 = N := by omega
              have s3 : IntKind.i64.wrap (N : Int) = N := IntWalk.i64_in _ (by omega)
              have s4 : (0 : Int) ≤ N := by omega
              have s5 : (N : Int) < (N : Int) + 1 := by omega
              have s6 : IntKind.i64.wrap (xp + xn) = xp + xn := IntWalk.i64_in _ (by omega)
              have s7 : IntKind.i64.wrap (Y - xp) = Y - xp := IntWalk.i64_in _ (by omega)
              have s8 : decide ((0 : Int) < (N : Int) + 1) = true := by rw [decide_eq_true_iff]; omega
              by_cases hj : xp + xn = X
              · have hj' : (xp + xn == X) = true := by simp [hj]
                have HJ := Lib.hid (HJ2.out (by rw [HXE.out]; exact hj))
                rw [HXP.out] at HJ
                go_wp2_with fail
                go_quiet (fail)
                have j2 : (w6.drewN nq).cell? ⟨ge, k + 1, none⟩ = some (.int .i64 Y) := e2
                have j3 : (w6.drewN nq).cell? ⟨go, N * 2, none⟩ = some (.int .i64 xp) := z1
                have j4 : (w6.drewN nq).cell? ⟨go, N * 2 + 1, none⟩ = some (.int .i64 xn) := z2
                have j5 : (w6.drewN nq).frozen? ⟨go, N * 2 + 1, none⟩ = false := hfr
                have HO7 : Hid (Own (w6.drewN nq) w4.heap.size (.slice (some ⟨go, 0, none⟩) (N + 1) capo) (O' ++ [x])) := Lib.hid ⟨HOV2.out.row, HOV2.out.wf, HOV2.out.len⟩
                have hB7 : Below w4.heap.size w4 (w6.drewN nq) := ⟨hB6.os, hB6.tape, hB6.output, hB6.size, hB6.block⟩
                generalize w6.drewN nq = w7 at *
                clear e1 e2 hB6 HOV2 z1 z2 hfr
                have HW9 : Hid (Sp.wf ⟨xp, Y - xp⟩) := Lib.hid (by unfold Sp.wf; simp only; omega)
                have hgg : ¬ ge = go := by omega
                have HST := Lib.hid (HSTO.out w7 HO7.out (Y - xp) HW9.out).drew
                have HBT := Lib.hid (hB7.setCell (p := ⟨go, N * 2 + 1, none⟩) hgo (.int .i64 (Y - xp))).drew
                have i1 : w7.drew.cell? ⟨ge, k + 1, none⟩ = some (.int .i64 Y) := j2
                have i2 : w7.drew.cell? ⟨go, N * 2, none⟩ = some (.int .i64 xp) := j3
                have i3 : (w7.setCell ⟨go, N * 2 + 1, none⟩ (.int .i64 (Y - xp))).drew.cell? ⟨ge, k + 1, none⟩ = some (.int .i64 Y) := (World.cell?_setCell_other w7 _ _ _ (by intro e; injection e with a1 a2 _; omega)).trans j2
                have i4 : (w7.setCell ⟨go, N * 2 + 1, none⟩ (.int .i64 (Y - xp))).drew.cell? ⟨go, N * 2, none⟩ = some (.int .i64 xp) := (World.cell?_setCell_other w7 _ _ _ (by intro e; injection e with a1 a2 _; omega)).trans j3
                go_wp2_with fail
                go_region_held3 (fun w' => w'.cell? ⟨ge, k + 1, none⟩ = some (.int .i64 Y) ∧ w'.cell? ⟨go, N * 2, none⟩ = some (.int .i64 xp))
                  (first | (with_reducible exact ⟨i1, i2⟩) | (with_reducible exact ⟨i3, i4⟩) | go_keep)
                  (fail)
                repeat (((first | apply_assumption | (simp only [Exit.then, Exit.inBlock, if_true]; apply_assumption)); refine wp_hide2 fun QX HQ => ?_; go_wp2_with fail; refine HQ.out _ _ _ ?_))
                go_big_unhide
                change _ ∧ _
                go_big_round
                refine ⟨?rel, ?measure⟩
                case rel => exact OfRel.mk (k + 1) _ (by go_num) (by omega) HJ.out HST.out HBT.out
                case measure => simp [intOf]; omega
              · have hj' : (xp + xn == X) = false := by simp [hj]
                have HP := Lib.hid (HPS2.out (HN3.out.elim (fun h => h) (fun h => absurd (HXE.out ▸ h) hj)))
                go_wp2_with fail
                go_quiet (fail)
                have j1 : (w6.drewN nq).cell? ⟨ge, k, none⟩ = some (.int .i64 X) := e1
                have j2 : (w6.drewN nq).cell? ⟨ge, k + 1, none⟩ = some (.int .i64 Y) := e2
                have HO7 : Hid (Own (w6.drewN nq) w4.heap.size (.slice (some ⟨go, 0, none⟩) (N + 1) capo) (O' ++ [x])) := Lib.hid ⟨HOV2.out.row, HOV2.out.wf, HOV2.out.len⟩
                have hB7 : Below w4.heap.size w4 (w6.drewN nq) := ⟨hB6.os, hB6.tape, hB6.output, hB6.size, hB6.block⟩
                generalize w6.drewN nq = w7 at *
                clear e1 e2 hB6 HOV2
                have HW9 : Hid (Sp.wf ⟨X, Y - X⟩) := Lib.hid (by unfold Sp.wf; simp only; omega)
                have i1 : w7.drew.cell? ⟨ge, k, none⟩ = some (.int .i64 X) := j1
                have i2 : w7.drew.cell? ⟨ge, k + 1, none⟩ = some (.int .i64 Y) := j2
                have i3 : (w7.alloc (.cells #[.int .i64 X, .int .i64 (Y - X)] 24)).drew.cell? ⟨ge, k, none⟩ = some (.int .i64 X) := keep_below (below_new w7 _) j1
                have i4 : (w7.alloc (.cells #[.int .i64 X, .int .i64 (Y - X)] 24)).drew.cell? ⟨ge, k + 1, none⟩ = some (.int .i64 Y) := keep_below (below_new w7 _) j2
                have i5 : ∀ g, ((.slice (some ⟨go, 0, none⟩) (N + 1) capo) : Value).ownBlock = some g → ge ≠ g := fun g hg => by have := (HO7.out.row.lt g hg).1; omega
                have HLE : Hid (((O' ++ [x])).length ≤ 900) := Lib.hid (by rw [List.length_append, HN9.out]; simp only [List.length_singleton]; omega)
                go_wp2_with fail
                go_region_held3 (fun w' => w'.cell? ⟨ge, k, none⟩ = some (.int .i64 X) ∧ w'.cell? ⟨ge, k + 1, none⟩ = some (.int .i64 Y))
                  (first | (with_reducible exact ⟨i1, i2⟩) | (with_reducible exact ⟨i3, i4⟩) | (with_reducible exact ⟨grown_cell HG9.out i3 i5, grown_cell HG9.out i4 i5⟩) | go_keep)
                  ((refine step_push_sp (by rfl) _ _ (by rfl) w4.heap.size (.slice (some ⟨go, 0, none⟩) (N + 1) capo) (O' ++ [x]) w7.heap.size X (Y - X) (by kernel_rfl) (by kernel_rfl) (HO7.out.below (below_new w7 _)).drew (cells_new w7 _ _) HLE.out HW9.out (by have := hB7.size; simp; omega) ?_; intro v9 w12 HV9 HG9 HD9))
                have hfin := ((chain hB7 (below_new w7 (.cells #[.int .i64 X, .int .i64 (Y - X)] 24)) (Nat.le_refl _)).drew).trans (below_own HG9.out (HO7.out.below (below_new w7 _)).drew (Nat.le_refl _) (by have := hB7.size; simp; omega))
                repeat (((first | apply_assumption | (simp only [Exit.then, Exit.inBlock, if_true]; apply_assumption)); refine wp_hide2 fun QX HQ => ?_; go_wp2_with fail; refine HQ.out _ _ _ ?_))
                go_big_unhide
                change _ ∧ _
                go_big_round
                refine ⟨?rel, ?measure⟩
                case rel => exact OfRel.mk (k + 1) _ (by go_num) (by omega) HP.out HV9.out hfin
                case measure => simp [intOf]; omega
    · have hkl : k + 1 = E.length := by omega
      have HD := Lib.hid (HC.out.done HAE.out HRI.out HSO.out hkl)
      have y2 : ¬ ((k : Int) + 1 < E.length) := by omega
      have y1 : IntKind.i64.wrap ((k : Int) + 1) = (k : Int) + 1 := IntWalk.i64_in _ (by omega)
      clear hkl
      have h1 := chain (chain HB0.out HACC.out (Nat.le_refl _)) hB (Nat.le_refl _)
      have HF := Lib.hid h1
      clear h1
      have HSO2 := Lib.hid HOV.out.srow
      go_wp2_with fail
      all_goals
        go_ret
        refine ⟨ro, rfl, ?_, HF.out⟩
        have h := HSO2.out
        first
          | (rw [HD.out, if_pos (by assumption)] at h; exact h)
          | (rw [HD.out, if_neg (by assumption)] at h; exact h)
          | (rw [HD.out, if_neg (by simp_all)] at h; exact h)
          | (rw [HD.out] at h; exact h)
end Go.Proofs.Ytfeiapkifoakoaa
