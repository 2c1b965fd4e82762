/-
  The reference of layer 7: Rewrite.
  The reference of layer 7: Open.
  Layer 7: the reference's log makes what the log makes.
-/
import Derived.Test.YthdmcjiccbgknaaJR3
import Derived.Test.YthdmcjiccbgknaaZJb
namespace Go.Proofs.Ythdmcjiccbgknaa
set_option linter.unusedVariables false
set_option linter.unusedSimpArgs false
open Go.RowKit

/-- The log has got new rows. -/
theorem RD.rep {B : Nat → Prop} {w w6 : World} {lb db : Nat} {v V : Value} {g : Lg} {s : Dk} {l : List ByteArray} (h : RD B w lb db v g s) (hb : Below w.heap.size w w6) (hown : w6.ownsRow w.heap.size 9 1 V l.length (sv l)) (hx : ext l ≤ 1000000000000) :
    RLOp B w ((w6.setCell ⟨lb, 2, none⟩ V).setCell ⟨lb, 3, none⟩ (.int .i64 l.length)) lb db V ⟨g.file, l, l.length⟩ s := by
  obtain ⟨Bd, h1, h2, h3, h4, h5, h6⟩ := h
  obtain ⟨W8, hW8⟩ : ∃ W8, (w6.setCell ⟨lb, 2, none⟩ V).setCell ⟨lb, 3, none⟩ (.int .i64 l.length) = W8 := ⟨_, rfl⟩
  have hlt := h2.bx.lt
  have hs6 : W8.heap.size = w6.heap.size := by rw [← hW8]; simp [World.setCell]
  have ho : ∀ k, k ≠ lb → W8.heap[k]? = w6.heap[k]? := fun k hk => by
    rw [← hW8]
    exact (Below.heap_setCell _ ⟨lb, 3, none⟩ _ k hk).trans (Below.heap_setCell w6 ⟨lb, 2, none⟩ _ k hk)
  have hsz := hb.size
  have hbx := blk_set (i := 3) (blk_set (i := 2) (h2.bx.below hb hlt) V) (.int .i64 l.length)
  rw [hW8] at hbx ⊢
  have hos : W8.os = w.os ∧ W8.tape = w.tape ∧ W8.output = w.output := by rw [← hW8]; exact ⟨hb.os, hb.tape, hb.output⟩
  have hfr : Fr (fun k => k = lb) w W8 := ⟨hos.1, hos.2.1, hos.2.2, by omega, fun k hk hn => (ho k hn).trans (hb.block k hk)⟩
  have hlo : ∀ k, V.ownBlock = some k → w.heap.size ≤ k := fun k hk => (World.ownsRow.lt hown k hk).1
  have hown8 : W8.ownsRow 0 9 1 V l.length (sv l) := by
    have h0 : w6.ownsRow 0 9 1 V l.length (sv l) := by
      refine ⟨hown.1, ?_⟩
      rcases hown.2 with h | ⟨k, c, cur, a, b, r⟩
      · exact .inl h
      · exact .inr ⟨k, c, cur, a, Nat.zero_le _, r⟩
    exact own_heap h0 fun k hk _ => ho k (fun e => by have := hlo k hk; omega)
  refine ⟨⟨fun k => Bd k ∧ k < w.heap.size, (h1.mono fun k hk hx => ⟨hx, hk⟩).fr hfr (fun k hk hx e => h3 (by rw [← e]; exact hx.1)), ⟨hbx, hown8, fun e => by have := hlo _ e; omega, hx⟩, fun hx => h3 hx.1, fun k hk => ⟨fun hx => by have := hlo k hk; have := hx.2; omega, .inr ⟨hlo k hk, (World.ownsRow.lt hown8 k hk).2⟩⟩, fun k hk hx => .inl (h5 k hx.2 hx.1), .inl h6⟩, hfr.mono fun k hk e => by rw [e]; exact h6⟩
/-- What the reference's Rewrite makes of its log and disk. -/
def Lg.rrewrite (g : Lg) (s : Dk) (l : List ByteArray) : Int × Lg × Dk :=
  let r := runT [fun s => s.rcut (g.file + 1) 0, fun s => s.rwrite (g.file + 1) 0 (whl l), fun s => s.rflush (g.file + 1), fun s => s.rturn g.file (g.file + 1)] s
  if r.1 = 0 then (0, ⟨g.file, l, l.length⟩, r.2) else (r.1, g, r.2)
theorem hdr_flat (l : List ByteArray) : hdr (ext l) l.length ++ bs (flat l) = whl l := by
  apply W1.ba_ext
  rw [ByteArray.data_append, Array.toList_append, bs_list]
  unfold whl
  rw [bs_list]
set_option maxRecDepth 100000 in
set_option maxHeartbeats 16000000 in
theorem rRewriteP {B : Nat → Prop} {w : World} {lb db : Nat} {v : Value} {g : Lg} {s : Dk} (h : RD B w lb db v g s) (u : Value) (l : List ByteArray) (hrow : ∀ w' v' s', RLOp B w w' lb db v' g s' → Row w' w'.heap.size u (sv l)) (hf : 0 ≤ g.file ∧ g.file ≤ 6) (hx : ext l ≤ 900000) (hps : ∀ s', s.rcut (g.file + 1) 0 = (0, s') → s'.pend.length + ext l ≤ 1000000) :
    Calls Try.prog 17 #[.pointer (some ⟨lb, 0, none⟩), u] w (RLPost B w lb db (g.rrewrite s l)) := by
  have hll := ext_len l
  obtain ⟨A, cap, hu⟩ : ∃ A cap, u = .slice A l.length cap := by
    obtain ⟨A, cap, e, _⟩ := hrow w v s (RLOp.refl h)
    rw [sv_length] at e
    exact ⟨A, cap, e⟩
  subst hu
  have H := Lib.hid (RLOp.refl h)
  have HCS : Hid (∀ w' s', Hid (RLOp B w w' lb db v g s') → w'.cell? ⟨lb, 0, none⟩ = some (.pointer (some ⟨db, 0, none⟩)) ∧ w'.cell? ⟨lb, 1, none⟩ = some (.int .i64 g.file)) := Lib.hid fun w' s' h => by
    obtain ⟨d0, d1, d2, d3, _⟩ := h.out.at_.lg.cells
    exact ⟨d0, d1⟩
  have HC0 : Hid (∀ w' s', Hid (RLOp B w w' lb db v g s') → Calls Try.prog 56 #[.pointer (some ⟨db, 0, none⟩), .int .i64 (g.file + 1), .int .i64 0] w' fun e w2 => e = .returned (.int .i64 (s'.rcut (g.file + 1) 0).1) ∧ RLOp B w w2 lb db v g (s'.rcut (g.file + 1) 0).2) := Lib.hid fun w' s' h => hCut h.out _ _
  have HC1 : Hid (∀ w' s', Hid (RLOp B w w' lb db v g s') → s'.pend.length + ext l ≤ 1000000 → Calls Try.prog 45 #[.pointer (some ⟨db, 0, none⟩), .int .i64 (g.file + 1), .int .i64 0, .string (whl l)] w' fun e w2 => e = .returned (.int .i64 (s'.rwrite (g.file + 1) 0 (whl l)).1) ∧ RLOp B w w2 lb db v g (s'.rwrite (g.file + 1) 0 (whl l)).2) := Lib.hid fun w' s' h hp' => hWrite h.out _ _ _ (by rw [whl_size]; omega) (by rw [whl_size]; exact hp')
  have HC2 : Hid (∀ w' s', Hid (RLOp B w w' lb db v g s') → Calls Try.prog 44 #[.pointer (some ⟨db, 0, none⟩), .int .i64 (g.file + 1)] w' fun e w2 => e = .returned (.int .i64 (s'.rflush (g.file + 1)).1) ∧ RLOp B w w2 lb db v g (s'.rflush (g.file + 1)).2) := Lib.hid fun w' s' h => hFlush h.out _
  have HC3 : Hid (∀ w' s', Hid (RLOp B w w' lb db v g s') → Calls Try.prog 58 #[.pointer (some ⟨db, 0, none⟩), .int .i64 g.file, .int .i64 (g.file + 1)] w' fun e w2 => e = .returned (.int .i64 (s'.rturn g.file (g.file + 1)).1) ∧ RLOp B w w2 lb db v g (s'.rturn g.file (g.file + 1)).2) := Lib.hid fun w' s' h => hTurn h.out _ _
  have HH : Hid (∀ w' s', Hid (RLOp B w w' lb db v g s') → Calls Try.prog 46 #[.slice A l.length cap] w' fun e w2 => e = .returned (.string (hdr (ext l) l.length)) ∧ RLOp B w w2 lb db v g s') := Lib.hid fun w' s' h => (rHeaderP _ l w' (hrow w' v s' h.out) (by omega)).mono fun e w2 ⟨a, b⟩ => ⟨a, h.out.below b⟩
  have HFO : Hid (∀ w' s', Hid (RLOp B w w' lb db v g s') → Calls Try.prog 57 #[.slice A l.length cap] w' fun e w2 => e = .returned (.string (bs (flat l))) ∧ RLOp B w w2 lb db v g s') := Lib.hid fun w' s' h => (rFormsP _ l w' (hrow w' v s' h.out) (by omega)).mono fun e w2 ⟨a, b⟩ => ⟨a, h.out.below b⟩
  have hadd := fun w => run_string_add_sum (P := Try.prog) (w := w) (hdr (ext l) l.length) (bs (flat l)) (by have := flat_length l; rw [hdr_size, bs_size]; omega)
  have hcat := hdr_flat l
  have HPS := Lib.hid hps
  have HRW := Lib.hid hrow
  have HXL : Hid (ext l ≤ 900000) := Lib.hid hx
  have HLL : Hid (l.length ≤ 1000000) := Lib.hid (by omega)
  have HG : Hid (g.rrewrite s l = if (runT [fun s => s.rcut (g.file + 1) 0, fun s => s.rwrite (g.file + 1) 0 (whl l), fun s => s.rflush (g.file + 1), fun s => s.rturn g.file (g.file + 1)] s).1 = 0 then (0, ⟨g.file, l, l.length⟩, (runT [fun s => s.rcut (g.file + 1) 0, fun s => s.rwrite (g.file + 1) 0 (whl l), fun s => s.rflush (g.file + 1), fun s => s.rturn g.file (g.file + 1)] s).2) else ((runT [fun s => s.rcut (g.file + 1) 0, fun s => s.rwrite (g.file + 1) 0 (whl l), fun s => s.rflush (g.file + 1), fun s => s.rturn g.file (g.file + 1)] s).1, g, (runT [fun s => s.rcut (g.file + 1) 0, fun s => s.rwrite (g.file + 1) 0 (whl l), fun s => s.rflush (g.file + 1), fun s => s.rturn g.file (g.file + 1)] s).2)) := rfl
  obtain ⟨Q, hQ⟩ : ∃ Q, runT [fun s => s.rcut (g.file + 1) 0, fun s => s.rwrite (g.file + 1) 0 (whl l), fun s => s.rflush (g.file + 1), fun s => s.rturn g.file (g.file + 1)] s = Q := ⟨_, rfl⟩
  rw [hQ] at HG
  have HQ := Lib.hid hQ
  generalize g.rrewrite s l = R at *
  obtain ⟨HD, hHD⟩ : ∃ HD, hdr (ext l) l.length = HD := ⟨_, rfl⟩
  obtain ⟨FT, hFT⟩ : ∃ FT, bs (flat l) = FT := ⟨_, rfl⟩
  obtain ⟨WL, hWL⟩ : ∃ WL, whl l = WL := ⟨_, rfl⟩
  rw [hHD] at HH hcat
  rw [hFT] at HFO hcat
  rw [hWL] at hcat HC1
  rw [hHD, hFT] at hadd
  simp only [hcat] at hadd
  have HWL := Lib.hid hWL
  obtain ⟨gf, hgf⟩ : ∃ gf, g.file = gf := ⟨_, rfl⟩
  obtain ⟨N, hN⟩ : ∃ N, l.length = N := ⟨_, rfl⟩
  have HGF := Lib.hid hgf
  have HN := Lib.hid hN
  rw [hgf] at HCS HC0 HC1 HC2 HC3 hf
  rw [hN] at HH HFO
  obtain ⟨f0, f6⟩ := hf
  obtain ⟨nx, hnx⟩ : ∃ nx, gf + 1 = nx := ⟨_, rfl⟩
  rw [hnx] at HC0 HC1 HC2 HC3
  have HNX := Lib.hid hnx
  have hw1 : IntKind.i64.wrap (gf + 1) = nx := by rw [hnx]; exact IntWalk.i64_in _ (by omega)
  have hw2 : IntKind.i64.wrap nx = nx := IntWalk.i64_in _ (by omega)
  rw [hN]
  clear hcat hHD hFT hWL hgf hN h hps hrow hx hQ hll
  go_enter Try.func17, Try.ntmps17
  go_wp2_with fail
  obtain ⟨⟨E0, S0⟩, hE⟩ : ∃ q, (s.rcut (g.file + 1) 0) = q := ⟨_, rfl⟩
  have HE0 := Lib.hid hE
  have HDr := Lib.hid H.out.drew
  have HC : Hid (∀ w', Hid (RLOp B w w' lb db v g s) → Calls Try.prog 56 #[.pointer (some ⟨db, 0, none⟩), .int .i64 nx, .int .i64 0] w' fun e w2 => e = .returned (.int .i64 E0) ∧ RLOp B w w2 lb db v g S0) := Lib.hid fun w' h => by
    have := HC0.out w' s h
    rw [HGF.out, HNX.out] at hE
    rw [hE] at this; exact this
  have CS0 := HCS.out _ _ HDr
  clear hE
  go_wp2_with fail
  go_region_held3 (fun w' => w'.cell? ⟨lb, 0, none⟩ = some (.pointer (some ⟨db, 0, none⟩)) ∧ w'.cell? ⟨lb, 1, none⟩ = some (.int .i64 gf)) (first | exact CS0 | exact HCS.out _ _ (by assumption) | fail) ((go_at_call 56; (with_reducible refine (HC.out _ (by assumption)).mono ?_); rintro e wk0 ⟨rfl, ho⟩; have HN0 := Lib.hid ho; clear ho))
  have H := HN0
  clear HDr CS0 HC HN0
  by_cases hE0 : E0 = 0
  · subst hE0
    have k2 : ((0 : Int) == 0) = true := rfl
    have HQ0 := Lib.hid ((runT_ok (t := fun s => s.rcut (g.file + 1) 0) (T := [fun s => s.rwrite (g.file + 1) 0 (whl l), fun s => s.rflush (g.file + 1), fun s => s.rturn g.file (g.file + 1)]) HE0.out rfl).symm.trans HQ.out)
    obtain ⟨⟨E1, S1⟩, hE⟩ : ∃ q, (S0.rwrite (g.file + 1) 0 (whl l)) = q := ⟨_, rfl⟩
    have HE1 := Lib.hid hE
    have HDr := Lib.hid H.out.drew
    have HC : Hid (∀ w', Hid (RLOp B w w' lb db v g S0) → Calls Try.prog 45 #[.pointer (some ⟨db, 0, none⟩), .int .i64 nx, .int .i64 0, .string WL] w' fun e w2 => e = .returned (.int .i64 E1) ∧ RLOp B w w2 lb db v g S1) := Lib.hid fun w' h => by
      have := HC1.out w' S0 h (HPS.out _ (by rw [HE0.out]))
      rw [HGF.out, HNX.out, HWL.out] at hE
      rw [hE] at this; exact this
    have HHk : Hid (∀ w', Hid (RLOp B w w' lb db v g S0) → Calls Try.prog 46 #[.slice A N cap] w' fun e w2 => e = .returned (.string HD) ∧ RLOp B w w2 lb db v g S0) := Lib.hid fun w' h => HH.out w' S0 h
    have HFk : Hid (∀ w', Hid (RLOp B w w' lb db v g S0) → Calls Try.prog 57 #[.slice A N cap] w' fun e w2 => e = .returned (.string FT) ∧ RLOp B w w2 lb db v g S0) := Lib.hid fun w' h => HFO.out w' S0 h
    have CS0 := HCS.out _ _ HDr
    clear hE
    go_wp2_with fail
    go_region_held3 (fun w' => w'.cell? ⟨lb, 0, none⟩ = some (.pointer (some ⟨db, 0, none⟩)) ∧ w'.cell? ⟨lb, 1, none⟩ = some (.int .i64 gf)) (first | exact CS0 | exact HCS.out _ _ (by assumption) | fail) (first | (go_at_call 46; (with_reducible refine (HHk.out _ (by assumption)).mono ?_); rintro e wh ⟨rfl, ho⟩; have HNh := Lib.hid ho; clear ho) | (go_at_call 57; (with_reducible refine (HFk.out _ (by assumption)).mono ?_); rintro e wf ⟨rfl, ho⟩; have HNf := Lib.hid ho; clear ho) | (go_at_call 45; (with_reducible refine (HC.out _ (by assumption)).mono ?_); rintro e wk1 ⟨rfl, ho⟩; have HN1 := Lib.hid ho; clear ho))
    all_goals
      have H := HN1
      clear HDr CS0 HC HN1 HHk HFk HNh HNf
      by_cases hE0 : E1 = 0
      · subst hE0
        have k2 : ((0 : Int) == 0) = true := rfl
        have HQ1 := Lib.hid ((runT_ok (t := fun s => s.rwrite (g.file + 1) 0 (whl l)) (T := [fun s => s.rflush (g.file + 1), fun s => s.rturn g.file (g.file + 1)]) HE1.out rfl).symm.trans HQ0.out)
        obtain ⟨⟨E2, S2⟩, hE⟩ : ∃ q, (S1.rflush (g.file + 1)) = q := ⟨_, rfl⟩
        have HE2 := Lib.hid hE
        have HDr := Lib.hid H.out.drew
        have HC : Hid (∀ w', Hid (RLOp B w w' lb db v g S1) → Calls Try.prog 44 #[.pointer (some ⟨db, 0, none⟩), .int .i64 nx] w' fun e w2 => e = .returned (.int .i64 E2) ∧ RLOp B w w2 lb db v g S2) := Lib.hid fun w' h => by
          have := HC2.out w' S1 h
          rw [HGF.out, HNX.out] at hE
          rw [hE] at this; exact this
        have CS0 := HCS.out _ _ HDr
        clear hE
        go_wp2_with fail
        go_region_held3 (fun w' => w'.cell? ⟨lb, 0, none⟩ = some (.pointer (some ⟨db, 0, none⟩)) ∧ w'.cell? ⟨lb, 1, none⟩ = some (.int .i64 gf)) (first | exact CS0 | exact HCS.out _ _ (by assumption) | fail) ((go_at_call 44; (with_reducible refine (HC.out _ (by assumption)).mono ?_); rintro e wk2 ⟨rfl, ho⟩; have HN2 := Lib.hid ho; clear ho))
        have H := HN2
        clear HDr CS0 HC HN2
        by_cases hE0 : E2 = 0
        · subst hE0
          have k2 : ((0 : Int) == 0) = true := rfl
          have HQ2 := Lib.hid ((runT_ok (t := fun s => s.rflush (g.file + 1)) (T := [fun s => s.rturn g.file (g.file + 1)]) HE2.out rfl).symm.trans HQ1.out)
          obtain ⟨⟨E3, S3⟩, hE⟩ : ∃ q, (S2.rturn g.file (g.file + 1)) = q := ⟨_, rfl⟩
          have HE3 := Lib.hid hE
          have HDr := Lib.hid H.out.drew
          have HC : Hid (∀ w', Hid (RLOp B w w' lb db v g S2) → Calls Try.prog 58 #[.pointer (some ⟨db, 0, none⟩), .int .i64 gf, .int .i64 nx] w' fun e w2 => e = .returned (.int .i64 E3) ∧ RLOp B w w2 lb db v g S3) := Lib.hid fun w' h => by
            have := HC3.out w' S2 h
            rw [HGF.out, HNX.out] at hE
            rw [hE] at this; exact this
          have CS0 := HCS.out _ _ HDr
          clear hE
          go_wp2_with fail
          go_region_held3 (fun w' => w'.cell? ⟨lb, 0, none⟩ = some (.pointer (some ⟨db, 0, none⟩)) ∧ w'.cell? ⟨lb, 1, none⟩ = some (.int .i64 gf)) (first | exact CS0 | exact HCS.out _ _ (by assumption) | fail) ((go_at_call 58; (with_reducible refine (HC.out _ (by assumption)).mono ?_); rintro e wk3 ⟨rfl, ho⟩; have HN3 := Lib.hid ho; clear ho))
          have H := HN3
          clear HDr CS0 HC HN3
          by_cases hE0 : E3 = 0
          · subst hE0
            have k2 : ((0 : Int) == 0) = true := rfl
            have HQ3 : Hid ((0, S3) = Q) := Lib.hid ((runT_ok (t := fun s => s.rturn g.file (g.file + 1)) (T := []) HE3.out rfl).symm.trans HQ2.out)
            have HR2 : Hid (R = (0, ⟨g.file, l, l.length⟩, S3)) := Lib.hid (by rw [HG.out, ← HQ3.out, if_pos rfl])
            obtain ⟨c0, c1, c2, c3, fz⟩ := H.out.at_.lg.cells
            have f2 := fz 2
            have f3 := fz 3
            obtain ⟨vA, vcap, w6, hrun, hown, hb6⟩ := app_rows (HRW.out _ _ _ H.out) (by have := HLL.out; omega)
            have HS := Lib.hid (H.out.trans (RD.rep H.out.at_ hb6 hown (by have := HXL.out; omega)))
            have lbl := H.out.at_.lg.bx.lt
            have y2 := keep_below hb6 c2
            have y3 := keep_below hb6 c3
            have g2 : w6.frozen? ⟨lb, 2, none⟩ = false := (hb6.frozen (p := ⟨lb, 2, none⟩) lbl).trans f2
            have g3 : w6.frozen? ⟨lb, 3, none⟩ = false := (hb6.frozen (p := ⟨lb, 3, none⟩) lbl).trans f3
            have HRUN := Lib.hid hrun
            rw [HN.out] at HRUN HS HR2
            clear fz c0 c1 c2 c3 f2 f3 hrun hown hb6 lbl
            go_wp2_with (at_builtin; refine Lib.wpList_append_run_sl _ rfl _ _ 36 rfl _ _ rfl rfl HRUN.out ?_)
            go_ret
            exact ⟨by rw [HR2.out]; rfl, by rw [HR2.out]; exact ⟨_, HS.out⟩⟩
          · have k2 : (E3 == 0) = false := by rw [beq_eq_false_iff_ne]; exact hE0
            have HQ3 := Lib.hid ((runT_no (t := fun s => s.rturn g.file (g.file + 1)) (T := []) HE3.out hE0).symm.trans HQ2.out)
            have HR2 : Hid (R = (E3, g, S3)) := Lib.hid (by rw [HG.out, ← HQ3.out, if_neg hE0])
            clear hE0
            go_wp2_with fail
            go_ret
            exact ⟨by rw [HR2.out]; rfl, by rw [HR2.out]; exact ⟨v, H.out⟩⟩
        · have k2 : (E2 == 0) = false := by rw [beq_eq_false_iff_ne]; exact hE0
          have HQ2 := Lib.hid ((runT_no (t := fun s => s.rflush (g.file + 1)) (T := [fun s => s.rturn g.file (g.file + 1)]) HE2.out hE0).symm.trans HQ1.out)
          have HR2 : Hid (R = (E2, g, S2)) := Lib.hid (by rw [HG.out, ← HQ2.out, if_neg hE0])
          clear hE0
          go_wp2_with fail
          go_ret
          exact ⟨by rw [HR2.out]; rfl, by rw [HR2.out]; exact ⟨v, H.out⟩⟩
      · have k2 : (E1 == 0) = false := by rw [beq_eq_false_iff_ne]; exact hE0
        have HQ1 := Lib.hid ((runT_no (t := fun s => s.rwrite (g.file + 1) 0 (whl l)) (T := [fun s => s.rflush (g.file + 1), fun s => s.rturn g.file (g.file + 1)]) HE1.out hE0).symm.trans HQ0.out)
        have HR2 : Hid (R = (E1, g, S1)) := Lib.hid (by rw [HG.out, ← HQ1.out, if_neg hE0])
        clear hE0
        go_wp2_with fail
        go_ret
        exact ⟨by rw [HR2.out]; rfl, by rw [HR2.out]; exact ⟨v, H.out⟩⟩
  · have k2 : (E0 == 0) = false := by rw [beq_eq_false_iff_ne]; exact hE0
    have HQ0 := Lib.hid ((runT_no (t := fun s => s.rcut (g.file + 1) 0) (T := [fun s => s.rwrite (g.file + 1) 0 (whl l), fun s => s.rflush (g.file + 1), fun s => s.rturn g.file (g.file + 1)]) HE0.out hE0).symm.trans HQ.out)
    have HR2 : Hid (R = (E0, g, S0)) := Lib.hid (by rw [HG.out, ← HQ0.out, if_neg hE0])
    clear hE0
    go_wp2_with fail
    go_ret
    exact ⟨by rw [HR2.out]; rfl, by rw [HR2.out]; exact ⟨v, H.out⟩⟩
end Go.Proofs.Ythdmcjiccbgknaa

namespace Go.Proofs.Ythdmcjiccbgknaa
set_option linter.unusedVariables false
set_option linter.unusedSimpArgs false
open Go.RowKit

def ROpenPost (w : World) (db : Nat) (s : Dk) (f : Int) (e : Ending) (w' : World) : Prop :=
  Below w.heap.size w w' ∧
  if f < 0 ∨ 6 < f then e = .returned (.tuple #[.pointer none, .int .i64 1])
  else if (s.read f).2 ≠ 0 then e = .returned (.tuple #[.pointer none, .int .i64 (s.read f).2])
  else match parseS (s.read f).1 with
    | none => e = .returned (.tuple #[.pointer none, .int .i64 2])
    | some l => ∃ lb v, w.heap.size ≤ lb ∧ (∀ k, v.ownBlock = some k → w.heap.size ≤ k) ∧ e = .returned (.tuple #[.pointer (some ⟨lb, 0, none⟩), .int .i64 0]) ∧ RLAt w' lb db v ⟨f, l, l.length⟩
set_option maxRecDepth 100000 in
set_option maxHeartbeats 4000000 in
theorem rOpenP {B : Nat → Prop} {w : World} {db : Nat} {s : Dk} (h : RefAt B w db s) (f : Int) (hrs : (s.read f).1.size ≤ 100000000) :
    Calls Try.prog 13 #[.pointer (some ⟨db, 0, none⟩), .int .i64 f] w (ROpenPost w db s f) := by
  by_cases hf : f < 0 ∨ 6 < f
  · have HP : Hid (ROpenPost w db s f (.returned (.tuple #[.pointer none, .int .i64 1])) w) := Lib.hid ⟨Below.refl _ _, by rw [if_pos hf]⟩
    clear h hrs
    rcases Int.lt_or_le f 0 with h0 | h0
    · have k1 : decide (f < 0) = true := decide_eq_true h0
      clear hf
      go_enter Try.func13, Try.ntmps13
      go_wp2_with fail
      go_ret2
      exact HP.out
    · have k1 : decide (f < 0) = false := decide_eq_false (by omega)
      have k2 : decide (6 < f) = true := decide_eq_true (by omega)
      have k3 : decide (f > 6) = true := decide_eq_true (by omega)
      clear hf
      go_enter Try.func13, Try.ntmps13
      go_wp2_with fail
      go_ret2
      exact HP.out
  · have k1 : decide (f < 0) = false := decide_eq_false (by omega)
    have k2 : decide (6 < f) = false := decide_eq_false (by omega)
    have k3 : decide (f > 6) = false := decide_eq_false (by omega)
    have HR := Lib.hid (ReadR h f)
    have HPO : Hid (∀ e w', ROpenPost w db s f e w' ↔ (Below w.heap.size w w' ∧ if (s.read f).2 ≠ 0 then e = .returned (.tuple #[.pointer none, .int .i64 (s.read f).2])
      else match parseS (s.read f).1 with
        | none => e = .returned (.tuple #[.pointer none, .int .i64 2])
        | some l => ∃ lb v, w.heap.size ≤ lb ∧ (∀ k, v.ownBlock = some k → w.heap.size ≤ k) ∧ e = .returned (.tuple #[.pointer (some ⟨lb, 0, none⟩), .int .i64 0]) ∧ RLAt w' lb db v ⟨f, l, l.length⟩)) := Lib.hid (fun e w' => by unfold ROpenPost; rw [if_neg hf])
    clear hf h
    obtain ⟨t, ht⟩ : ∃ t, (s.read f).1 = t := ⟨_, rfl⟩
    obtain ⟨x, hx⟩ : ∃ x, (s.read f).2 = x := ⟨_, rfl⟩
    rw [ht, hx] at HR HPO
    rw [ht] at hrs
    clear ht hx
    by_cases hx0 : x = 0
    · subst hx0
      have HQ := Lib.hid (fun w => rowsP t w (by omega))
      have hpe := parse_ext t
      obtain ⟨r, hr⟩ : ∃ r, parseS t = r := ⟨_, rfl⟩
      rw [hr] at HPO hpe
      simp only [hr] at HQ
      have HPE := Lib.hid hpe
      clear hr hpe
      go_enter Try.func13, Try.ntmps13
      go_wp2_with fail
      refine HR.out.mono ?_; rintro e w2 ⟨rfl, hb⟩
      have HB := Lib.hid hb
      clear hb
      go_wp2_with fail
      refine (HQ.out _).mono ?_
      rintro e w3 hq
      rcases r with _ | l
      · obtain ⟨v, rfl, hb⟩ := hq
        have HB2 := Lib.hid (HB.out.trans (hb.mono HB.out.size))
        clear hb
        go_wp2_with fail
        go_ret2
        rw [HPO.out]
        exact ⟨HB2.out, by rw [if_neg (fun h => h rfl)]; rfl⟩
      · obtain ⟨v, rfl, hown, hb⟩ := hq
        have HB2 := Lib.hid (HB.out.trans (hb.mono HB.out.size))
        have hl := HPE.out l rfl
        have hlt := World.ownsRow.lt hown
        have hnew : Hid (∀ k, v.ownBlock = some k → w.heap.size ≤ k) := Lib.hid (fun k hk => Nat.le_trans HB.out.size (hlt k hk).1)
        have hne : v.ownBlock ≠ some w3.heap.size := fun e => by have := (hlt _ e).2; omega
        have hown0 : w3.ownsRow 0 9 1 v l.length (sv l) := by
          refine ⟨hown.1, ?_⟩
          rcases hown.2 with h | ⟨k, cap, cur, h1, h2, r⟩
          · exact .inl h
          · exact .inr ⟨k, cap, cur, h1, Nat.zero_le _, r⟩
        obtain ⟨A, cap, rfl⟩ : ∃ A cap, v = .slice A l.length cap := by
          obtain ⟨A, cap, h, _⟩ := Row.of_own hown
          rw [sv_length] at h
          exact ⟨A, cap, h⟩
        have H1 : Hid (RLAt (w3.alloc (.cells #[.pointer (some ⟨db, 0, none⟩), .int .i64 f, .slice A l.length cap, .int .i64 l.length] 51)) w3.heap.size db (.slice A l.length cap) ⟨f, l, l.length⟩) := Lib.hid ⟨Blk.new _ _ _, World.ownsRow.alloc hown0 _, hne, by show ext l ≤ _; omega⟩
        have HB4 : Hid (Below w.heap.size w (w3.alloc (.cells #[.pointer (some ⟨db, 0, none⟩), .int .i64 f, .slice A l.length cap, .int .i64 l.length] 51))) := Lib.hid (HB2.out.trans ((below_new w3 _).mono HB2.out.size))
        clear hown hb hlt hown0 hne hl
        go_wp2_with fail
        go_ret2
        rw [HPO.out]
        refine ⟨HB4.out, ?_⟩
        rw [if_neg (fun h => h rfl)]
        exact ⟨_, _, HB2.out.size, hnew.out, rfl, H1.out⟩
    · have k4 : (x != 0) = true := by rw [bne_iff_ne]; exact hx0
      have k5 : (x == 0) = false := by rw [beq_eq_false_iff_ne]; exact hx0
      have HX := Lib.hid hx0
      clear hx0
      go_enter Try.func13, Try.ntmps13
      go_wp2_with fail
      refine HR.out.mono ?_; rintro e w2 ⟨rfl, hb⟩
      have HB := Lib.hid hb
      clear hb
      go_wp2_with fail
      go_ret2
      rw [HPO.out]
      exact ⟨HB.out, by rw [if_pos HX.out]; rfl⟩
end Go.Proofs.Ythdmcjiccbgknaa

namespace Go.Proofs.Ythdmcjiccbgknaa
set_option linter.unusedVariables false
set_option linter.unusedSimpArgs false
open Go.RowKit

def All2 {α β : Type} (R : α → β → Prop) : List α → List β → Prop
  | [], [] => True
  | a :: l, b :: m => R a b ∧ All2 R l m
  | _, _ => False
def StepR (t t' : Dk → Int × Dk) : Prop := ∀ s K, (s.calls ≠ 0 → K = s.keep) → ∃ K', t' (s.wk K) = ((t s).1, (t s).2.wk K') ∧ ((t s).2.calls ≠ 0 → K' = (t s).2.keep)
def StepP (t : Dk → Int × Dk) (n : Nat) : Prop := ∀ s : Dk, (t s).2.pend.length ≤ s.pend.length + n
theorem runT_wk : ∀ (T T' : List (Dk → Int × Dk)), All2 StepR T T' → StepR (runT T) (runT T')
  | [], [], _ => fun s K h => ⟨K, rfl, h⟩
  | [], _ :: _, h => h.elim
  | _ :: _, [], h => h.elim
  | t :: T, t' :: T', ⟨h1, h2⟩ => fun s K hK => by
    obtain ⟨K1, e1, h3⟩ := h1 s K hK
    obtain ⟨⟨E, S⟩, hE⟩ : ∃ q, t s = q := ⟨_, rfl⟩
    rw [hE] at e1 h3
    by_cases h0 : E = 0
    · rw [runT_ok (t := t) hE h0, runT_ok (t := t') e1 h0]
      exact runT_wk T T' h2 S K1 h3
    · rw [runT_no (t := t) hE h0, runT_no (t := t') e1 h0]
      exact ⟨K1, rfl, h3⟩
theorem runT_pend : ∀ (T : List (Dk → Int × Dk)) (ns : List Nat), All2 StepP T ns → StepP (runT T) ns.sum
  | [], [], _ => fun s => Nat.le_refl _
  | [], _ :: _, h => h.elim
  | _ :: _, [], h => h.elim
  | t :: T, n :: ns, ⟨h1, h2⟩ => fun s => by
    have a := h1 s
    obtain ⟨⟨E, S⟩, hE⟩ : ∃ q, t s = q := ⟨_, rfl⟩
    rw [hE] at a
    by_cases h0 : E = 0
    · rw [runT_ok (t := t) hE h0]
      have := runT_pend T ns h2 S
      simp only [List.sum_cons]
      simp only at a
      omega
    · rw [runT_no (t := t) hE h0]
      simp only [List.sum_cons]
      simp only at a ⊢
      omega
theorem wk_append {g : Lg} {s : Dk} {K : List Int} (hK : s.calls ≠ 0 → K = s.keep) (row : ByteArray) : ∃ K', g.rappend (s.wk K) row = ((g.append s row).1, (g.append s row).2.1, (g.append s row).2.2.wk K') ∧ ((g.append s row).2.2.calls ≠ 0 → K' = (g.append s row).2.2.keep) := by
  obtain ⟨K', h1, h2⟩ := wk_write s K g.file (ext g.rows) (frm row) hK
  refine ⟨K', ?_, ?_⟩
  · unfold Lg.rappend Lg.append
    simp only [h1]
    split <;> rfl
  · unfold Lg.append
    simp only
    split <;> exact h2
theorem steps_flush (f : Int) (h : ByteArray) : All2 StepR [fun s => s.flush f, fun s => s.write f 0 h, fun s => s.flush f] [fun s => s.rflush f, fun s => s.rwrite f 0 h, fun s => s.rflush f] :=
  ⟨fun s K hK => wk_flush s K f hK, fun s K hK => wk_write s K f 0 h hK, fun s K hK => wk_flush s K f hK, trivial⟩
theorem steps_rewrite (f n : Int) (h : ByteArray) : All2 StepR [fun s => s.cut n 0, fun s => s.write n 0 h, fun s => s.flush n, fun s => s.turn f n] [fun s => s.rcut n 0, fun s => s.rwrite n 0 h, fun s => s.rflush n, fun s => s.rturn f n] :=
  ⟨fun s K hK => wk_cut s K n 0 hK, fun s K hK => wk_write s K n 0 h hK, fun s K hK => wk_flush s K n hK, fun s K hK => wk_turn s K f n hK, trivial⟩
theorem wk_flushL {g : Lg} {s : Dk} {K : List Int} (hK : s.calls ≠ 0 → K = s.keep) : ∃ K', g.rflush (s.wk K) = ((g.flush s).1, (g.flush s).2.1, (g.flush s).2.2.wk K') ∧ ((g.flush s).2.2.calls ≠ 0 → K' = (g.flush s).2.2.keep) := by
  unfold Lg.rflush Lg.flush
  by_cases hs : g.sure = g.rows.length
  · rw [if_pos hs, if_pos hs]
    exact ⟨K, rfl, hK⟩
  · rw [if_neg hs, if_neg hs]
    obtain ⟨K', h1, h2⟩ := runT_wk _ _ (steps_flush g.file (hdr (ext g.rows) g.rows.length)) s K hK
    refine ⟨K', ?_, ?_⟩
    · simp only [h1]
      split <;> rfl
    · simp only
      split <;> exact h2
theorem wk_rewriteL {g : Lg} {s : Dk} {K : List Int} (hK : s.calls ≠ 0 → K = s.keep) (l : List ByteArray) : ∃ K', g.rrewrite (s.wk K) l = ((g.rewrite s l).1, (g.rewrite s l).2.1, (g.rewrite s l).2.2.wk K') ∧ ((g.rewrite s l).2.2.calls ≠ 0 → K' = (g.rewrite s l).2.2.keep) := by
  unfold Lg.rrewrite Lg.rewrite
  obtain ⟨K', h1, h2⟩ := runT_wk _ _ (steps_rewrite g.file (g.file + 1) (whl l)) s K hK
  refine ⟨K', ?_, ?_⟩
  · simp only [h1]
    split <;> rfl
  · simp only
    split <;> exact h2
/-- What is known of a log and its disk behind k deeds. -/
structure GI (f : Int) (k : Nat) (g : Lg) (s : Dk) : Prop where
  fi : g.file = f
  ex : ext g.rows ≤ 16777300 + 208 * k
  su : g.sure ≤ 1000000000
  pe : s.pend.length ≤ 2000 * k
theorem GI.append {f : Int} {k : Nat} {g : Lg} {s : Dk} (h : GI f k g s) {row : ByteArray} (hr : row.size ≤ 200) : GI f (k + 1) (g.append s row).2.1 (g.append s row).2.2 := by
  have hp := Dk.write_pend s g.file (ext g.rows) (frm row)
  rw [frm_size] at hp
  have he := ext_app g.rows row
  have := h.ex
  have := h.pe
  unfold Lg.append
  simp only
  split
  · exact ⟨h.fi, by simp only; omega, h.su, by simp only; omega⟩
  · exact ⟨h.fi, by simp only; omega, h.su, by simp only; omega⟩
theorem GI.flush {f : Int} {k : Nat} {g : Lg} {s : Dk} (h : GI f k g s) (hk : k ≤ 100) : GI f (k + 1) (g.flush s).2.1 (g.flush s).2.2 := by
  have h1 := h.ex
  have h2 := h.pe
  have h3 := ext_len g.rows
  have hp := runT_pend [fun s => s.flush g.file, fun s => s.write g.file 0 (hdr (ext g.rows) g.rows.length), fun s => s.flush g.file] [0, 16, 0] ⟨fun s => Dk.flush_pend s _, fun s => by have := Dk.write_pend s g.file 0 (hdr (ext g.rows) g.rows.length); rw [hdr_size] at this; exact this, fun s => Dk.flush_pend s _, trivial⟩ s
  simp only [List.sum_cons, List.sum_nil] at hp
  unfold Lg.flush
  split
  · exact ⟨h.fi, by simp only; omega, h.su, by simp only; omega⟩
  · simp only
    split
    · exact ⟨h.fi, by simp only; omega, by simp only; omega, by simp only; omega⟩
    · exact ⟨h.fi, by simp only; omega, h.su, by simp only; omega⟩
theorem GI.rewrite {f : Int} {k : Nat} {g : Lg} {s : Dk} (h : GI f k g s) {l : List ByteArray} (hx : ext l ≤ 1264) : GI f (k + 1) (g.rewrite s l).2.1 (g.rewrite s l).2.2 := by
  have h1 := h.ex
  have h2 := h.pe
  have h3 := ext_len l
  have hp := runT_pend [fun s => s.cut (g.file + 1) 0, fun s => s.write (g.file + 1) 0 (whl l), fun s => s.flush (g.file + 1), fun s => s.turn g.file (g.file + 1)] [0, ext l, 0, 0] ⟨fun s => Dk.cut_pend s _ _, fun s => by have := Dk.write_pend s (g.file + 1) 0 (whl l); rw [whl_size] at this; exact this, fun s => Dk.flush_pend s _, fun s => Dk.turn_pend s _ _, trivial⟩ s
  simp only [List.sum_cons, List.sum_nil] at hp
  unfold Lg.rewrite
  simp only
  split
  · exact ⟨h.fi, by simp only; omega, by simp only; omega, by simp only; omega⟩
  · exact ⟨h.fi, by simp only; omega, h.su, by simp only; omega⟩
/-- The two logs with their disks, apart, in new memory. -/
def TL (W w : World) (lb db : Nat) (vl : Value) (g : Lg) (s : Dk) (lr dr : Nat) (vr : Value) (g' : Lg) (r : Dk) : Prop := ∃ B C : Nat → Prop, LD B w lb db vl g s ∧ RD C w lr dr vr g' r ∧ (∀ k, B k → ¬ C k) ∧ (∀ k, B k → W.heap.size ≤ k ∧ k < w.heap.size) ∧ (∀ k, C k → W.heap.size ≤ k ∧ k < w.heap.size) ∧ Below W.heap.size W w
theorem TL.bel {W w : World} {lb db lr dr : Nat} {vl vr : Value} {g g' : Lg} {s r : Dk} (h : TL W w lb db vl g s lr dr vr g' r) : Below W.heap.size W w := by obtain ⟨_, _, _, _, _, _, _, h⟩ := h; exact h
theorem TL.below {W w w2 : World} {lb db lr dr : Nat} {vl vr : Value} {g g' : Lg} {s r : Dk} (h : TL W w lb db vl g s lr dr vr g' r) (b : Below w.heap.size w w2) : TL W w2 lb db vl g s lr dr vr g' r := by
  obtain ⟨B, C, h1, h2, h3, h4, h5, h6⟩ := h
  exact ⟨B, C, h1.below b, h2.below b, h3, fun k hk => ⟨(h4 k hk).1, Nat.lt_of_lt_of_le (h4 k hk).2 b.size⟩, fun k hk => ⟨(h5 k hk).1, Nat.lt_of_lt_of_le (h5 k hk).2 b.size⟩, h6.trans (b.mono h6.size)⟩
theorem TL.left {W w w2 : World} {lb db lr dr : Nat} {vr vl2 : Value} {g' g2 : Lg} {r s2 : Dk} (B C : Nat → Prop) (h2 : RD C w lr dr vr g' r) (h3 : ∀ k, B k → ¬ C k) (h4 : ∀ k, B k → W.heap.size ≤ k ∧ k < w.heap.size) (h5 : ∀ k, C k → W.heap.size ≤ k ∧ k < w.heap.size) (h6 : Below W.heap.size W w) (o : LOp B w w2 lb db vl2 g2 s2) : TL W w2 lb db vl2 g2 s2 lr dr vr g' r := by
  have hs := o.fr.size
  refine ⟨_, C, o.at_, h2.fr o.fr fun k hk hc hb => h3 k hb hc, ?_, ?_, fun k hk => ⟨(h5 k hk).1, Nat.lt_of_lt_of_le (h5 k hk).2 hs⟩, h6.trans (o.fr.to_below h6.size fun k hk hb => by have := (h4 k hb).1; omega)⟩
  · intro k hk hc
    rcases hk with hk | hk
    · exact h3 k hk hc
    · have := (h5 k hc).2; omega
  · intro k hk
    rcases hk with hk | hk
    · exact ⟨(h4 k hk).1, Nat.lt_of_lt_of_le (h4 k hk).2 hs⟩
    · exact ⟨Nat.le_trans h6.size hk.1, hk.2⟩
theorem TL.right {W w w2 : World} {lb db lr dr : Nat} {vl vr2 : Value} {g g2 : Lg} {s r2 : Dk} (B C : Nat → Prop) (h1 : LD B w lb db vl g s) (h3 : ∀ k, B k → ¬ C k) (h4 : ∀ k, B k → W.heap.size ≤ k ∧ k < w.heap.size) (h5 : ∀ k, C k → W.heap.size ≤ k ∧ k < w.heap.size) (h6 : Below W.heap.size W w) (o : RLOp C w w2 lr dr vr2 g2 r2) : TL W w2 lb db vl g s lr dr vr2 g2 r2 := by
  have hs := o.fr.size
  refine ⟨B, _, h1.fr o.fr fun k hk hb hc => h3 k hb hc, o.at_, ?_, fun k hk => ⟨(h4 k hk).1, Nat.lt_of_lt_of_le (h4 k hk).2 hs⟩, ?_, h6.trans (o.fr.to_below h6.size fun k hk hb => by have := (h5 k hb).1; omega)⟩
  · intro k hb hk
    rcases hk with hk | hk
    · exact h3 k hb hk
    · have := (h4 k hb).2; omega
  · intro k hk
    rcases hk with hk | hk
    · exact ⟨(h5 k hk).1, Nat.lt_of_lt_of_le (h5 k hk).2 hs⟩
    · exact ⟨Nat.le_trans h6.size hk.1, hk.2⟩
end Go.Proofs.Ythdmcjiccbgknaa
