/-
  The walk of the law DiskLasts, cut where its ways meet.
-/
import Derived.Test.YtlphblnnloigiaaDlr
import Derived.Deep.DeepCutAuto
namespace Go.Proofs.Ytlphblnnloigiaa.diskLastN
set_option linter.unusedVariables false
set_option linter.unusedSimpArgs false
open Go.RowKit

/-- The loop that looks at the files behind a crash. -/
def LcRel (X : List Prot) (W : World) (d gS : Nat) (s : Dk) (old : List ByteArray) (v : Value) (since : List Ae) (i : Value) (wl : World) : Prop := ∃ k : Nat, i = .int .i64 k ∧ k ≤ 8 ∧ ∃ sf : List ByteArray, LS X W wl d gS s sf v since ∧ sf.length = 8 ∧ ∀ j, j < 8 → sf.getD j (bs []) = if j < k then s.d j else old.getD j (bs [])
def LwRel (w0 : World) (s : Dk) (x i : Value) (wl : World) : Prop := ∃ k : Nat, i = .int .i64 k ∧ k ≤ 8 ∧ wl.ownsRow w0.heap.size 3 1 x k (iv ((List.range k).map fun j : Nat => ((s.size (j : Int) : Nat) : Int))) ∧ Below w0.heap.size w0 wl
def LfRel (X : List Prot) (W : World) (d gS : Nat) (s : Dk) (sf : List ByteArray) (v : Value) (since : List Ae) (i : Value) (wl : World) : Prop := ∃ k : Nat, i = .int .i64 k ∧ k ≤ 8 ∧ LS X W wl d gS s sf v since
def bc (a : Ac) (A : Option Addr) (n c : Nat) : Array Value := #[.int .i64 a.o, .int .i64 a.f, .int .i64 a.g, .int .i64 a.n, .string a.s, .slice A n c]
theorem dur_eq {sf : List ByteArray} {s : Dk} (h8 : sf.length = 8) (hd : s.dur.length = 8) (h : ∀ j, j < 8 → sf.getD j (bs []) = s.d j) : sf = s.dur := by
  apply List.ext_getElem (by omega)
  intro i h1 h2
  have := h i (by omega)
  unfold Dk.d at this
  rw [List.getD_eq_getElem?_getD, List.getD_eq_getElem?_getD, List.getElem?_eq_getElem h1, List.getElem?_eq_getElem h2] at this
  exact this

set_option maxRecDepth 100000 in
set_option maxHeartbeats 0 in
theorem walk (W : World) (v0 : Value) (l : List Ac) (v1 : Value) (keep : List Int) (w0 : OpenActs W v0 l) (w1 : IRow W W.heap.size v1 keep ∧ ∀ z ∈ keep, -9223372036854775808 ≤ z ∧ z ≤ 9223372036854775807) :
    Calls Try.prog 3 #[v0, v1] W fun e w' => e = .returned (.bool true) ∧ Below W.heap.size W w' := by
  obtain ⟨har, hwf, hlen⟩ := w0
  replace w1 := w1.1
  obtain ⟨A, cap, rfl, hA⟩ := har
  have har : ARow W W.heap.size (.slice A l.length cap) l := ⟨A, cap, rfl, hA⟩
  have HAR : Hid (∀ w', Below W.heap.size W w' → ARow w' w'.heap.size (.slice A l.length cap) l) := Lib.hid fun w' hb => har.keep hb
  have HKR : Hid (∀ w', Below W.heap.size W w' → IRow w' w'.heap.size v1 keep) := Lib.hid fun w' hb => w1.keep hb
  have HWF := Lib.hid hwf
  have HS := Lib.hid (small6 W)
  clear hA har hwf w1
  go_enter Try.func3, Try.ntmps3
  go_wp2_with fail
  refine HS.out.mono ?_; rintro e w2 ⟨rfl, hb2⟩
  have HN := Lib.hid (dNew w2)
  have HB2 := Lib.hid hb2
  clear hb2 HS
  go_wp2_with fail
  refine HN.out.mono ?_; rintro e w3 ⟨d, rfl, h3⟩
  have H := Lib.hid (h3.base HB2.out)
  clear h3 HN HB2
  have HF := Lib.hid (fewP _ l w3 (HAR.out _ H.out.2) HWF.out hlen)
  rcases hfew : fewB l
  · rw [hfew] at HF
    clear hfew
    go_wp2_with fail
    refine HF.out.mono ?_; rintro e w4 ⟨rfl, hb4⟩
    have HE := Lib.hid (H.out.below hb4).2
    clear hb4
    go_wp2_with fail
    go_ret
    exact ⟨rfl, HE.out⟩
  · rw [hfew] at HF
    obtain ⟨hok, hl200, htot⟩ := fewB_parts hfew
    have HOK := Lib.hid hok
    have HTOT := Lib.hid htot
    clear hok hfew htot
    have hm8 := mkStr8
    go_wp2_with fail
    refine HF.out.mono ?_; rintro e w4 ⟨rfl, hb4⟩
    have HQ := Lib.hid (LS.begin_ (H.out.below hb4))
    clear hb4 HF H
    go_wp2_with fail
    obtain ⟨gS, hgS⟩ : ∃ gS, w4.heap.size = gS := ⟨_, rfl⟩
    rw [hgS] at HQ ⊢
    clear hgS
    go_loopg [8, 9] l.length (fun q x i wl => LoR W d gS l q x i wl)
    case atStart => exact ⟨0, dk0, [], rfl, by omega, by omega, HQ.out, ⟨fun p hp => (by cases hp), fun x hx => (by cases hx), rfl⟩, fun h => (by cases h), Nat.zero_le _, Nat.le_refl _⟩
    case round =>
      obtain ⟨k, s, since, rfl, hk, hq0, hL, hI, hdn, hpn, hsl⟩ := hrel
      have HG := Lib.hid hq0; clear hq0
      obtain ⟨wo, rfl⟩ : ∃ wo : World, wo = wr := ⟨_, rfl⟩
      have H := Lib.hid hL
      have HI := Lib.hid hI
      have HDN := Lib.hid hdn
      have HPN := Lib.hid hpn
      clear hL hI hdn hpn HQ hm8
      by_cases hlt : k < l.length
      · have q1 : (k : Int) < l.length := by omega
        obtain ⟨A', cap', he, hA⟩ := HAR.out W (Below.refl _ _)
        injection he with he1 _ he2
        subst he1; subst he2
        obtain ⟨b, off, rfl, hb, hc⟩ := hA (by omega)
        obtain ⟨uk, huk, c0, c1, c2, c3, c4, c5⟩ := hc k hlt
        obtain ⟨A3, cap3, rfl, huk2⟩ := huk
        have hbel := H.out.bel
        replace c0 := keep_below hbel c0
        replace c1 := keep_below hbel c1
        replace c2 := keep_below hbel c2
        replace c3 := keep_below hbel c3
        replace c4 := keep_below hbel c4
        replace c5 := keep_below hbel c5
        clear hbel
        have huk : IRow W W.heap.size (.slice A3 (ga l k).keep.length cap3) (ga l k).keep := ⟨A3, cap3, rfl, huk2⟩
        have hmem : ga l k ∈ l := by rw [ga_get l k hlt]; exact List.getElem_mem hlt
        have hp := HPN.out
        have ht1 := tot_take_le l k
        have ht2 := tot_snoc l k hlt
        have ht3 := tot_take_le l (k + 1)
        have htt := HTOT.out
        have hwfa := HWF.out _ hmem
        have hoka := HOK.out k hlt
        have hapd := act_pend s (ga l k)
        have HAPD : Hid ((s.act (ga l k)).2.2.pend.length ≤ tot (l.take (k + 1))) := Lib.hid (by unfold Ac.w at ht2; omega)
        have hwa : (ga l k).w ≤ 5000 := by omega
        have hpn5 : s.pend.length ≤ 5000 := by omega
        obtain ⟨a, ha⟩ : ∃ a, ga l k = a := ⟨_, rfl⟩
        rw [ha] at c0 c1 c2 c3 c4 c5 huk hwfa hoka hwa HAPD
        have H1 := Lib.hid (H.out.add 30 (bc a A3 a.keep.length cap3))
        obtain ⟨m, hm⟩ : ∃ m, a.keep.length = m := ⟨_, rfl⟩
        have HUK : Hid (∀ w', Below W.heap.size W w' → IRow w' w'.heap.size (.slice A3 m cap3) a.keep) := Lib.hid fun w' hb => by rw [← hm]; exact huk.keep hb
        rw [hm] at H1
        rw [hm] at c5
        obtain ⟨x, hx⟩ : ∃ x : Ae, x = ⟨a, A3, m, cap3⟩ := ⟨_, rfl⟩
        have hxa : x.a = a := by rw [hx]
        obtain ⟨W1, hW1⟩ : ∃ W1, wo.alloc (.cells (bc a A3 m cap3) 30) = W1 := ⟨_, rfl⟩
        have hb1 : Below wo.heap.size wo W1 := by rw [← hW1]; exact below_new _ _
        rw [hW1] at H1
        unfold bc at hW1
        have HWF1 := Lib.hid hwfa
        have HX := Lib.hid hx
        have HXA := Lib.hid hxa
        have HB1 := Lib.hid hb1
        have HOKA := Lib.hid hoka
        have ho1 := hwfa.o
        have HPO := Lib.hid (post_of x HI.out HDN.out (by rw [hxa]; exact hoka))
        clear hA hc huk2 huk hb hmem hp ht1 ht2 ht3 htt hwfa hoka hapd ha hm hx hxa hb1
        have HPK := Lib.hid (fun w => pickP a.o ho1.1 ho1.2 w)
        obtain ⟨K, hK⟩ : ∃ K, a.o % 11 = K := ⟨_, rfl⟩
        have HK := Lib.hid hK
        rw [hK] at HPK
        have hK0 : 0 ≤ K ∧ K < 11 := by omega
        clear hK
        have HDW := Lib.hid (lDown H1.out)
        have HNF : Hid (a.n < 4000 ∨ 16777216 < a.n) := by
          have := HOKA.out; unfold okN at this; rw [decide_eq_true_iff] at this; exact Lib.hid (by omega)
        rw [HXA.out] at HPO
        obtain ⟨dn, hdn⟩ : ∃ b, s.down = b := ⟨_, rfl⟩
        have HDn := Lib.hid hdn
        rw [hdn] at HDW
        clear hdn
        have hbx := H1.out.box
        unfold bc at hbx
        have x0 := hbx.cell 0
        have x1 := hbx.cell 1
        have x2 := hbx.cell 2
        have x3 := hbx.cell 3
        have x4 := hbx.cell 4
        have x5 := hbx.cell 5
        clear hbx
        go_wp2_with fail
        refine HDW.out.mono ?_; rintro e wy ⟨rfl, rfl⟩
        clear HDW hW1
        go_wp2_with fail
        refine (HPK.out _).mono ?_; rintro e wz ⟨rfl, rfl⟩
        clear HPK
        go_upto_region 13 with fail
        go_cut [68] (fun bv wl => BR (CondA s a K) W1 bv wl)
        case first =>
          by_cases a1 : K ≤ 1
          · have k1 : decide (K ≤ 1) = true := decide_eq_true a1
            cases dn
            · by_cases a2 : 0 ≤ a.n
              · have n1 : decide (a.n ≥ 0) = true := by rw [decide_eq_true_iff]; omega
                have n1' : decide (0 ≤ a.n) = true := decide_eq_true a2
                by_cases a3 : a.n < 4000
                · have n2 : decide (a.n < 4000) = true := decide_eq_true a3
                  have HY : Hid (BR (CondA s a K) W1 (.bool true) W1) := Lib.hid (BR.yes ⟨a1, HDn.out, a2, a3⟩)
                  go_wp2_with fail
                  go_meet
                  exact HY.out
                · have n2 : decide (a.n < 4000) = false := decide_eq_false a3
                  have HY : Hid (BR (CondA s a K) W1 (.bool false) W1) := Lib.hid (BR.no fun h => a3 h.2.2.2)
                  go_wp2_with fail
                  go_meet
                  exact HY.out
              · have n1 : decide (a.n ≥ 0) = false := by rw [decide_eq_false_iff_not]; omega
                have n1' : decide (0 ≤ a.n) = false := decide_eq_false a2
                have HY : Hid (BR (CondA s a K) W1 (.bool false) W1) := Lib.hid (BR.no fun h => a2 h.2.2.1)
                go_wp2_with fail
                go_meet
                exact HY.out
            · have HY : Hid (BR (CondA s a K) W1 (.bool false) W1) := Lib.hid (BR.no fun h => by have h2 := h.2.1; rw [HDn.out] at h2; cases h2)
              go_wp2_with fail
              go_meet
              exact HY.out
          · have k1 : decide (K ≤ 1) = false := decide_eq_false a1
            have HY : Hid (BR (CondA s a K) W1 (.bool false) W1) := Lib.hid (BR.no fun h => a1 h.1)
            go_wp2_with fail
            go_meet
            exact HY.out
        case rest =>
          obtain ⟨bb, rfl, hb1, hb0, hw⟩ := hcut
          rw [hw]; clear hw
          have HB1' := Lib.hid hb1
          have HB0 := Lib.hid hb0
          clear hb1 hb0
          obtain ⟨VV, rfl⟩ : ∃ V : Value, V = u8 := ⟨_, rfl⟩
          go_upto_if 68 with fail
          go_cut [8] (fun xv wl => AppR [(wo.heap.size, 30, bc a A3 m cap3)] W d gS s (sin1 s since x) xv wl)
          case first =>
            cases bb
            · have hn := HB0.out rfl
              have hs1 : sin1 s since x = since := by unfold sin1; rw [if_neg (by rw [HXA.out, HK.out]; exact hn)]
              go_wp2_with fail
              go_meet
              show LS _ _ _ _ _ _ _ _ _
              rw [hs1]
              exact H1.out
            · have hn := HB1'.out rfl
              have hs1 : sin1 s since x = since ++ [x] := by unfold sin1; rw [if_pos (by rw [HXA.out, HK.out]; exact hn)]
              have HS1 := Lib.hid hs1
              clear hn hs1
              obtain ⟨i0, hi0, hz0, hz1, hz2⟩ := info_parts infoE
              have hsl2 : since.length ≤ 200 := by omega
              have HAPP : Hid (∀ gg cap4 w5, World.ownsRow w5 W.heap.size 30 6 (.slice (some ⟨gg, 0, none⟩) (since.length + 1) cap4) (since.length + 1) (ae since ++ Ae.cs ⟨a, A3, m, cap3⟩) → (W1.alloc (.cells #[.int .i64 a.o, .int .i64 a.f, .int .i64 a.g, .int .i64 a.n, .string a.s, .slice A3 m cap3] 30)).grownBy w5 VV.ownBlock → (VV.ownBlock = some gg ∨ gg = W1.heap.size + 1) → LS [(wo.heap.size, 30, bc a A3 m cap3)] W w5 d gS s s.dur (.slice (some ⟨gg, 0, none⟩) (since.length + 1) cap4) (since ++ [x])) := Lib.hid fun gg cap4 w5 hown hgrow hat => by
                refine H1.out.since (grown_trans (grown_below (below_new W1 _) _) hgrow) ?_ ?_
                · unfold OwnE
                  rw [List.length_append, ae_append, HX.out]; exact hown
                · intro k hk
                  have hk2 : gg = k := by simpa [Value.ownBlock] using hk
                  rcases hat with h | h
                  · exact .inl (by rw [h, hk2])
                  · exact .inr (by omega)
              have HC1 : Hid (∀ (j : Nat) (y : Value), (Ae.cs ⟨a, A3, m, cap3⟩)[j]? = some y → (W1.alloc (.cells #[.int .i64 a.o, .int .i64 a.f, .int .i64 a.g, .int .i64 a.n, .string a.s, .slice A3 m cap3] 30)).cell? ((⟨W1.heap.size, 0, none⟩ : Addr).add j) = some y) := Lib.hid fun j y hy => by
                rw [Addr.add_lit, Nat.zero_add, (Blk.new W1 30 #[.int .i64 a.o, .int .i64 a.f, .int .i64 a.g, .int .i64 a.n, .string a.s, .slice A3 m cap3]).cell]
                simpa [Ae.cs] using hy
              have HL1 : Hid (since.length + 1 ≤ maxLen) := Lib.hid (by unfold maxLen; omega)
              have HL2 : Hid ((since.length + 1) * 72 ≤ 140737488355328) := Lib.hid (by omega)
              have HL3 : Hid (W.heap.size ≤ (W1.alloc (.cells #[.int .i64 a.o, .int .i64 a.f, .int .i64 a.g, .int .i64 a.n, .string a.s, .slice A3 m cap3] 30)).heap.size) := Lib.hid (by have := H1.out.bel.size; simp; omega)
              go_wp2_with (at_builtin; refine wpList_append_lies _ rfl _ _ 22 rfl W.heap.size 30 i0 (.agg #[.int .i64 0, .int .i64 0, .int .i64 0, .int .i64 0, .string (bs []), .slice none 0 0]) 6 72 Try.underlying22 hi0 hz0 hz1 hz2 rfl (by decide) _ _ _ rfl (World.ownsRow.alloc H1.out.own _) ⟨W1.heap.size, 0, none⟩ 1 1 (Ae.cs ⟨a, A3, m, cap3⟩) rfl rfl HC1.out (cs_one _) (by decide) HL1.out HL2.out HL3.out (W1.heap.size + 1) (by simp) ?_; intro gg cap4 w5 hown hgrow hat hlt5; have H2 := Lib.hid (HAPP.out gg cap4 w5 hown hgrow hat); clear hown hgrow hat hlt5 x0 x1 x2 x3 x4 x5; have hbx := H2.out.box; unfold bc at hbx; have x0 := hbx.cell 0; have x1 := hbx.cell 1; have x2 := hbx.cell 2; have x3 := hbx.cell 3; have x4 := hbx.cell 4; have x5 := hbx.cell 5; clear hbx)
              go_wp2_with fail
              go_meet
              show LS _ _ _ _ _ _ _ _ _
              rw [HS1.out]
              exact H2.out
          case rest =>
            have H2 : Hid (LS [(wo.heap.size, 30, bc a A3 m cap3)] W wc d gS s s.dur u8 (sin1 s since x)) := Lib.hid hcut
            clear hcut x0 x1 x2 x3 x4 x5 HB1' HB0 H1 H
            obtain ⟨w5, hw5⟩ : ∃ w, w = wc := ⟨_, rfl⟩
            rw [← hw5] at H2 ⊢
            clear hw5
            obtain ⟨A9, cap9, hu8, -⟩ := H2.out.own.cells
            obtain ⟨V2, hV2⟩ : ∃ V : Value, V = u8 := ⟨_, rfl⟩
            rw [← hV2] at hu8 H2 ⊢
            clear hV2 hu8
            have hbx := H2.out.box
            unfold bc at hbx
            have x0 := hbx.cell 0
            have x1 := hbx.cell 1
            have x2 := hbx.cell 2
            have x3 := hbx.cell 3
            have x4 := hbx.cell 4
            have x5 := hbx.cell 5
            clear hbx
            have HC := Lib.hid (lDo H2.out a (.slice A3 m cap3) (HUK.out _ H2.out.bel) HWF1.out hwa hpn5)
            unfold av at HC
            have DKL := Lib.hid (fun j => H2.out.ok.d_le j)
            have HSL := Lib.hid (sin1_len s since x)
            generalize (s.act a).2.2 = s1 at *
            generalize (s.act a).2.1 = E at *
            generalize (s.act a).1 = R1 at *
            go_wp2_with fail
            refine HC.out.mono ?_; rintro e w6 ⟨rfl, hx⟩
            have H3 := Lib.hid hx; clear hx HC H2 x0 x1 x2 x3 x4 x5
            unfold PostP at HPO
            rw [HXA.out, HK.out] at HPO
            go_upto_region 16 with fail
            go_cut [88] (fun bv wl => BR (CondC K E) w6 bv wl)
            case first =>
              by_cases e0 : E = 0
              · have f0 : (E == 0) = true := by rw [beq_iff_eq]; exact e0
                by_cases a2 : K = 2
                · have k2 : (K == 2) = true := by rw [beq_iff_eq]; exact a2
                  have HY : Hid (BR (CondC K E) w6 (.bool true) w6) := Lib.hid (BR.yes ⟨.inl a2, e0⟩)
                  clear a2 e0
                  go_wp2_with fail
                  go_meet
                  exact HY.out
                · have k2 : (K == 2) = false := by rw [beq_eq_false_iff_ne]; exact a2
                  by_cases a3 : K = 3
                  · have k3 : (K == 3) = true := by rw [beq_iff_eq]; exact a3
                    have HY : Hid (BR (CondC K E) w6 (.bool true) w6) := Lib.hid (BR.yes ⟨.inr a3, e0⟩)
                    clear a2 a3 e0
                    go_wp2_with fail
                    go_meet
                    exact HY.out
                  · have k3 : (K == 3) = false := by rw [beq_eq_false_iff_ne]; exact a3
                    have HY : Hid (BR (CondC K E) w6 (.bool false) w6) := Lib.hid (BR.no fun h => h.1.elim a2 a3)
                    clear a2 a3 e0
                    go_wp2_with fail
                    go_meet
                    exact HY.out
              · have f0 : (E == 0) = false := by rw [beq_eq_false_iff_ne]; exact e0
                have HY : Hid (BR (CondC K E) w6 (.bool false) w6) := Lib.hid (BR.no fun h => e0 h.2)
                clear e0
                by_cases a2 : K = 2
                · have k2 : (K == 2) = true := by rw [beq_iff_eq]; exact a2
                  clear a2
                  go_wp2_with fail
                  go_meet
                  exact HY.out
                · have k2 : (K == 2) = false := by rw [beq_eq_false_iff_ne]; exact a2
                  by_cases a3 : K = 3
                  · have k3 : (K == 3) = true := by rw [beq_iff_eq]; exact a3
                    clear a2 a3
                    go_wp2_with fail
                    go_meet
                    exact HY.out
                  · have k3 : (K == 3) = false := by rw [beq_eq_false_iff_ne]; exact a3
                    clear a2 a3
                    go_wp2_with fail
                    go_meet
                    exact HY.out
            case rest =>
              obtain ⟨bb, rfl, hb1, hb0, hw⟩ := hcut
              rw [hw]; clear hw
              have HB1' := Lib.hid hb1
              have HB0 := Lib.hid hb0
              clear hb1 hb0
              go_upto_if 88 with fail
              go_cut [8] (fun xv wl => CR [(wo.heap.size, 30, bc a A3 m cap3)] W d gS (k + 1) s s1 since (CondD K E) xv wl)
              case first =>
                cases bb
                · have hn := HB0.out rfl
                  have hpo := HPO.out
                  go_wp2_with fail
                  go_meet
                  rcases hpo with ⟨h1, h2, h3, h4, _⟩ | ⟨h1, h2, _⟩ | ⟨h1, h2⟩
                  · exact ⟨s.dur, _, H3.out, by have := HSL.out; omega, .inl ⟨⟨h1, h2⟩, rfl, h4⟩⟩
                  · exact absurd ⟨h1, h2⟩ hn
                  · exact ⟨s.dur, _, H3.out, by have := HSL.out; omega, .inr ⟨fun h => h1 (by unfold cares; rw [HXA.out, HK.out]; exact .inr (.inr h.1)) h.2, h2⟩⟩
                · as_aux_lemma =>
                    have hn := HB1'.out rfl
                    obtain ⟨hkk, he0, hd0, hs1, F, B, hout⟩ : (K = 2 ∨ K = 3) ∧ E = 0 ∧ s.down = false ∧ sin1 s since x = since ∧ ∃ F B, OutSet s since x (R1, E, s1) F B := by
                      rcases HPO.out with ⟨h1, _⟩ | h | ⟨h1, _⟩
                      · exfalso; have := hn.1; omega
                      · exact h
                      · exact absurd hn.2 (h1 (by unfold cares; rw [HXA.out, HK.out]; rcases hn.1 with h | h; exact .inl h; exact .inr (.inl h)))
                    subst he0
                    rw [hs1] at H3
                    have hk4 : K ≠ 4 := by omega
                    have HK4 := Lib.hid hk4
                    clear hn hkk hd0 hs1 hk4
                    obtain ⟨hh1, hh2, hh3, hh4, hh5, hh6, hh7, hh8⟩ := hout
                    have os1 := Lib.hid hh1
                    have os2 := Lib.hid hh2
                    have os3 := Lib.hid hh3
                    have os4 := Lib.hid hh4
                    have os5 := Lib.hid hh5
                    have os6 := Lib.hid hh6
                    have os7 := Lib.hid hh7
                    have os8 := Lib.hid hh8
                    clear hh1 hh2 hh3 hh4 hh6 hh7 hh8
                    have haf : a.f = (F : Int) := by rw [← HXA.out]; exact os4.out
                    have hrd := os7.out
                    rw [HXA.out, haf] at hrd
                    have hbx := H3.out.box
                    unfold bc at hbx
                    have x0 := hbx.cell 0
                    have x1 := hbx.cell 1
                    have x2 := hbx.cell 2
                    have x3 := hbx.cell 3
                    have x4 := hbx.cell 4
                    have x5 := hbx.cell 5
                    clear hbx
                    rw [haf] at x1
                    have f1 : (0 : Int) ≤ (F : Int) := by omega
                    have f2 : (F : Int) < 8 := by omega
                    have f3 : ((F : Int)).toNat = F := by omega
                    obtain ⟨y1, y2⟩ := H3.out.cell F (by rw [HI.out.dl]; exact hh5)
                    have HRD := Lib.hid hrd
                    clear hrd
                    go_wp2_with fail
                    go_region_with (go_at_call 10; refine (lRead H3.out.drew1 F).mono ?_; rintro e wa ⟨rfl, hLa⟩; rw [HRD.out]; have hbxa := hLa.box; unfold bc at hbxa; have xa1 := hbxa.cell 1; rw [haf] at xa1; obtain ⟨ya1, ya2⟩ := hLa.cell F (by rw [HI.out.dl]; exact hh5); have HLA := Lib.hid (hLa.set F B); clear hLa hbxa)
                    all_goals
                      clear x0 x1 x2 x3 x4 x5 y1 y2
                      obtain ⟨W7, hW7⟩ : ∃ W7, wa.setCell ⟨gS, F, none⟩ (.string B) = W7 := ⟨_, rfl⟩
                      rw [hW7] at HLA ⊢
                      have hdu : s.dur.set F B = s1.dur := os6.out.symm
                      rw [hdu] at HLA
                      clear hW7 hdu xa1 ya1 ya2
                      have hbx := HLA.out.box
                      unfold bc at hbx
                      have x1 := hbx.cell 1
                      rw [haf] at x1
                      clear hbx
                      have HC := Lib.hid (lWithout HLA.out F (by omega))
                      go_wp2_with fail
                      refine HC.out.mono ?_; rintro e w8 ⟨u8', rfl, hx, hbw⟩
                      have H5 := Lib.hid hx; clear hx HC hbw x1
                      obtain ⟨Aw, capw, rfl, -⟩ := H5.out.own.cells
                      go_wp2_with fail
                      go_meet
                      exact ⟨s1.dur, _, H5.out, by have := wo_len since F; omega, .inr ⟨fun h => HK4.out h.1, .inr ⟨.inr os1.out, rfl, os8.out, fun h => (by rw [os1.out] at h; cases h)⟩⟩⟩
              case rest =>
                obtain ⟨sf4, S4, h4, hl4, hf4⟩ := hcut
                have H4 := Lib.hid h4; have HL4 := Lib.hid hl4; have HF4 := Lib.hid hf4; clear h4 hl4 hf4 H3 HB1' HB0
                obtain ⟨w7, hw7⟩ : ∃ w, w = wc := ⟨_, rfl⟩
                rw [← hw7] at H4 ⊢
                clear hw7
                obtain ⟨V4, hV4⟩ : ∃ V : Value, V = u8 := ⟨_, rfl⟩
                rw [← hV4] at H4 ⊢
                clear hV4
                go_upto_region 19 with fail
                go_cut [109] (fun bv wl => BR (CondD K E) w7 bv wl)
                case first =>
                  by_cases a4 : K = 4
                  · have k4 : (K == 4) = true := by rw [beq_iff_eq]; exact a4
                    by_cases e0 : E = 0
                    · have f0 : (E == 0) = true := by rw [beq_iff_eq]; exact e0
                      have HY : Hid (BR (CondD K E) w7 (.bool true) w7) := Lib.hid (BR.yes ⟨a4, e0⟩)
                      clear a4 e0
                      go_wp2_with fail
                      go_meet
                      exact HY.out
                    · have f0 : (E == 0) = false := by rw [beq_eq_false_iff_ne]; exact e0
                      have HY : Hid (BR (CondD K E) w7 (.bool false) w7) := Lib.hid (BR.no fun h => e0 h.2)
                      clear a4 e0
                      go_wp2_with fail
                      go_meet
                      exact HY.out
                  · have k4 : (K == 4) = false := by rw [beq_eq_false_iff_ne]; exact a4
                    have HY : Hid (BR (CondD K E) w7 (.bool false) w7) := Lib.hid (BR.no fun h => a4 h.1)
                    clear a4
                    go_wp2_with fail
                    go_meet
                    exact HY.out
                case rest =>
                  obtain ⟨bb, rfl, hb1, hb0, hw⟩ := hcut
                  rw [hw]; clear hw
                  have HB1' := Lib.hid hb1
                  have HB0 := Lib.hid hb0
                  clear hb1 hb0
                  go_upto_if 109 with fail
                  go_cut [8] (fun xv wl => DR [(wo.heap.size, 30, bc a A3 m cap3)] W d gS (k + 1) s s1 xv wl)
                  case first =>
                    cases bb
                    · have hn := HB0.out rfl
                      go_wp2_with fail
                      go_meet
                      rcases HF4.out with ⟨h1, _⟩ | ⟨_, h1⟩
                      · exact absurd h1 hn
                      · exact ⟨sf4, S4, H4.out, HL4.out, h1⟩
                    · as_aux_lemma =>
                        have hn := HB1'.out rfl
                        obtain ⟨he0, F, G, hout⟩ : E = 0 ∧ ∃ F G, OutTurn s since x (R1, E, s1) F G := by
                          rcases HPO.out with ⟨_, h, _, _, h2⟩ | ⟨h1, _⟩ | ⟨h1, _⟩
                          · exact ⟨h, h2⟩
                          · exfalso; have := hn.1; omega
                          · exact absurd hn.2 (h1 (by unfold cares; rw [HXA.out, HK.out]; exact .inr (.inr hn.1)))
                        obtain ⟨rfl, rfl⟩ : sf4 = s.dur ∧ S4 = since := by
                          rcases HF4.out with ⟨_, h1, h2⟩ | ⟨h, _⟩
                          · exact ⟨h1, h2⟩
                          · exact absurd hn h
                        subst he0
                        clear hn
                        have H3 := H4
                        clear H4
                        obtain ⟨hh1, hh2, hh3, hh4, hh5, hh6, hh7, hh8, hh9, hh10⟩ := hout
                        have ot1 := Lib.hid hh1
                        have ot2 := Lib.hid hh2
                        have ot3 := Lib.hid hh3
                        have ot4 := Lib.hid hh4
                        have ot5 := Lib.hid hh5
                        have ot6 := Lib.hid hh6
                        have ot7 := Lib.hid hh7
                        have ot8 := Lib.hid hh8
                        have ot9 := Lib.hid hh9
                        have ot10 := Lib.hid hh10
                        clear hh1 hh2 hh3 hh4 hh5 hh9 hh10
                        have haf : a.f = (F : Int) := by rw [← HXA.out]; exact ot4.out
                        have hag : a.g = (G : Int) := by rw [← HXA.out]; exact ot5.out
                        have hbx := H3.out.box
                        unfold bc at hbx
                        have x0 := hbx.cell 0
                        have x1 := hbx.cell 1
                        have x2 := hbx.cell 2
                        have x3 := hbx.cell 3
                        have x4 := hbx.cell 4
                        have x5 := hbx.cell 5
                        clear hbx
                        rw [haf] at x1
                        rw [hag] at x2
                        have f1 : (0 : Int) ≤ (F : Int) := by omega
                        have f2 : (F : Int) < 8 := by omega
                        have f3 : ((F : Int)).toNat = F := by omega
                        have g1 : (0 : Int) ≤ (G : Int) := by omega
                        have g2 : (G : Int) < 8 := by omega
                        have g3 : ((G : Int)).toNat = G := by omega
                        obtain ⟨y1, y2⟩ := H3.out.cell F (by rw [HI.out.dl]; exact hh6)
                        obtain ⟨y3, y4⟩ := H3.out.cell G (by rw [HI.out.dl]; exact hh7)
                        obtain ⟨SG, hSG⟩ : ∃ SG, s.dur.getD G (bs []) = SG := ⟨_, rfl⟩
                        rw [hSG] at y3
                        have H5 := Lib.hid (H3.out.set F SG).drew1
                        have HSG := Lib.hid hSG
                        clear hSG
                        go_wp2_with fail
                        go_region
                        all_goals
                          clear x0 x1 x2 x3 x4 x5 y1 y2 y3 y4
                          obtain ⟨W7, hW7⟩ : ∃ W7, (w7.setCell ⟨gS, F, none⟩ (.string SG)).drew = W7 := ⟨_, rfl⟩
                          rw [hW7] at H5 ⊢
                          clear hW7
                          have hbx := H5.out.box
                          unfold bc at hbx
                          have x0 := hbx.cell 0
                          have x1 := hbx.cell 1
                          have x2 := hbx.cell 2
                          have x3 := hbx.cell 3
                          have x4 := hbx.cell 4
                          have x5 := hbx.cell 5
                          clear hbx
                          rw [haf] at x1
                          rw [hag] at x2
                          obtain ⟨y3, y4⟩ := H5.out.cell G (by rw [List.length_set, HI.out.dl]; exact hh7)
                          have H6 := Lib.hid (H5.out.set G (bs []))
                          have hdu : (s.dur.set F SG).set G (bs []) = s1.dur := by rw [← HSG.out]; exact ot9.out.symm
                          rw [hdu] at H6
                          clear hdu
                          go_wp2_with fail
                          clear x0 x1 x2 x3 x4 x5 y3 y4
                          obtain ⟨W8, hW8⟩ : ∃ W8, W7.setCell ⟨gS, G, none⟩ (.string (bs [])) = W8 := ⟨_, rfl⟩
                          rw [hW8] at H6
                          rw [show W7.setCell ⟨gS, G, none⟩ (.string { data := #[] }) = W8 from hW8]
                          clear hW8
                          have hbx := H6.out.box
                          unfold bc at hbx
                          have x0 := hbx.cell 0
                          have x1 := hbx.cell 1
                          have x2 := hbx.cell 2
                          have x3 := hbx.cell 3
                          have x4 := hbx.cell 4
                          have x5 := hbx.cell 5
                          clear hbx
                          rw [haf] at x1
                          rw [hag] at x2
                          have hwl : (Go.Proofs.Ytlphblnnloigiaa.wo S4 F).length ≤ 1000 := by have := List.length_filter_le (fun x : Ae => !decide (x.a.f = (F : Int))) S4; unfold Go.Proofs.Ytlphblnnloigiaa.wo; omega
                          go_region_with (first | (go_at_call 11; refine (lWithout HLA.out G hwl).mono ?_; rintro e wb ⟨ub, rfl, hLb, hbw⟩; obtain ⟨Ab, capb, rfl, -⟩ := hLb.own.cells; have HLB := Lib.hid hLb; clear hLb hbw) | (go_at_call 11; refine (lWithout H6.out.drew1 F (by omega)).mono ?_; rintro e wa ⟨ua, rfl, hLa, hbw⟩; have hbxa := hLa.box; unfold bc at hbxa; have xa1 := hbxa.cell 1; have xa2 := hbxa.cell 2; rw [haf] at xa1; rw [hag] at xa2; have HLA := Lib.hid hLa; clear hLa hbw hbxa))
                          all_goals
                            clear x0 x1 x2 x3 x4 x5 xa1 xa2
                            go_wp2_with fail
                            go_meet
                            exact ⟨s1.dur, _, HLB.out, by have h1 := wo_len S4 F; have h2 := wo_len (Go.Proofs.Ytlphblnnloigiaa.wo S4 F) G; omega, .inr ⟨.inr ot1.out, rfl, ot10.out, fun h => (by rw [ot1.out] at h; cases h)⟩⟩
                  case rest =>
                    obtain ⟨sf3, S3, h3, hl3, hf3⟩ := hcut
                    have H3 := Lib.hid h3; clear h3 H4 HB1' HB0 HF4 HL4
                    obtain ⟨w8', hw8⟩ : ∃ w, w = wc := ⟨_, rfl⟩
                    rw [← hw8] at H3 ⊢
                    clear hw8
                    obtain ⟨VV3, hV3⟩ : ∃ V : Value, V = u8 := ⟨_, rfl⟩
                    rw [← hV3] at H3 ⊢
                    clear hV3
                    rcases hf3 with ⟨hd0, hh1, rfl, hh2, hh3, hh4, hh6⟩ | ⟨hdd, rfl, hiv, hdn3⟩
                    · as_aux_lemma =>
                        obtain rfl : dn = false := by rw [← HDn.out]; exact hd0
                        have od1 := Lib.hid hh1
                        have OD2 := Lib.hid hh2
                        have od3 := Lib.hid hh3
                        have od4 := Lib.hid hh4
                        have OD6 := Lib.hid hh6
                        clear hh1 hh2 hh3 hh4 hh6 hd0
                        go_wp2_with fail
                        have HC := Lib.hid (lDown H3.out)
                        rw [od1.out] at HC
                        refine HC.out.mono ?_; rintro e wy ⟨rfl, rfl⟩
                        clear HC
                        have HC := Lib.hid (lStart H3.out)
                        go_wp2_with fail
                        refine HC.out.mono ?_; rintro e w7 ⟨rfl, hx⟩
                        have H4 := Lib.hid hx; clear hx HC
                        go_wp2_with fail
                        go_loopw [15, 16, 17] (fun i _ _ wl => LcRel [(wo.heap.size, 30, bc a A3 m cap3)] W d gS s1.start s.dur VV3 S3 i wl) (fun i _ _ _ => 8 - (intOf i).toNat)
                        case atStart => exact ⟨0, rfl, by omega, s.dur, H4.out, HI.out.dl, fun j hj => by rw [if_neg (by omega)]⟩
                        case round =>
                          obtain ⟨j, rfl, hj, sf, hL, hsf, hsg⟩ := hrel
                          obtain ⟨wi, rfl⟩ : ∃ wi : World, wi = wr := ⟨_, rfl⟩
                          have H5 := Lib.hid hL
                          have HSF := Lib.hid hsf
                          have HSG := Lib.hid hsg
                          clear hL hsf hsg
                          by_cases hjl : j < 8
                          · have j1 : (j : Int) < 8 := by omega
                            have j2 : (0 : Int) ≤ (j : Int) := by omega
                            have j3 : ((j : Int)).toNat = j := by omega
                            have hrd : s1.start.read (j : Int) = (s1.d j, 0) := by
                              refine (read_of s1.start j hjl rfl).trans ?_
                              rw [Dk.bytes_none (by intro p hp; rw [show s1.start.pend = s1.pend from rfl, od3.out] at hp; cases hp)]; rfl
                            have HC := Lib.hid (lRead H5.out j)
                            rw [hrd] at HC
                            clear hrd
                            go_wp2_with fail
                            refine HC.out.mono ?_; rintro e w8 ⟨rfl, hx⟩
                            have H6 := Lib.hid hx; clear hx HC
                            have hsj : sf.getD j (bs []) = s.d j := by rw [HSG.out j hjl, if_neg (Nat.lt_irrefl _)]; rfl
                            obtain ⟨y1, y2⟩ := H6.out.cell j (by rw [HSF.out]; exact hjl)
                            rw [hsj] at y1
                            have HC := Lib.hid (lHere H6.out (s1.d j) (s.d j) j (by omega) (H6.out.ok.d_le j) (DKL.out j) (OD2.out j hjl) OD6.out)
                            clear hsj
                            generalize hRj : s1.d j = Rj at *
                            generalize s.d j = Sj at *
                            have HRj := Lib.hid hRj
                            clear hRj
                            go_wp2_with fail
                            refine HC.out.mono ?_; rintro e w9 ⟨rfl, hx⟩
                            have H7 := Lib.hid hx; clear hx HC y1 y2
                            obtain ⟨y1, y2⟩ := H7.out.cell j (by rw [HSF.out]; exact hjl)
                            have H8 := Lib.hid (H7.out.set j Rj)
                            go_wp2_with fail
                            go_roundw
                            case rel => exact ⟨j + 1, by go_num, by omega, sf.set j Rj, H8.out, by rw [List.length_set]; exact HSF.out, fun i hi => by
                              rw [List.getD_eq_getElem?_getD]
                              by_cases e : j = i
                              · subst e; rw [List.getElem?_set_self (by rw [HSF.out]; exact hi), if_pos (by omega), ← HRj.out]; rfl
                              · rw [List.getElem?_set_ne e, ← List.getD_eq_getElem?_getD, HSG.out i hi]
                                by_cases e2 : i < j
                                · rw [if_pos e2, if_pos (by omega)]
                                · rw [if_neg e2, if_neg (by omega)]⟩
                            case measure => simp [intOf]; omega
                          · obtain rfl : j = 8 := by omega
                            have hsd : sf = s1.dur := dur_eq (s := s1) HSF.out od4.out (fun i hi => by rw [HSG.out i hi, if_pos hi]; rfl)
                            have H6 := H5.out
                            rw [hsd] at H6
                            have H7 := Lib.hid (H6.since (v' := .slice none 0 0) (since' := []) ⟨rfl, rfl, rfl, Nat.le_refl _, fun _ _ _ => rfl⟩ (OwnE.nil _ _) (fun k hk => by simp [Value.ownBlock] at hk))
                            clear hsd H6
                            have HC := Lib.hid (lCrash H7.out (.slice none 0 0) [] (irow_nil _ _))
                            go_wp2_with fail
                            refine HC.out.mono ?_; rintro e w10 ⟨rfl, hx⟩
                            have H8 := Lib.hid hx; clear hx HC
                            obtain ⟨ag1, ag2, ag3⟩ := again_dur (s := s1) od3.out od4.out
                            have AG1 := Lib.hid ag1
                            have AG2 := Lib.hid ag2
                            clear ag1 ag2 ag3
                            go_wp2_with fail
                            go_roundg (l.length - (k + 1))
                            case measure => rw [HG.out]; omega
                            case rel => exact ⟨k + 1, _, _, by go_num, by omega, rfl, (by rw [AG1.out]; exact H8.out.drop (fun y hy => by cases hy)), ⟨fun p hp => (by rw [AG2.out] at hp; cases hp), fun y hy => (by cases hy), by rw [AG1.out]; exact od4.out⟩, fun _ => ⟨AG2.out, rfl⟩, (by rw [AG2.out]; exact Nat.zero_le _), Nat.zero_le _⟩
                    · have HIV := Lib.hid hiv
                      have HDN3 := Lib.hid hdn3
                      clear hiv hdn3
                      rw [HDn.out] at hdd
                      cases dn
                      · have hd1 : s1.down = false := by rcases hdd with h | h; cases h; exact h
                        have HC := Lib.hid (lDown H3.out)
                        rw [hd1] at HC
                        clear hd1 hdd
                        go_wp2_with fail
                        refine HC.out.mono ?_; rintro e wy ⟨rfl, rfl⟩
                        clear HC
                        go_wp2_with fail
                        go_roundg (l.length - (k + 1))
                        case measure => rw [HG.out]; omega
                        case rel => exact ⟨k + 1, _, _, by go_num, by omega, rfl, H3.out.drop (fun y hy => by cases hy), HIV.out, HDN3.out, HAPD.out, hl3⟩
                      · clear hdd
                        go_wp2_with fail
                        go_roundg (l.length - (k + 1))
                        case measure => rw [HG.out]; omega
                        case rel => exact ⟨k + 1, _, _, by go_num, by omega, rfl, H3.out.drop (fun y hy => by cases hy), HIV.out, HDN3.out, HAPD.out, hl3⟩
      · as_aux_lemma =>
          obtain rfl : k = l.length := by omega
          have HC := Lib.hid (lArm H.out)
          go_wp2_with fail
          refine HC.out.mono ?_; rintro e w5 ⟨rfl, hx⟩
          have H1 := Lib.hid hx; clear hx HC
          have HC := Lib.hid (lStart H1.out)
          go_wp2_with fail
          refine HC.out.mono ?_; rintro e w6 ⟨rfl, hx⟩
          have H2 := Lib.hid hx; clear hx HC
          have hi1 : Inv (s.arm 0 []).start since := HI.out.same rfl rfl
          have hsd : ∀ f, (s.arm 0 []).start.d f = s.d f := fun f => rfl
          obtain ⟨S1, hS1⟩ : ∃ S1, (s.arm 0 []).start = S1 := ⟨_, rfl⟩
          have hdn1 : S1.down = false := by rw [← hS1]; rfl
          rw [hS1] at H2 hi1 hsd
          have HI1 := Lib.hid hi1
          have HSD := Lib.hid hsd
          have HDN1 := Lib.hid hdn1
          clear hS1 hi1 hsd hdn1
          obtain ⟨VV, hVV⟩ : ∃ V : Value, V = u8 := ⟨_, rfl⟩
          subst hVV
          go_wp2_with fail
          obtain ⟨i0, hi0, hz0, hz1, hz2⟩ := info_parts infoI
          go_loopw [18, 19] (fun x i wl => LwRel w6 S1 x i wl) (fun _ i _ => 8 - (intOf i).toNat)
          case atStart => exact ⟨0, rfl, by omega, World.ownsRow_nil _ _ _ _, Below.refl _ _⟩
          case round =>
            obtain ⟨j, rfl, hj, hown, hB⟩ := hrel
            obtain ⟨wi, rfl⟩ : ∃ wi : World, wi = wr := ⟨_, rfl⟩
            have HOWN := Lib.hid hown
            have HB := Lib.hid hB
            clear hown hB
            by_cases hjl : j < 8
            · have j1 : (j : Int) < 8 := by omega
              have HC := Lib.hid (lSizeB (H2.out.below HB.out) j)
              obtain ⟨z, hz⟩ : ∃ z, S1.size (j : Int) = z := ⟨_, rfl⟩
              rw [hz] at HC
              have HZ := Lib.hid hz
              clear hz
              go_wp2_with fail
              refine HC.out.mono ?_; rintro e w7 ⟨rfl, hb7⟩
              have HO7 := Lib.hid (World.ownsRow.kept HOWN.out (grown_below hb7 none) (ob_none _))
              have HB7 := Lib.hid (HB.out.trans (hb7.mono HB.out.size))
              clear hb7 HC
              go_wp2_with (at_builtin; refine wpList_append_own _ rfl _ _ 23 rfl w6.heap.size 3 i0 (.int .i64 0) 1 8 Try.underlying23 hi0 hz0 hz1 hz2 rfl (by decide) _ _ _ rfl (World.ownsRow.alloc HO7.out _) ⟨w7.heap.size, 0, none⟩ 1 1 [.int .i64 (z : Int)] rfl rfl ?c1 ?c2 ?c3 ?c4 ?c5 ?_)
              case c1 =>
                intro i y hy
                rw [Addr.add_lit, Nat.zero_add, (Blk.new w7 3 #[.int .i64 (z : Int)]).cell]
                simpa using hy
              case c2 => intro y hy; rw [List.mem_singleton] at hy; rw [hy]; rfl
              case c3 => unfold maxLen; omega
              case c4 => omega
              case c5 => have := HB7.out.size; simp; omega
              intro v' w8 h1 h2 _
              have HO8 : Hid (w8.ownsRow w6.heap.size 3 1 v' (j + 1) (iv ((List.range (j + 1)).map fun j : Nat => ((S1.size (j : Int) : Nat) : Int)))) := by
                rw [List.range_succ, List.map_append]
                show Hid _
                have e : iv ((List.range j).map (fun j : Nat => ((S1.size (j : Int) : Nat) : Int)) ++ List.map (fun j : Nat => ((S1.size (j : Int) : Nat) : Int)) [j]) = iv ((List.range j).map fun j : Nat => ((S1.size (j : Int) : Nat) : Int)) ++ [.int .i64 (z : Int)] := by
                  rw [← HZ.out]; simp [iv]
                rw [e]; exact Lib.hid h1
              have HB8 : Hid (Below w6.heap.size w6 w8) := Lib.hid (HB7.out.trans (((below_new w7 _).mono HB7.out.size).trans ((Below.refl w6.heap.size _).grown h2 (by have := HB7.out.size; simp; omega) (fun k hk => (World.ownsRow.lt HO7.out k hk).1))))
              clear h1 h2
              go_wp2_with fail
              go_roundw
              case rel => exact ⟨j + 1, by go_num, by omega, HO8.out, HB8.out⟩
              case measure => simp [intOf]; omega
            · obtain rfl : j = 8 := by omega
              have hrow : ∃ g capw cur, u18 = .slice (some ⟨g, 0, none⟩) 8 capw ∧ w6.heap.size ≤ g ∧ Blk wi g 3 cur ∧ cur.toList.take 8 = iv ((List.range 8).map fun j : Nat => ((S1.size (j : Int) : Nat) : Int)) := by
                rcases HOWN.out.2 with ⟨_, h⟩ | ⟨g, capw, cur, h1, h2, h3, _, _, _, h4⟩
                · omega
                · exact ⟨g, capw, cur, h1, h2, h3, by simpa using h4⟩
              obtain ⟨g, capw, cur, rfl, hg6, hblk, hcur⟩ := hrow
              have H3 := Lib.hid (H2.out.prot HB.out hg6 hblk)
              have HCUR : Hid (∀ f, f < 8 → cur[f]? = some (.int .i64 (S1.size (f : Int)))) := Lib.hid fun f hf => by
                rw [← Array.getElem?_toList]
                have : (cur.toList.take 8)[f]? = cur.toList[f]? := by rw [List.getElem?_take, if_pos hf]
                rw [← this, hcur, iv_get, List.getElem?_map, List.getElem?_range hf]; rfl
              clear hblk hcur hg6
              have HC := Lib.hid (lCrash H3.out v1 keep (HKR.out _ H3.out.bel))
              go_wp2_with fail
              refine HC.out.mono ?_; rintro e w8 ⟨rfl, hx⟩
              have H4 := Lib.hid hx; clear hx HC
              have HC := Lib.hid (lStart H4.out)
              go_wp2_with fail
              refine HC.out.mono ?_; rintro e w9 ⟨rfl, hx⟩
              have H5 := Lib.hid hx; clear hx HC
              go_wp2_with fail
              go_loopw [20, 21, 22] (fun i _ _ wl => LfRel [(g, 3, cur)] W d gS (S1.crash keep).start s.dur VV since i wl) (fun i _ _ _ => 8 - (intOf i).toNat)
              case atStart => exact ⟨0, rfl, by omega, H5.out⟩
              case round =>
                obtain ⟨f, rfl, hf, hL⟩ := hrel
                obtain ⟨wj, rfl⟩ : ∃ wj : World, wj = wr := ⟨_, rfl⟩
                have H6 := Lib.hid hL
                clear hL
                by_cases hfl : f < 8
                · have f1 : (f : Int) < 8 := by omega
                  have f2 : (0 : Int) ≤ (f : Int) := by omega
                  have f3 : ((f : Int)).toNat = f := by omega
                  have hrd : (S1.crash keep).start.read (f : Int) = (bs (fileL (s.d f).data.toList (kept keep S1.pend) f), 0) := by
                    refine (read_of _ f hfl rfl).trans ?_
                    rw [crash_bytes S1 HDN1.out keep f hfl, HSD.out]
                  have hhr : HereOk (bs (fileL (s.d f).data.toList (kept keep S1.pend) f)) (s.d f) since f := by have := crash_here HI1.out keep f; rw [HSD.out] at this; exact this
                  have hle : (bs (fileL (s.d f).data.toList (kept keep S1.pend) f)).size ≤ S1.size (f : Int) := by have := crash_le S1 keep f; rw [HSD.out] at this; rw [bs_size, size_of S1 f hfl]; exact this
                  have hmx : (bs (fileL (s.d f).data.toList (kept keep S1.pend) f)).size ≤ 16777216 := by have := H6.out.ok.bytes_le f; rw [crash_bytes S1 HDN1.out keep f hfl, HSD.out] at this; exact this
                  obtain ⟨R, hR⟩ : ∃ R, bs (fileL (s.d f).data.toList (kept keep S1.pend) f) = R := ⟨_, rfl⟩
                  rw [hR] at hrd hhr hle hmx
                  have HC := Lib.hid (lRead H6.out f)
                  rw [hrd] at HC
                  have HHR := Lib.hid hhr
                  obtain ⟨z, hz⟩ : ∃ z, S1.size (f : Int) = z := ⟨_, rfl⟩
                  rw [hz] at hle
                  have HZ := Lib.hid hz
                  have zg : decide ((R.size : Int) > (z : Int)) = false := by rw [decide_eq_false_iff_not]; omega
                  have zg' : decide ((z : Int) < (R.size : Int)) = false := by rw [decide_eq_false_iff_not]; omega
                  clear hrd hhr hR hz
                  go_wp2_with fail
                  refine HC.out.mono ?_; rintro e wk ⟨rfl, hx⟩
                  have H7 := Lib.hid hx; clear hx HC
                  obtain ⟨y1, y2⟩ := H7.out.cell f (by rw [HI.out.dl]; exact hfl)
                  have HC := Lib.hid (lHere H7.out R (s.d f) f (by omega) hmx (H.out.ok.d_le f) HHR.out HI1.out.rng)
                  rw [show s.dur.getD f (bs []) = s.d f from rfl] at y1
                  generalize s.d f = SF at *
                  go_wp2_with fail
                  refine HC.out.mono ?_; rintro e wl ⟨rfl, hx⟩
                  have H8 := Lib.hid hx; clear hx HC y1 y2
                  have z1 : World.cell? wl ⟨g, f, none⟩ = some (.int .i64 z) := by rw [H8.out.box.cell, HCUR.out f hfl, HZ.out]
                  go_wp2_with fail
                  go_roundw
                  case rel => exact ⟨f + 1, by go_num, by omega, H8.out⟩
                  case measure => simp [intOf]; omega
                · obtain rfl : f = 8 := by omega
                  have HE := Lib.hid H6.out.bel
                  go_wp2_with fail
                  go_ret
                  exact ⟨rfl, HE.out⟩
end Go.Proofs.Ytlphblnnloigiaa.diskLastN
