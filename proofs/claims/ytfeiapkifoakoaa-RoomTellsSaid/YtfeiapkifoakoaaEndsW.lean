/-
  Contract of the reference's ends: its walk.
-/
import Derived.Test.YtfeiapkifoakoaaEndsB
namespace Go.Proofs.Ytfeiapkifoakoaa
set_option linter.unusedVariables false
set_option linter.unusedSimpArgs false
open Go.RowKit

/-- append of a slice that lies below, or of nothing at all. -/
theorem step_opt {ops : Array Oper} {o : Oper} {a : Act} {w : World} {K : Act → World → Prop} {Q : Exit → Act → World → Prop} {E : Prop} (hgd : o.guard = none) (s x : Operand)
    (ho : o.op = .call { callee := .builtin .append, args := #[s, x], argTypes := #[48, 48] })
    (i : TypeInfo) (hi : Try.prog.info? 3 = some i) (hz : i.zero = some (.int .i64 0)) (hsize : i.size = 1) (hby : i.bytes = 8)
    (B : Nat) (W : World) (v : Value) (xs : List Value) (hs : a.eval s = v) (hb : Buf B W v xs w)
    (sp : Option Addr) (m c : Nat) (news : List Value) (hx : a.eval x = .slice sp m c) (hl : news.length = m) (hsp : ∀ ad, sp = some ad → ad.block < B ∧ ∀ j u, news[j]? = some u → W.cell? (ad.add j) = some u) (hnone : sp = none → m = 0) (h1 : ∀ u ∈ news, u.oneCell' = true)
    (h63 : xs.length + m ≤ 1000)
    (h : ∀ v' w', RowKit.Hid (Buf B W v' (xs ++ news) w') → RowKit.Hid (Kept v w w') → K (a.put o.dst v') w') :
    if Region.wanted o (yielded ops a.tmps) = true then Oper.wp Try.prog o a w K Q else E := by
  rcases sp with _ | ad
  · have hm := hnone rfl
    subst hm
    obtain rfl : news = [] := List.eq_nil_of_length_eq_zero hl
    have hw : Region.wanted o (yielded ops a.tmps) = true := by simp [Region.wanted, hgd]
    rw [if_pos hw]
    have hu := run_underlying (P := Try.prog) Try.underlying48
    have hv : ∃ A n cap, v = .slice A n cap ∧ n ≤ cap := by
      rcases hb.own.2 with ⟨rfl, _⟩ | ⟨g, cap, cur, rfl, _, _, h1, _⟩
      · exact ⟨none, 0, 0, rfl, Nat.le_refl _⟩
      · exact ⟨_, _, _, rfl, h1⟩
    obtain ⟨A, n, cap, rfl, hnc⟩ := hv
    have hl : ∀ (x : Addr), (loadCells x 0).run Try.prog w = .ok #[] w := fun x => by simpa using run_loadCells_list (P := Try.prog) w x [] (by simp)
    have hr : (Builtin.append_ #[48, 48] o.type #[.slice A n cap, .slice none 0 c]).run Try.prog w = .ok (.slice A n cap) w := by
      cases A <;> simp [Builtin.append_, hu, Builtin.lenOf, Builtin.firstCells, sizeOf, typeInfo, hi, storeCells, hnc]
    unfold Oper.wp execOp
    simp only [ho, resolve, invoke, builtin, Sem.run_bind, Sem.run_pure, Result.andThen_ok, List.map_toArray, List.map_cons, List.map_nil, hs, hx, hr]
    exact h _ _ (Lib.hid (by rw [List.append_nil]; exact hb)) (Lib.hid fun b u _ _ hc => hc)
  · obtain ⟨h2, h3⟩ := hsp ad rfl
    exact step_old hgd s x ho i hi hz hsize hby B W v xs hs hb ad m c news hx hl h2 h3 h1 h63 h

/-- What follows is kept out of the walk's sight. -/
theorem wp_hide {P : Program} {c : Code} {Q : Exit → Act → World → Prop} {a : Act} {w : World} (h : ∀ Q' : Exit → Act → World → Prop, Hid (∀ e a w, Q e a w → Q' e a w) → Code.wp P c Q' a w) : Code.wp P c Q a w := h Q (Lib.hid fun _ _ _ h => h)
/-- What holds at the head of each round. -/
def EndsRel (l : List Sp) (w : World) (o i : Value) (wl : World) : Prop :=
  ∃ (k : Nat) (E : List Int), k ≤ 2 * l.length ∧ i = .int .i64 k ∧ EndsAt l k E ∧ wl.ownsRow w.heap.size 3 1 o E.length (iv E) ∧ Below w.heap.size w wl
theorem EndsRel.mk {l : List Sp} {w : World} {o i : Value} {wl : World} (k : Nat) (E : List Int) (h1 : k ≤ 2 * l.length) (h2 : i = .int .i64 k) (h3 : EndsAt l k E) (h4 : wl.ownsRow w.heap.size 3 1 o E.length (iv E) ∧ Below w.heap.size w wl) : EndsRel l w o i wl := ⟨k, E, h1, h2, h3, h4.1, h4.2⟩
set_option maxRecDepth 100000 in
set_option maxHeartbeats 0 in
theorem endsR (v : Value) (l : List Sp) (w : World) (hr : SRow w w.heap.size v l) (hok : ∀ x ∈ l, x.ok) (hl : l.length ≤ 200) :
    Calls Try.prog 40 #[v] w (EndsPost l w) := by
  obtain ⟨i0, hi0, hz0, hz1, hz2⟩ := info_parts info3
  obtain ⟨_, hlen, A, cap, rfl, hA⟩ := hr
  have HOK := Lib.hid hok; clear hok
  go_enter Try.func40, Try.ntmps40
  go_wp2_with fail
  go_loopw [3, 4] (fun o i wl => EndsRel l w o i wl) (fun _ i _ => 2 * l.length - (intOf i).toNat)
  case atStart => exact EndsRel.mk 0 [] (by omega) rfl (EndsAt.zero l) ⟨World.ownsRow_nil _ _ _ _, Below.refl _ _⟩
  case round =>
    obtain ⟨k, E, hk, rfl, hE, hown, hB⟩ := hrel
    obtain ⟨ro, rfl⟩ : ∃ x, x = u3 := ⟨_, rfl⟩
    have hbs := hB.size
    by_cases hlt : k < 2 * l.length
    · obtain ⟨b, off, rfl, hb, hc⟩ := hA (by omega)
      have hj : k / 2 < l.length := by omega
      have d1 := (hB.cell (p := ⟨b, off + k / 2 * 2, none⟩) hb).trans (hc (k / 2) hj).1
      have d2 := (hB.cell (p := ⟨b, off + k / 2 * 2 + 1, none⟩) hb).trans (hc (k / 2) hj).2
      have hx := HOK.out l[k / 2] (List.getElem_mem hj)
      rw [← gt_get l (k / 2) hj] at hx
      have hev : ev l k = if k % 2 = 0 then (gt l (k / 2)).p else (gt l (k / 2)).p + (gt l (k / 2)).n := rfl
      unfold Sp.ok at hx
      obtain ⟨p, hp⟩ : ∃ p, (gt l (k / 2)).p = p := ⟨_, rfl⟩
      obtain ⟨n, hn⟩ : ∃ n, (gt l (k / 2)).n = n := ⟨_, rfl⟩
      rw [hp] at d1
      rw [hn] at d2
      rw [hp, hn] at hx hev
      clear hp hn hA hc
      obtain ⟨g1, g2, g3, g4⟩ := hx
      have t3 : IntKind.i64.wrap (p + n) = p + n := IntWalk.i64_in _ (by omega)
      have ek : (k : Int) / 2 = ((k / 2 : Nat) : Int) := by omega
      obtain ⟨j, hjj⟩ : ∃ j, k / 2 = j := ⟨_, rfl⟩
      rw [hjj] at d1 d2 ek hj
      have HJ := Lib.hid hjj; clear hjj
      have q1 : (j : Int) < l.length := by omega
      have hEl : E.length ≤ 400 := by have := hE.2.2; omega
      obtain ⟨X, hX⟩ : ∃ X, ev l k = X := ⟨_, rfl⟩
      rw [hX] at hev
      have HX := Lib.hid hX; clear hX
      by_cases hpar : k % 2 = 0
      · have em : (((k : Int) % 2) == 1) = false := by simp; omega
        have em2 : (((k : Int) % 2) == 0) = true := by simp; omega
        rw [if_pos hpar] at hev
        subst hev
        clear d2 t3
        go_wp2_with fail
        go_loop [6] (fun a => ∃ m : Nat, m ≤ E.length ∧ a = .int .i64 m ∧ ∀ i (h : i < E.length), i < m → E[i] < X) (fun a => E.length - (intOf a).toNat)
        case atStart => exact ⟨0, by omega, rfl, fun i h h2 => by omega⟩
        case round =>
          obtain ⟨m, hm, rfl, hlow⟩ := hrel
          have HLOW := Lib.hid hlow; clear hlow
          by_cases hme : m < E.length
          · obtain ⟨go, capo, rfl, hgo, hgol⟩ := hown.form (by omega)
            have cm := hown.cellAt m (by omega)
            have hcm : (iv E)[m]? = some (.int .i64 E[m]) := by simp [iv, hme]
            rw [hcm] at cm
            have HSP := Lib.hid (asc_split hE.1 m hme)
            obtain ⟨em', hem⟩ : ∃ x, E[m] = x := ⟨_, rfl⟩
            rw [hem] at cm HSP
            have HEM := Lib.hid hem; clear hem hcm
            have q2 : (m : Int) < E.length := by omega
            by_cases hlt2 : em' < X
            · go_wp2_with fail
              go_round
              case rel => exact ⟨m + 1, by omega, by go_num, fun i h h2 => if h3 : i = m then by subst h3; rw [HEM.out]; exact hlt2 else HLOW.out i h (by omega)⟩
              case measure => simp [intOf]; omega
            · by_cases heq : em' = X
              · have heq' : (em' == X) = true := by rw [heq]; simp
                have hne' : (em' != X) = false := by rw [heq]; simp
                have HES := Lib.hid (hE.same (by rw [HX.out, ← heq, ← HEM.out]; exact List.getElem_mem hme))
                have HOW := Lib.hid hown; have HBB := Lib.hid hB
                have q5 : ¬ ((m : Int) = E.length) := by omega
                have q6 : ((m : Int) == E.length) = false := by simp; omega
                have q7 : ¬ (em' < X) := hlt2
                clear hE hown hB
                go_wp2_with fail
                go_roundw
                case rel => exact EndsRel.mk (k + 1) E (by omega) (by go_num) HES.out ⟨HOW.out, HBB.out⟩
                case measure => simp [intOf]; omega
              · have heq' : (em' == X) = false := by simp [heq]
                have hne' : (em' != X) = true := by simp [heq]
                have hlc : E.length ≤ capo := row_cap hown
                have q5 : (m : Int) ≠ E.length := by omega
                have q6 : ((m : Int) == E.length) = false := by simp; omega
                have q7 : m ≤ capo := by omega
                have q8 : ¬ capo = m := by omega
                have q9 : m ≤ E.length := by omega
                have F1 := Lib.hid (Buf.empty (Below.refl wr.heap.size wr) (Nat.le_refl _)).drew
                have F2 := Lib.hid ((Buf.empty (Below.refl wr.heap.size wr) (Nat.le_refl _)).alloc (.cells #[.int .i64 X] 3)).drew
                have F3 := Lib.hid (Buf.empty ((Below.refl wr.heap.size wr).alloc (Nat.le_refl _) (.cells #[.int .i64 X] 3)) (by simp)).drew
                have S2 : RowKit.Hid (((wr.alloc (.cells #[] 3)).alloc (.cells #[.int .i64 X] 3)).drew.cell? ⟨wr.heap.size + 1, 0, none⟩ = some (.int .i64 X)) := side2 wr X
                have S3 : RowKit.Hid (((wr.alloc (.cells #[.int .i64 X] 3)).alloc (.cells #[] 3)).drew.cell? ⟨wr.heap.size, 0, none⟩ = some (.int .i64 X)) := side3 wr X
                have N0 : RowKit.Hid (((iv E).take m).length = m) := Lib.hid (by simp [iv]; try omega)
                have N1 : RowKit.Hid (∀ j u, ((iv E).take m)[j]? = some u → wr.cell? ((⟨go, 0, none⟩ : Addr).add j) = some u) := Lib.hid (row_cells0 hown m)
                have N2 : RowKit.Hid (((iv E).drop m).length = (E.length - m)) := Lib.hid (by simp [iv]; try omega)
                have N3 : RowKit.Hid (∀ j u, ((iv E).drop m)[j]? = some u → wr.cell? ((⟨go, m, none⟩ : Addr).add j) = some u) := Lib.hid (row_cells hown m)
                have HP := Lib.hid (put_at (m := m) hE HLOW.out HX.out (by have := HSP.out; intro x hx; have := this x hx; omega))
                have HL : RowKit.Hid ((E : List Int).length ≤ 400) := Lib.hid hEl
                clear hown hE hEl
                go_wp2_with fail
                go_region_law (first
                  | (refine step_opt rfl (.tmp 57) (.tmp 60) rfl i0 hi0 hz0 hz1 hz2 wr.heap.size wr (.slice (some ⟨wr.heap.size, 0, none⟩) 0 0) [] (by simp [Act.eval, Act.put]) (by first | exact F1.out | exact F2.out) (some ⟨go, 0, none⟩) m capo ((iv E).take m) (by simp [Act.eval, Act.put]) N0.out (fun ad h => by injection h with h; subst h; exact ⟨hgol, N1.out⟩) (fun h => by cases h) (fun u hu => iv_one E u (List.mem_of_mem_take hu)) (by have := HL.out; simp [iv]; try omega) ?_; intro v2 w2 hb2 hk2)
                  | (refine step_opt rfl (.tmp 57) (.tmp 60) rfl i0 hi0 hz0 hz1 hz2 wr.heap.size wr (.slice (some ⟨wr.heap.size + 1, 0, none⟩) 0 0) [] (by simp [Act.eval, Act.put]) (by simpa using F3.out) (some ⟨go, 0, none⟩) m capo ((iv E).take m) (by simp [Act.eval, Act.put]) N0.out (fun ad h => by injection h with h; subst h; exact ⟨hgol, N1.out⟩) (fun h => by cases h) (fun u hu => iv_one E u (List.mem_of_mem_take hu)) (by have := HL.out; simp [iv]; try omega) ?_; intro v2 w2 hb2 hk2)
                  | (refine step_any rfl (.tmp 61) (.tmp 63) rfl i0 hi0 hz0 hz1 hz2 wr.heap.size wr v2 ([] ++ (iv E).take m) (by simp [Act.eval, Act.put]) (hb2.out.alloc _) ⟨w2.heap.size, 0, none⟩ 1 1 [.int .i64 X] (by simp [Act.eval, Act.put]) rfl (fun j u hu => one_at (World.cell?_alloc_new w2 #[.int .i64 X] 3 0) hu) (fun u hu => by simp at hu; subst hu; rfl) (by have := HL.out; simp [iv]; try omega) ?_; intro v3 w3 hb3 hk3)
                  | (refine step_any rfl (.tmp 61) (.tmp 63) rfl i0 hi0 hz0 hz1 hz2 wr.heap.size wr v2 ([] ++ (iv E).take m) (by simp [Act.eval, Act.put]) hb2.out ⟨wr.heap.size + 1, 0, none⟩ 1 1 [.int .i64 X] (by simp [Act.eval, Act.put]) rfl (fun j u hu => one_at (hk2.out _ _ (by simp) (by simp [Value.ownBlock]) S2.out) hu) (fun u hu => by simp at hu; subst hu; rfl) (by have := HL.out; simp [iv]; try omega) ?_; intro v3 w3 hb3 hk3)
                  | (refine step_any rfl (.tmp 61) (.tmp 63) rfl i0 hi0 hz0 hz1 hz2 wr.heap.size wr v2 ([] ++ (iv E).take m) (by simp [Act.eval, Act.put]) hb2.out ⟨wr.heap.size, 0, none⟩ 1 1 [.int .i64 X] (by simp [Act.eval, Act.put]) rfl (fun j u hu => one_at (hk2.out _ _ (by simp; omega) (by simp [Value.ownBlock]) S3.out) hu) (fun u hu => by simp at hu; subst hu; rfl) (by have := HL.out; simp [iv]; try omega) ?_; intro v3 w3 hb3 hk3)
                  | (refine step_opt rfl (.tmp 64) (.tmp 67) rfl i0 hi0 hz0 hz1 hz2 wr.heap.size wr v3 ([] ++ (iv E).take m ++ [.int .i64 X]) (by simp [Act.eval, Act.put]) hb3.out (some ⟨go, m, none⟩) (E.length - m) (capo - m) ((iv E).drop m) (by simp [Act.eval, Act.put]) N2.out (fun ad h => by injection h with h; subst h; exact ⟨hgol, N3.out⟩) (fun h => by cases h) (fun u hu => iv_one E u (List.mem_of_mem_drop hu)) (by have := HL.out; simp [iv]; try omega) ?_; intro v4 w4 hb4 hk4))
                all_goals go_wp2_with fail
                all_goals go_roundw
                all_goals first
                  | (case rel => exact EndsRel.mk (k + 1) ((E : List Int).take m ++ [X] ++ (E : List Int).drop m) (by omega) (by go_num) HP.out (own_end (E := E) hB hb4.out (by simp only [iv, List.map_append, List.map_take, List.map_drop, List.map_cons, List.map_nil, List.nil_append])))
                  | (case measure => simp [intOf]; omega)
          · have q3 : ((m : Int) == E.length) = true := by simp; omega
            have q4 : ¬ ((m : Int) < E.length) := by omega
            have hform : (ro = .slice none 0 0 ∧ E = []) ∨ ∃ go capo, ro = .slice (some ⟨go, 0, none⟩) E.length capo ∧ go < wr.heap.size := by
              rcases hown.2 with ⟨h1, h2⟩ | ⟨g, cp, cur, h1, _, hg, _⟩
              · exact .inl ⟨h1, List.eq_nil_of_length_eq_zero h2⟩
              · exact .inr ⟨g, cp, h1, (Array.getElem?_eq_some_iff.1 hg).1⟩
            rcases hform with ⟨rfl, rfl⟩ | ⟨go, capo, rfl, hgol⟩
            · obtain rfl : m = 0 := by simpa using hm
              have F1 := Lib.hid (Buf.empty (Below.refl wr.heap.size wr) (Nat.le_refl _)).drew
              have F2 := Lib.hid ((Buf.empty (Below.refl wr.heap.size wr) (Nat.le_refl _)).alloc (.cells #[.int .i64 X] 3)).drew
              have F3 := Lib.hid (Buf.empty ((Below.refl wr.heap.size wr).alloc (Nat.le_refl _) (.cells #[.int .i64 X] 3)) (by simp)).drew
              have S2 : RowKit.Hid (((wr.alloc (.cells #[] 3)).alloc (.cells #[.int .i64 X] 3)).drew.cell? ⟨wr.heap.size + 1, 0, none⟩ = some (.int .i64 X)) := side2 wr X
              have S3 : RowKit.Hid (((wr.alloc (.cells #[.int .i64 X] 3)).alloc (.cells #[] 3)).drew.cell? ⟨wr.heap.size, 0, none⟩ = some (.int .i64 X)) := side3 wr X
              have N0 : RowKit.Hid (((iv ([] : List Int)).take 0).length = 0) := Lib.hid (by simp [iv]; try omega)
              have N2 : RowKit.Hid (((iv ([] : List Int)).drop 0).length = 0) := Lib.hid (by simp [iv]; try omega)
              have HP := Lib.hid (put_at (m := 0) hE HLOW.out HX.out (by intro x hx; simp at hx))
              have HL : RowKit.Hid ((([] : List Int) : List Int).length ≤ 400) := Lib.hid hEl
              clear hown hE hEl
              go_wp2_with fail
              go_region_law (first
                | (refine step_opt rfl (.tmp 57) (.tmp 60) rfl i0 hi0 hz0 hz1 hz2 wr.heap.size wr (.slice (some ⟨wr.heap.size, 0, none⟩) 0 0) [] (by simp [Act.eval, Act.put]) (by first | exact F1.out | exact F2.out) (none) 0 0 ((iv ([] : List Int)).take 0) (by simp [Act.eval, Act.put]) N0.out (fun ad h => by cases h) (fun _ => rfl) (fun u hu => iv_one ([] : List Int) u (List.mem_of_mem_take hu)) (by have := HL.out; simp [iv]; try omega) ?_; intro v2 w2 hb2 hk2)
                | (refine step_opt rfl (.tmp 57) (.tmp 60) rfl i0 hi0 hz0 hz1 hz2 wr.heap.size wr (.slice (some ⟨wr.heap.size + 1, 0, none⟩) 0 0) [] (by simp [Act.eval, Act.put]) (by simpa using F3.out) (none) 0 0 ((iv ([] : List Int)).take 0) (by simp [Act.eval, Act.put]) N0.out (fun ad h => by cases h) (fun _ => rfl) (fun u hu => iv_one ([] : List Int) u (List.mem_of_mem_take hu)) (by have := HL.out; simp [iv]; try omega) ?_; intro v2 w2 hb2 hk2)
                | (refine step_any rfl (.tmp 61) (.tmp 63) rfl i0 hi0 hz0 hz1 hz2 wr.heap.size wr v2 ([] ++ (iv ([] : List Int)).take 0) (by simp [Act.eval, Act.put]) (hb2.out.alloc _) ⟨w2.heap.size, 0, none⟩ 1 1 [.int .i64 X] (by simp [Act.eval, Act.put]) rfl (fun j u hu => one_at (World.cell?_alloc_new w2 #[.int .i64 X] 3 0) hu) (fun u hu => by simp at hu; subst hu; rfl) (by have := HL.out; simp [iv]; try omega) ?_; intro v3 w3 hb3 hk3)
                | (refine step_any rfl (.tmp 61) (.tmp 63) rfl i0 hi0 hz0 hz1 hz2 wr.heap.size wr v2 ([] ++ (iv ([] : List Int)).take 0) (by simp [Act.eval, Act.put]) hb2.out ⟨wr.heap.size + 1, 0, none⟩ 1 1 [.int .i64 X] (by simp [Act.eval, Act.put]) rfl (fun j u hu => one_at (hk2.out _ _ (by simp) (by simp [Value.ownBlock]) S2.out) hu) (fun u hu => by simp at hu; subst hu; rfl) (by have := HL.out; simp [iv]; try omega) ?_; intro v3 w3 hb3 hk3)
                | (refine step_any rfl (.tmp 61) (.tmp 63) rfl i0 hi0 hz0 hz1 hz2 wr.heap.size wr v2 ([] ++ (iv ([] : List Int)).take 0) (by simp [Act.eval, Act.put]) hb2.out ⟨wr.heap.size, 0, none⟩ 1 1 [.int .i64 X] (by simp [Act.eval, Act.put]) rfl (fun j u hu => one_at (hk2.out _ _ (by simp; omega) (by simp [Value.ownBlock]) S3.out) hu) (fun u hu => by simp at hu; subst hu; rfl) (by have := HL.out; simp [iv]; try omega) ?_; intro v3 w3 hb3 hk3)
                | (refine step_opt rfl (.tmp 64) (.tmp 67) rfl i0 hi0 hz0 hz1 hz2 wr.heap.size wr v3 ([] ++ (iv ([] : List Int)).take 0 ++ [.int .i64 X]) (by simp [Act.eval, Act.put]) hb3.out (none) 0 0 ((iv ([] : List Int)).drop 0) (by simp [Act.eval, Act.put]) N2.out (fun ad h => by cases h) (fun _ => rfl) (fun u hu => iv_one ([] : List Int) u (List.mem_of_mem_drop hu)) (by have := HL.out; simp [iv]; try omega) ?_; intro v4 w4 hb4 hk4))
              all_goals go_wp2_with fail
              all_goals go_roundw
              all_goals first
                | (case rel => exact EndsRel.mk (k + 1) ((([] : List Int) : List Int).take 0 ++ [X] ++ (([] : List Int) : List Int).drop 0) (by omega) (by go_num) HP.out (own_end (E := ([] : List Int)) hB hb4.out (by simp only [iv, List.map_append, List.map_take, List.map_drop, List.map_cons, List.map_nil, List.nil_append])))
                | (case measure => simp [intOf]; omega)
            · obtain rfl : m = E.length := by omega
              have hlc : E.length ≤ capo := row_cap hown
              by_cases hcm : capo = E.length
              · subst hcm
                have F1 := Lib.hid (Buf.empty (Below.refl wr.heap.size wr) (Nat.le_refl _)).drew
                have F2 := Lib.hid ((Buf.empty (Below.refl wr.heap.size wr) (Nat.le_refl _)).alloc (.cells #[.int .i64 X] 3)).drew
                have F3 := Lib.hid (Buf.empty ((Below.refl wr.heap.size wr).alloc (Nat.le_refl _) (.cells #[.int .i64 X] 3)) (by simp)).drew
                have S2 : RowKit.Hid (((wr.alloc (.cells #[] 3)).alloc (.cells #[.int .i64 X] 3)).drew.cell? ⟨wr.heap.size + 1, 0, none⟩ = some (.int .i64 X)) := side2 wr X
                have S3 : RowKit.Hid (((wr.alloc (.cells #[.int .i64 X] 3)).alloc (.cells #[] 3)).drew.cell? ⟨wr.heap.size, 0, none⟩ = some (.int .i64 X)) := side3 wr X
                have N0 : RowKit.Hid (((iv E).take E.length).length = E.length) := Lib.hid (by simp [iv]; try omega)
                have N1 : RowKit.Hid (∀ j u, ((iv E).take E.length)[j]? = some u → wr.cell? ((⟨go, 0, none⟩ : Addr).add j) = some u) := Lib.hid (row_cells0 hown E.length)
                have N2 : RowKit.Hid (((iv E).drop E.length).length = 0) := Lib.hid (by simp [iv]; try omega)
                have HP := Lib.hid (put_at (m := E.length) hE HLOW.out HX.out (by intro x hx; simp at hx))
                have HL : RowKit.Hid ((E : List Int).length ≤ 400) := Lib.hid hEl
                clear hown hE hEl
                go_wp2_with fail
                go_region_law (first
                  | (refine step_opt rfl (.tmp 57) (.tmp 60) rfl i0 hi0 hz0 hz1 hz2 wr.heap.size wr (.slice (some ⟨wr.heap.size, 0, none⟩) 0 0) [] (by simp [Act.eval, Act.put]) (by first | exact F1.out | exact F2.out) (some ⟨go, 0, none⟩) E.length E.length ((iv E).take E.length) (by simp [Act.eval, Act.put]) N0.out (fun ad h => by injection h with h; subst h; exact ⟨hgol, N1.out⟩) (fun h => by cases h) (fun u hu => iv_one E u (List.mem_of_mem_take hu)) (by have := HL.out; simp [iv]; try omega) ?_; intro v2 w2 hb2 hk2)
                  | (refine step_opt rfl (.tmp 57) (.tmp 60) rfl i0 hi0 hz0 hz1 hz2 wr.heap.size wr (.slice (some ⟨wr.heap.size + 1, 0, none⟩) 0 0) [] (by simp [Act.eval, Act.put]) (by simpa using F3.out) (some ⟨go, 0, none⟩) E.length E.length ((iv E).take E.length) (by simp [Act.eval, Act.put]) N0.out (fun ad h => by injection h with h; subst h; exact ⟨hgol, N1.out⟩) (fun h => by cases h) (fun u hu => iv_one E u (List.mem_of_mem_take hu)) (by have := HL.out; simp [iv]; try omega) ?_; intro v2 w2 hb2 hk2)
                  | (refine step_any rfl (.tmp 61) (.tmp 63) rfl i0 hi0 hz0 hz1 hz2 wr.heap.size wr v2 ([] ++ (iv E).take E.length) (by simp [Act.eval, Act.put]) (hb2.out.alloc _) ⟨w2.heap.size, 0, none⟩ 1 1 [.int .i64 X] (by simp [Act.eval, Act.put]) rfl (fun j u hu => one_at (World.cell?_alloc_new w2 #[.int .i64 X] 3 0) hu) (fun u hu => by simp at hu; subst hu; rfl) (by have := HL.out; simp [iv]; try omega) ?_; intro v3 w3 hb3 hk3)
                  | (refine step_any rfl (.tmp 61) (.tmp 63) rfl i0 hi0 hz0 hz1 hz2 wr.heap.size wr v2 ([] ++ (iv E).take E.length) (by simp [Act.eval, Act.put]) hb2.out ⟨wr.heap.size + 1, 0, none⟩ 1 1 [.int .i64 X] (by simp [Act.eval, Act.put]) rfl (fun j u hu => one_at (hk2.out _ _ (by simp) (by simp [Value.ownBlock]) S2.out) hu) (fun u hu => by simp at hu; subst hu; rfl) (by have := HL.out; simp [iv]; try omega) ?_; intro v3 w3 hb3 hk3)
                  | (refine step_any rfl (.tmp 61) (.tmp 63) rfl i0 hi0 hz0 hz1 hz2 wr.heap.size wr v2 ([] ++ (iv E).take E.length) (by simp [Act.eval, Act.put]) hb2.out ⟨wr.heap.size, 0, none⟩ 1 1 [.int .i64 X] (by simp [Act.eval, Act.put]) rfl (fun j u hu => one_at (hk2.out _ _ (by simp; omega) (by simp [Value.ownBlock]) S3.out) hu) (fun u hu => by simp at hu; subst hu; rfl) (by have := HL.out; simp [iv]; try omega) ?_; intro v3 w3 hb3 hk3)
                  | (refine step_opt rfl (.tmp 64) (.tmp 67) rfl i0 hi0 hz0 hz1 hz2 wr.heap.size wr v3 ([] ++ (iv E).take E.length ++ [.int .i64 X]) (by simp [Act.eval, Act.put]) hb3.out (some ⟨go, 0, none⟩) 0 0 ((iv E).drop E.length) (by simp [Act.eval, Act.put]) N2.out (fun ad h => by injection h with h; subst h; exact ⟨hgol, by intro j u hu; simp [iv] at hu⟩) (fun h => by cases h) (fun u hu => iv_one E u (List.mem_of_mem_drop hu)) (by have := HL.out; simp [iv]; try omega) ?_; intro v4 w4 hb4 hk4))
                all_goals go_wp2_with fail
                all_goals go_roundw
                all_goals first
                  | (case rel => exact EndsRel.mk (k + 1) ((E : List Int).take E.length ++ [X] ++ (E : List Int).drop E.length) (by omega) (by go_num) HP.out (own_end (E := E) hB hb4.out (by simp only [iv, List.map_append, List.map_take, List.map_drop, List.map_cons, List.map_nil, List.nil_append])))
                  | (case measure => simp [intOf]; omega)
              · skip
                have F1 := Lib.hid (Buf.empty (Below.refl wr.heap.size wr) (Nat.le_refl _)).drew
                have F2 := Lib.hid ((Buf.empty (Below.refl wr.heap.size wr) (Nat.le_refl _)).alloc (.cells #[.int .i64 X] 3)).drew
                have F3 := Lib.hid (Buf.empty ((Below.refl wr.heap.size wr).alloc (Nat.le_refl _) (.cells #[.int .i64 X] 3)) (by simp)).drew
                have S2 : RowKit.Hid (((wr.alloc (.cells #[] 3)).alloc (.cells #[.int .i64 X] 3)).drew.cell? ⟨wr.heap.size + 1, 0, none⟩ = some (.int .i64 X)) := side2 wr X
                have S3 : RowKit.Hid (((wr.alloc (.cells #[.int .i64 X] 3)).alloc (.cells #[] 3)).drew.cell? ⟨wr.heap.size, 0, none⟩ = some (.int .i64 X)) := side3 wr X
                have N0 : RowKit.Hid (((iv E).take E.length).length = E.length) := Lib.hid (by simp [iv]; try omega)
                have N1 : RowKit.Hid (∀ j u, ((iv E).take E.length)[j]? = some u → wr.cell? ((⟨go, 0, none⟩ : Addr).add j) = some u) := Lib.hid (row_cells0 hown E.length)
                have N2 : RowKit.Hid (((iv E).drop E.length).length = 0) := Lib.hid (by simp [iv]; try omega)
                have N3 : RowKit.Hid (∀ j u, ((iv E).drop E.length)[j]? = some u → wr.cell? ((⟨go, E.length, none⟩ : Addr).add j) = some u) := Lib.hid (row_cells hown E.length)
                have HP := Lib.hid (put_at (m := E.length) hE HLOW.out HX.out (by intro x hx; simp at hx))
                have HL : RowKit.Hid ((E : List Int).length ≤ 400) := Lib.hid hEl
                clear hown hE hEl
                go_wp2_with fail
                go_region_law (first
                  | (refine step_opt rfl (.tmp 57) (.tmp 60) rfl i0 hi0 hz0 hz1 hz2 wr.heap.size wr (.slice (some ⟨wr.heap.size, 0, none⟩) 0 0) [] (by simp [Act.eval, Act.put]) (by first | exact F1.out | exact F2.out) (some ⟨go, 0, none⟩) E.length capo ((iv E).take E.length) (by simp [Act.eval, Act.put]) N0.out (fun ad h => by injection h with h; subst h; exact ⟨hgol, N1.out⟩) (fun h => by cases h) (fun u hu => iv_one E u (List.mem_of_mem_take hu)) (by have := HL.out; simp [iv]; try omega) ?_; intro v2 w2 hb2 hk2)
                  | (refine step_opt rfl (.tmp 57) (.tmp 60) rfl i0 hi0 hz0 hz1 hz2 wr.heap.size wr (.slice (some ⟨wr.heap.size + 1, 0, none⟩) 0 0) [] (by simp [Act.eval, Act.put]) (by simpa using F3.out) (some ⟨go, 0, none⟩) E.length capo ((iv E).take E.length) (by simp [Act.eval, Act.put]) N0.out (fun ad h => by injection h with h; subst h; exact ⟨hgol, N1.out⟩) (fun h => by cases h) (fun u hu => iv_one E u (List.mem_of_mem_take hu)) (by have := HL.out; simp [iv]; try omega) ?_; intro v2 w2 hb2 hk2)
                  | (refine step_any rfl (.tmp 61) (.tmp 63) rfl i0 hi0 hz0 hz1 hz2 wr.heap.size wr v2 ([] ++ (iv E).take E.length) (by simp [Act.eval, Act.put]) (hb2.out.alloc _) ⟨w2.heap.size, 0, none⟩ 1 1 [.int .i64 X] (by simp [Act.eval, Act.put]) rfl (fun j u hu => one_at (World.cell?_alloc_new w2 #[.int .i64 X] 3 0) hu) (fun u hu => by simp at hu; subst hu; rfl) (by have := HL.out; simp [iv]; try omega) ?_; intro v3 w3 hb3 hk3)
                  | (refine step_any rfl (.tmp 61) (.tmp 63) rfl i0 hi0 hz0 hz1 hz2 wr.heap.size wr v2 ([] ++ (iv E).take E.length) (by simp [Act.eval, Act.put]) hb2.out ⟨wr.heap.size + 1, 0, none⟩ 1 1 [.int .i64 X] (by simp [Act.eval, Act.put]) rfl (fun j u hu => one_at (hk2.out _ _ (by simp) (by simp [Value.ownBlock]) S2.out) hu) (fun u hu => by simp at hu; subst hu; rfl) (by have := HL.out; simp [iv]; try omega) ?_; intro v3 w3 hb3 hk3)
                  | (refine step_any rfl (.tmp 61) (.tmp 63) rfl i0 hi0 hz0 hz1 hz2 wr.heap.size wr v2 ([] ++ (iv E).take E.length) (by simp [Act.eval, Act.put]) hb2.out ⟨wr.heap.size, 0, none⟩ 1 1 [.int .i64 X] (by simp [Act.eval, Act.put]) rfl (fun j u hu => one_at (hk2.out _ _ (by simp; omega) (by simp [Value.ownBlock]) S3.out) hu) (fun u hu => by simp at hu; subst hu; rfl) (by have := HL.out; simp [iv]; try omega) ?_; intro v3 w3 hb3 hk3)
                  | (refine step_opt rfl (.tmp 64) (.tmp 67) rfl i0 hi0 hz0 hz1 hz2 wr.heap.size wr v3 ([] ++ (iv E).take E.length ++ [.int .i64 X]) (by simp [Act.eval, Act.put]) hb3.out (some ⟨go, E.length, none⟩) 0 (capo - E.length) ((iv E).drop E.length) (by simp [Act.eval, Act.put]) N2.out (fun ad h => by injection h with h; subst h; exact ⟨hgol, N3.out⟩) (fun h => by cases h) (fun u hu => iv_one E u (List.mem_of_mem_drop hu)) (by have := HL.out; simp [iv]; try omega) ?_; intro v4 w4 hb4 hk4))
                all_goals go_wp2_with fail
                all_goals go_roundw
                all_goals first
                  | (case rel => exact EndsRel.mk (k + 1) ((E : List Int).take E.length ++ [X] ++ (E : List Int).drop E.length) (by omega) (by go_num) HP.out (own_end (E := E) hB hb4.out (by simp only [iv, List.map_append, List.map_take, List.map_drop, List.map_cons, List.map_nil, List.nil_append])))
                  | (case measure => simp [intOf]; omega)
      · have em : (((k : Int) % 2) == 1) = true := by simp; omega
        have em2 : (((k : Int) % 2) == 0) = false := by simp; omega
        rw [if_neg hpar] at hev
        have hev2 : p + n = X := hev.symm
        rw [hev2] at t3
        clear hev
        go_wp2_with fail
        clear hev2 t3
        go_loop [6] (fun a => ∃ m : Nat, m ≤ E.length ∧ a = .int .i64 m ∧ ∀ i (h : i < E.length), i < m → E[i] < X) (fun a => E.length - (intOf a).toNat)
        case atStart => exact ⟨0, by omega, rfl, fun i h h2 => by omega⟩
        case round =>
          obtain ⟨m, hm, rfl, hlow⟩ := hrel
          have HLOW := Lib.hid hlow; clear hlow
          by_cases hme : m < E.length
          · obtain ⟨go, capo, rfl, hgo, hgol⟩ := hown.form (by omega)
            have cm := hown.cellAt m (by omega)
            have hcm : (iv E)[m]? = some (.int .i64 E[m]) := by simp [iv, hme]
            rw [hcm] at cm
            have HSP := Lib.hid (asc_split hE.1 m hme)
            obtain ⟨em', hem⟩ : ∃ x, E[m] = x := ⟨_, rfl⟩
            rw [hem] at cm HSP
            have HEM := Lib.hid hem; clear hem hcm
            have q2 : (m : Int) < E.length := by omega
            by_cases hlt2 : em' < X
            · go_wp2_with fail
              go_round
              case rel => exact ⟨m + 1, by omega, by go_num, fun i h h2 => if h3 : i = m then by subst h3; rw [HEM.out]; exact hlt2 else HLOW.out i h (by omega)⟩
              case measure => simp [intOf]; omega
            · by_cases heq : em' = X
              · have heq' : (em' == X) = true := by rw [heq]; simp
                have hne' : (em' != X) = false := by rw [heq]; simp
                have HES := Lib.hid (hE.same (by rw [HX.out, ← heq, ← HEM.out]; exact List.getElem_mem hme))
                have HOW := Lib.hid hown; have HBB := Lib.hid hB
                have q5 : ¬ ((m : Int) = E.length) := by omega
                have q6 : ((m : Int) == E.length) = false := by simp; omega
                have q7 : ¬ (em' < X) := hlt2
                clear hE hown hB
                go_wp2_with fail
                go_roundw
                case rel => exact EndsRel.mk (k + 1) E (by omega) (by go_num) HES.out ⟨HOW.out, HBB.out⟩
                case measure => simp [intOf]; omega
              · have heq' : (em' == X) = false := by simp [heq]
                have hne' : (em' != X) = true := by simp [heq]
                have hlc : E.length ≤ capo := row_cap hown
                have q5 : (m : Int) ≠ E.length := by omega
                have q6 : ((m : Int) == E.length) = false := by simp; omega
                have q7 : m ≤ capo := by omega
                have q8 : ¬ capo = m := by omega
                have q9 : m ≤ E.length := by omega
                have F1 := Lib.hid (Buf.empty (Below.refl wr.heap.size wr) (Nat.le_refl _)).drew
                have F2 := Lib.hid ((Buf.empty (Below.refl wr.heap.size wr) (Nat.le_refl _)).alloc (.cells #[.int .i64 X] 3)).drew
                have F3 := Lib.hid (Buf.empty ((Below.refl wr.heap.size wr).alloc (Nat.le_refl _) (.cells #[.int .i64 X] 3)) (by simp)).drew
                have S2 : RowKit.Hid (((wr.alloc (.cells #[] 3)).alloc (.cells #[.int .i64 X] 3)).drew.cell? ⟨wr.heap.size + 1, 0, none⟩ = some (.int .i64 X)) := side2 wr X
                have S3 : RowKit.Hid (((wr.alloc (.cells #[.int .i64 X] 3)).alloc (.cells #[] 3)).drew.cell? ⟨wr.heap.size, 0, none⟩ = some (.int .i64 X)) := side3 wr X
                have N0 : RowKit.Hid (((iv E).take m).length = m) := Lib.hid (by simp [iv]; try omega)
                have N1 : RowKit.Hid (∀ j u, ((iv E).take m)[j]? = some u → wr.cell? ((⟨go, 0, none⟩ : Addr).add j) = some u) := Lib.hid (row_cells0 hown m)
                have N2 : RowKit.Hid (((iv E).drop m).length = (E.length - m)) := Lib.hid (by simp [iv]; try omega)
                have N3 : RowKit.Hid (∀ j u, ((iv E).drop m)[j]? = some u → wr.cell? ((⟨go, m, none⟩ : Addr).add j) = some u) := Lib.hid (row_cells hown m)
                have HP := Lib.hid (put_at (m := m) hE HLOW.out HX.out (by have := HSP.out; intro x hx; have := this x hx; omega))
                have HL : RowKit.Hid ((E : List Int).length ≤ 400) := Lib.hid hEl
                clear hown hE hEl
                go_wp2_with fail
                go_region_law (first
                  | (refine step_opt rfl (.tmp 57) (.tmp 60) rfl i0 hi0 hz0 hz1 hz2 wr.heap.size wr (.slice (some ⟨wr.heap.size, 0, none⟩) 0 0) [] (by simp [Act.eval, Act.put]) (by first | exact F1.out | exact F2.out) (some ⟨go, 0, none⟩) m capo ((iv E).take m) (by simp [Act.eval, Act.put]) N0.out (fun ad h => by injection h with h; subst h; exact ⟨hgol, N1.out⟩) (fun h => by cases h) (fun u hu => iv_one E u (List.mem_of_mem_take hu)) (by have := HL.out; simp [iv]; try omega) ?_; intro v2 w2 hb2 hk2)
                  | (refine step_opt rfl (.tmp 57) (.tmp 60) rfl i0 hi0 hz0 hz1 hz2 wr.heap.size wr (.slice (some ⟨wr.heap.size + 1, 0, none⟩) 0 0) [] (by simp [Act.eval, Act.put]) (by simpa using F3.out) (some ⟨go, 0, none⟩) m capo ((iv E).take m) (by simp [Act.eval, Act.put]) N0.out (fun ad h => by injection h with h; subst h; exact ⟨hgol, N1.out⟩) (fun h => by cases h) (fun u hu => iv_one E u (List.mem_of_mem_take hu)) (by have := HL.out; simp [iv]; try omega) ?_; intro v2 w2 hb2 hk2)
                  | (refine step_any rfl (.tmp 61) (.tmp 63) rfl i0 hi0 hz0 hz1 hz2 wr.heap.size wr v2 ([] ++ (iv E).take m) (by simp [Act.eval, Act.put]) (hb2.out.alloc _) ⟨w2.heap.size, 0, none⟩ 1 1 [.int .i64 X] (by simp [Act.eval, Act.put]) rfl (fun j u hu => one_at (World.cell?_alloc_new w2 #[.int .i64 X] 3 0) hu) (fun u hu => by simp at hu; subst hu; rfl) (by have := HL.out; simp [iv]; try omega) ?_; intro v3 w3 hb3 hk3)
                  | (refine step_any rfl (.tmp 61) (.tmp 63) rfl i0 hi0 hz0 hz1 hz2 wr.heap.size wr v2 ([] ++ (iv E).take m) (by simp [Act.eval, Act.put]) hb2.out ⟨wr.heap.size + 1, 0, none⟩ 1 1 [.int .i64 X] (by simp [Act.eval, Act.put]) rfl (fun j u hu => one_at (hk2.out _ _ (by simp) (by simp [Value.ownBlock]) S2.out) hu) (fun u hu => by simp at hu; subst hu; rfl) (by have := HL.out; simp [iv]; try omega) ?_; intro v3 w3 hb3 hk3)
                  | (refine step_any rfl (.tmp 61) (.tmp 63) rfl i0 hi0 hz0 hz1 hz2 wr.heap.size wr v2 ([] ++ (iv E).take m) (by simp [Act.eval, Act.put]) hb2.out ⟨wr.heap.size, 0, none⟩ 1 1 [.int .i64 X] (by simp [Act.eval, Act.put]) rfl (fun j u hu => one_at (hk2.out _ _ (by simp; omega) (by simp [Value.ownBlock]) S3.out) hu) (fun u hu => by simp at hu; subst hu; rfl) (by have := HL.out; simp [iv]; try omega) ?_; intro v3 w3 hb3 hk3)
                  | (refine step_opt rfl (.tmp 64) (.tmp 67) rfl i0 hi0 hz0 hz1 hz2 wr.heap.size wr v3 ([] ++ (iv E).take m ++ [.int .i64 X]) (by simp [Act.eval, Act.put]) hb3.out (some ⟨go, m, none⟩) (E.length - m) (capo - m) ((iv E).drop m) (by simp [Act.eval, Act.put]) N2.out (fun ad h => by injection h with h; subst h; exact ⟨hgol, N3.out⟩) (fun h => by cases h) (fun u hu => iv_one E u (List.mem_of_mem_drop hu)) (by have := HL.out; simp [iv]; try omega) ?_; intro v4 w4 hb4 hk4))
                all_goals go_wp2_with fail
                all_goals go_roundw
                all_goals first
                  | (case rel => exact EndsRel.mk (k + 1) ((E : List Int).take m ++ [X] ++ (E : List Int).drop m) (by omega) (by go_num) HP.out (own_end (E := E) hB hb4.out (by simp only [iv, List.map_append, List.map_take, List.map_drop, List.map_cons, List.map_nil, List.nil_append])))
                  | (case measure => simp [intOf]; omega)
          · have q3 : ((m : Int) == E.length) = true := by simp; omega
            have q4 : ¬ ((m : Int) < E.length) := by omega
            have hform : (ro = .slice none 0 0 ∧ E = []) ∨ ∃ go capo, ro = .slice (some ⟨go, 0, none⟩) E.length capo ∧ go < wr.heap.size := by
              rcases hown.2 with ⟨h1, h2⟩ | ⟨g, cp, cur, h1, _, hg, _⟩
              · exact .inl ⟨h1, List.eq_nil_of_length_eq_zero h2⟩
              · exact .inr ⟨g, cp, h1, (Array.getElem?_eq_some_iff.1 hg).1⟩
            rcases hform with ⟨rfl, rfl⟩ | ⟨go, capo, rfl, hgol⟩
            · obtain rfl : m = 0 := by simpa using hm
              have F1 := Lib.hid (Buf.empty (Below.refl wr.heap.size wr) (Nat.le_refl _)).drew
              have F2 := Lib.hid ((Buf.empty (Below.refl wr.heap.size wr) (Nat.le_refl _)).alloc (.cells #[.int .i64 X] 3)).drew
              have F3 := Lib.hid (Buf.empty ((Below.refl wr.heap.size wr).alloc (Nat.le_refl _) (.cells #[.int .i64 X] 3)) (by simp)).drew
              have S2 : RowKit.Hid (((wr.alloc (.cells #[] 3)).alloc (.cells #[.int .i64 X] 3)).drew.cell? ⟨wr.heap.size + 1, 0, none⟩ = some (.int .i64 X)) := side2 wr X
              have S3 : RowKit.Hid (((wr.alloc (.cells #[.int .i64 X] 3)).alloc (.cells #[] 3)).drew.cell? ⟨wr.heap.size, 0, none⟩ = some (.int .i64 X)) := side3 wr X
              have N0 : RowKit.Hid (((iv ([] : List Int)).take 0).length = 0) := Lib.hid (by simp [iv]; try omega)
              have N2 : RowKit.Hid (((iv ([] : List Int)).drop 0).length = 0) := Lib.hid (by simp [iv]; try omega)
              have HP := Lib.hid (put_at (m := 0) hE HLOW.out HX.out (by intro x hx; simp at hx))
              have HL : RowKit.Hid ((([] : List Int) : List Int).length ≤ 400) := Lib.hid hEl
              clear hown hE hEl
              go_wp2_with fail
              go_region_law (first
                | (refine step_opt rfl (.tmp 57) (.tmp 60) rfl i0 hi0 hz0 hz1 hz2 wr.heap.size wr (.slice (some ⟨wr.heap.size, 0, none⟩) 0 0) [] (by simp [Act.eval, Act.put]) (by first | exact F1.out | exact F2.out) (none) 0 0 ((iv ([] : List Int)).take 0) (by simp [Act.eval, Act.put]) N0.out (fun ad h => by cases h) (fun _ => rfl) (fun u hu => iv_one ([] : List Int) u (List.mem_of_mem_take hu)) (by have := HL.out; simp [iv]; try omega) ?_; intro v2 w2 hb2 hk2)
                | (refine step_opt rfl (.tmp 57) (.tmp 60) rfl i0 hi0 hz0 hz1 hz2 wr.heap.size wr (.slice (some ⟨wr.heap.size + 1, 0, none⟩) 0 0) [] (by simp [Act.eval, Act.put]) (by simpa using F3.out) (none) 0 0 ((iv ([] : List Int)).take 0) (by simp [Act.eval, Act.put]) N0.out (fun ad h => by cases h) (fun _ => rfl) (fun u hu => iv_one ([] : List Int) u (List.mem_of_mem_take hu)) (by have := HL.out; simp [iv]; try omega) ?_; intro v2 w2 hb2 hk2)
                | (refine step_any rfl (.tmp 61) (.tmp 63) rfl i0 hi0 hz0 hz1 hz2 wr.heap.size wr v2 ([] ++ (iv ([] : List Int)).take 0) (by simp [Act.eval, Act.put]) (hb2.out.alloc _) ⟨w2.heap.size, 0, none⟩ 1 1 [.int .i64 X] (by simp [Act.eval, Act.put]) rfl (fun j u hu => one_at (World.cell?_alloc_new w2 #[.int .i64 X] 3 0) hu) (fun u hu => by simp at hu; subst hu; rfl) (by have := HL.out; simp [iv]; try omega) ?_; intro v3 w3 hb3 hk3)
                | (refine step_any rfl (.tmp 61) (.tmp 63) rfl i0 hi0 hz0 hz1 hz2 wr.heap.size wr v2 ([] ++ (iv ([] : List Int)).take 0) (by simp [Act.eval, Act.put]) hb2.out ⟨wr.heap.size + 1, 0, none⟩ 1 1 [.int .i64 X] (by simp [Act.eval, Act.put]) rfl (fun j u hu => one_at (hk2.out _ _ (by simp) (by simp [Value.ownBlock]) S2.out) hu) (fun u hu => by simp at hu; subst hu; rfl) (by have := HL.out; simp [iv]; try omega) ?_; intro v3 w3 hb3 hk3)
                | (refine step_any rfl (.tmp 61) (.tmp 63) rfl i0 hi0 hz0 hz1 hz2 wr.heap.size wr v2 ([] ++ (iv ([] : List Int)).take 0) (by simp [Act.eval, Act.put]) hb2.out ⟨wr.heap.size, 0, none⟩ 1 1 [.int .i64 X] (by simp [Act.eval, Act.put]) rfl (fun j u hu => one_at (hk2.out _ _ (by simp; omega) (by simp [Value.ownBlock]) S3.out) hu) (fun u hu => by simp at hu; subst hu; rfl) (by have := HL.out; simp [iv]; try omega) ?_; intro v3 w3 hb3 hk3)
                | (refine step_opt rfl (.tmp 64) (.tmp 67) rfl i0 hi0 hz0 hz1 hz2 wr.heap.size wr v3 ([] ++ (iv ([] : List Int)).take 0 ++ [.int .i64 X]) (by simp [Act.eval, Act.put]) hb3.out (none) 0 0 ((iv ([] : List Int)).drop 0) (by simp [Act.eval, Act.put]) N2.out (fun ad h => by cases h) (fun _ => rfl) (fun u hu => iv_one ([] : List Int) u (List.mem_of_mem_drop hu)) (by have := HL.out; simp [iv]; try omega) ?_; intro v4 w4 hb4 hk4))
              all_goals go_wp2_with fail
              all_goals go_roundw
              all_goals first
                | (case rel => exact EndsRel.mk (k + 1) ((([] : List Int) : List Int).take 0 ++ [X] ++ (([] : List Int) : List Int).drop 0) (by omega) (by go_num) HP.out (own_end (E := ([] : List Int)) hB hb4.out (by simp only [iv, List.map_append, List.map_take, List.map_drop, List.map_cons, List.map_nil, List.nil_append])))
                | (case measure => simp [intOf]; omega)
            · obtain rfl : m = E.length := by omega
              have hlc : E.length ≤ capo := row_cap hown
              by_cases hcm : capo = E.length
              · subst hcm
                have F1 := Lib.hid (Buf.empty (Below.refl wr.heap.size wr) (Nat.le_refl _)).drew
                have F2 := Lib.hid ((Buf.empty (Below.refl wr.heap.size wr) (Nat.le_refl _)).alloc (.cells #[.int .i64 X] 3)).drew
                have F3 := Lib.hid (Buf.empty ((Below.refl wr.heap.size wr).alloc (Nat.le_refl _) (.cells #[.int .i64 X] 3)) (by simp)).drew
                have S2 : RowKit.Hid (((wr.alloc (.cells #[] 3)).alloc (.cells #[.int .i64 X] 3)).drew.cell? ⟨wr.heap.size + 1, 0, none⟩ = some (.int .i64 X)) := side2 wr X
                have S3 : RowKit.Hid (((wr.alloc (.cells #[.int .i64 X] 3)).alloc (.cells #[] 3)).drew.cell? ⟨wr.heap.size, 0, none⟩ = some (.int .i64 X)) := side3 wr X
                have N0 : RowKit.Hid (((iv E).take E.length).length = E.length) := Lib.hid (by simp [iv]; try omega)
                have N1 : RowKit.Hid (∀ j u, ((iv E).take E.length)[j]? = some u → wr.cell? ((⟨go, 0, none⟩ : Addr).add j) = some u) := Lib.hid (row_cells0 hown E.length)
                have N2 : RowKit.Hid (((iv E).drop E.length).length = 0) := Lib.hid (by simp [iv]; try omega)
                have HP := Lib.hid (put_at (m := E.length) hE HLOW.out HX.out (by intro x hx; simp at hx))
                have HL : RowKit.Hid ((E : List Int).length ≤ 400) := Lib.hid hEl
                clear hown hE hEl
                go_wp2_with fail
                go_region_law (first
                  | (refine step_opt rfl (.tmp 57) (.tmp 60) rfl i0 hi0 hz0 hz1 hz2 wr.heap.size wr (.slice (some ⟨wr.heap.size, 0, none⟩) 0 0) [] (by simp [Act.eval, Act.put]) (by first | exact F1.out | exact F2.out) (some ⟨go, 0, none⟩) E.length E.length ((iv E).take E.length) (by simp [Act.eval, Act.put]) N0.out (fun ad h => by injection h with h; subst h; exact ⟨hgol, N1.out⟩) (fun h => by cases h) (fun u hu => iv_one E u (List.mem_of_mem_take hu)) (by have := HL.out; simp [iv]; try omega) ?_; intro v2 w2 hb2 hk2)
                  | (refine step_opt rfl (.tmp 57) (.tmp 60) rfl i0 hi0 hz0 hz1 hz2 wr.heap.size wr (.slice (some ⟨wr.heap.size + 1, 0, none⟩) 0 0) [] (by simp [Act.eval, Act.put]) (by simpa using F3.out) (some ⟨go, 0, none⟩) E.length E.length ((iv E).take E.length) (by simp [Act.eval, Act.put]) N0.out (fun ad h => by injection h with h; subst h; exact ⟨hgol, N1.out⟩) (fun h => by cases h) (fun u hu => iv_one E u (List.mem_of_mem_take hu)) (by have := HL.out; simp [iv]; try omega) ?_; intro v2 w2 hb2 hk2)
                  | (refine step_any rfl (.tmp 61) (.tmp 63) rfl i0 hi0 hz0 hz1 hz2 wr.heap.size wr v2 ([] ++ (iv E).take E.length) (by simp [Act.eval, Act.put]) (hb2.out.alloc _) ⟨w2.heap.size, 0, none⟩ 1 1 [.int .i64 X] (by simp [Act.eval, Act.put]) rfl (fun j u hu => one_at (World.cell?_alloc_new w2 #[.int .i64 X] 3 0) hu) (fun u hu => by simp at hu; subst hu; rfl) (by have := HL.out; simp [iv]; try omega) ?_; intro v3 w3 hb3 hk3)
                  | (refine step_any rfl (.tmp 61) (.tmp 63) rfl i0 hi0 hz0 hz1 hz2 wr.heap.size wr v2 ([] ++ (iv E).take E.length) (by simp [Act.eval, Act.put]) hb2.out ⟨wr.heap.size + 1, 0, none⟩ 1 1 [.int .i64 X] (by simp [Act.eval, Act.put]) rfl (fun j u hu => one_at (hk2.out _ _ (by simp) (by simp [Value.ownBlock]) S2.out) hu) (fun u hu => by simp at hu; subst hu; rfl) (by have := HL.out; simp [iv]; try omega) ?_; intro v3 w3 hb3 hk3)
                  | (refine step_any rfl (.tmp 61) (.tmp 63) rfl i0 hi0 hz0 hz1 hz2 wr.heap.size wr v2 ([] ++ (iv E).take E.length) (by simp [Act.eval, Act.put]) hb2.out ⟨wr.heap.size, 0, none⟩ 1 1 [.int .i64 X] (by simp [Act.eval, Act.put]) rfl (fun j u hu => one_at (hk2.out _ _ (by simp; omega) (by simp [Value.ownBlock]) S3.out) hu) (fun u hu => by simp at hu; subst hu; rfl) (by have := HL.out; simp [iv]; try omega) ?_; intro v3 w3 hb3 hk3)
                  | (refine step_opt rfl (.tmp 64) (.tmp 67) rfl i0 hi0 hz0 hz1 hz2 wr.heap.size wr v3 ([] ++ (iv E).take E.length ++ [.int .i64 X]) (by simp [Act.eval, Act.put]) hb3.out (some ⟨go, 0, none⟩) 0 0 ((iv E).drop E.length) (by simp [Act.eval, Act.put]) N2.out (fun ad h => by injection h with h; subst h; exact ⟨hgol, by intro j u hu; simp [iv] at hu⟩) (fun h => by cases h) (fun u hu => iv_one E u (List.mem_of_mem_drop hu)) (by have := HL.out; simp [iv]; try omega) ?_; intro v4 w4 hb4 hk4))
                all_goals go_wp2_with fail
                all_goals go_roundw
                all_goals first
                  | (case rel => exact EndsRel.mk (k + 1) ((E : List Int).take E.length ++ [X] ++ (E : List Int).drop E.length) (by omega) (by go_num) HP.out (own_end (E := E) hB hb4.out (by simp only [iv, List.map_append, List.map_take, List.map_drop, List.map_cons, List.map_nil, List.nil_append])))
                  | (case measure => simp [intOf]; omega)
              · skip
                have F1 := Lib.hid (Buf.empty (Below.refl wr.heap.size wr) (Nat.le_refl _)).drew
                have F2 := Lib.hid ((Buf.empty (Below.refl wr.heap.size wr) (Nat.le_refl _)).alloc (.cells #[.int .i64 X] 3)).drew
                have F3 := Lib.hid (Buf.empty ((Below.refl wr.heap.size wr).alloc (Nat.le_refl _) (.cells #[.int .i64 X] 3)) (by simp)).drew
                have S2 : RowKit.Hid (((wr.alloc (.cells #[] 3)).alloc (.cells #[.int .i64 X] 3)).drew.cell? ⟨wr.heap.size + 1, 0, none⟩ = some (.int .i64 X)) := side2 wr X
                have S3 : RowKit.Hid (((wr.alloc (.cells #[.int .i64 X] 3)).alloc (.cells #[] 3)).drew.cell? ⟨wr.heap.size, 0, none⟩ = some (.int .i64 X)) := side3 wr X
                have N0 : RowKit.Hid (((iv E).take E.length).length = E.length) := Lib.hid (by simp [iv]; try omega)
                have N1 : RowKit.Hid (∀ j u, ((iv E).take E.length)[j]? = some u → wr.cell? ((⟨go, 0, none⟩ : Addr).add j) = some u) := Lib.hid (row_cells0 hown E.length)
                have N2 : RowKit.Hid (((iv E).drop E.length).length = 0) := Lib.hid (by simp [iv]; try omega)
                have N3 : RowKit.Hid (∀ j u, ((iv E).drop E.length)[j]? = some u → wr.cell? ((⟨go, E.length, none⟩ : Addr).add j) = some u) := Lib.hid (row_cells hown E.length)
                have HP := Lib.hid (put_at (m := E.length) hE HLOW.out HX.out (by intro x hx; simp at hx))
                have HL : RowKit.Hid ((E : List Int).length ≤ 400) := Lib.hid hEl
                clear hown hE hEl
                go_wp2_with fail
                go_region_law (first
                  | (refine step_opt rfl (.tmp 57) (.tmp 60) rfl i0 hi0 hz0 hz1 hz2 wr.heap.size wr (.slice (some ⟨wr.heap.size, 0, none⟩) 0 0) [] (by simp [Act.eval, Act.put]) (by first | exact F1.out | exact F2.out) (some ⟨go, 0, none⟩) E.length capo ((iv E).take E.length) (by simp [Act.eval, Act.put]) N0.out (fun ad h => by injection h with h; subst h; exact ⟨hgol, N1.out⟩) (fun h => by cases h) (fun u hu => iv_one E u (List.mem_of_mem_take hu)) (by have := HL.out; simp [iv]; try omega) ?_; intro v2 w2 hb2 hk2)
                  | (refine step_opt rfl (.tmp 57) (.tmp 60) rfl i0 hi0 hz0 hz1 hz2 wr.heap.size wr (.slice (some ⟨wr.heap.size + 1, 0, none⟩) 0 0) [] (by simp [Act.eval, Act.put]) (by simpa using F3.out) (some ⟨go, 0, none⟩) E.length capo ((iv E).take E.length) (by simp [Act.eval, Act.put]) N0.out (fun ad h => by injection h with h; subst h; exact ⟨hgol, N1.out⟩) (fun h => by cases h) (fun u hu => iv_one E u (List.mem_of_mem_take hu)) (by have := HL.out; simp [iv]; try omega) ?_; intro v2 w2 hb2 hk2)
                  | (refine step_any rfl (.tmp 61) (.tmp 63) rfl i0 hi0 hz0 hz1 hz2 wr.heap.size wr v2 ([] ++ (iv E).take E.length) (by simp [Act.eval, Act.put]) (hb2.out.alloc _) ⟨w2.heap.size, 0, none⟩ 1 1 [.int .i64 X] (by simp [Act.eval, Act.put]) rfl (fun j u hu => one_at (World.cell?_alloc_new w2 #[.int .i64 X] 3 0) hu) (fun u hu => by simp at hu; subst hu; rfl) (by have := HL.out; simp [iv]; try omega) ?_; intro v3 w3 hb3 hk3)
                  | (refine step_any rfl (.tmp 61) (.tmp 63) rfl i0 hi0 hz0 hz1 hz2 wr.heap.size wr v2 ([] ++ (iv E).take E.length) (by simp [Act.eval, Act.put]) hb2.out ⟨wr.heap.size + 1, 0, none⟩ 1 1 [.int .i64 X] (by simp [Act.eval, Act.put]) rfl (fun j u hu => one_at (hk2.out _ _ (by simp) (by simp [Value.ownBlock]) S2.out) hu) (fun u hu => by simp at hu; subst hu; rfl) (by have := HL.out; simp [iv]; try omega) ?_; intro v3 w3 hb3 hk3)
                  | (refine step_any rfl (.tmp 61) (.tmp 63) rfl i0 hi0 hz0 hz1 hz2 wr.heap.size wr v2 ([] ++ (iv E).take E.length) (by simp [Act.eval, Act.put]) hb2.out ⟨wr.heap.size, 0, none⟩ 1 1 [.int .i64 X] (by simp [Act.eval, Act.put]) rfl (fun j u hu => one_at (hk2.out _ _ (by simp; omega) (by simp [Value.ownBlock]) S3.out) hu) (fun u hu => by simp at hu; subst hu; rfl) (by have := HL.out; simp [iv]; try omega) ?_; intro v3 w3 hb3 hk3)
                  | (refine step_opt rfl (.tmp 64) (.tmp 67) rfl i0 hi0 hz0 hz1 hz2 wr.heap.size wr v3 ([] ++ (iv E).take E.length ++ [.int .i64 X]) (by simp [Act.eval, Act.put]) hb3.out (some ⟨go, E.length, none⟩) 0 (capo - E.length) ((iv E).drop E.length) (by simp [Act.eval, Act.put]) N2.out (fun ad h => by injection h with h; subst h; exact ⟨hgol, N3.out⟩) (fun h => by cases h) (fun u hu => iv_one E u (List.mem_of_mem_drop hu)) (by have := HL.out; simp [iv]; try omega) ?_; intro v4 w4 hb4 hk4))
                all_goals go_wp2_with fail
                all_goals go_roundw
                all_goals first
                  | (case rel => exact EndsRel.mk (k + 1) ((E : List Int).take E.length ++ [X] ++ (E : List Int).drop E.length) (by omega) (by go_num) HP.out (own_end (E := E) hB hb4.out (by simp only [iv, List.map_append, List.map_take, List.map_drop, List.map_cons, List.map_nil, List.nil_append])))
                  | (case measure => simp [intOf]; omega)
    · have hkl : k = 2 * l.length := by omega
      have q1 : (k : Int) = 2 * l.length := by omega
      have q2 : ¬ ((k : Int) < 2 * l.length) := by omega
      have HK : Hid (EndsAt l (2 * l.length) E) := by show EndsAt _ _ _; rw [← hkl]; exact hE
      have HO := Lib.hid hown
      clear hkl hE hown q1
      go_wp2_with fail
      go_ret
      exact ⟨_, E, rfl, HK.out, HO.out, hB⟩
end Go.Proofs.Ytfeiapkifoakoaa
