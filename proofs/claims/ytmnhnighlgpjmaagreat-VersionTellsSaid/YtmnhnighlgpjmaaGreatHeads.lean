/-
  The program's headsOf.
-/
import Derived.Test.YtmnhnighlgpjmaaGreatBack
import Derived.Test.YtmnhnighlgpjmaaGreatHeadM
import Derived.Test.YtmnhnighlgpjmaaGreatLeav
namespace Go.Proofs.YtmnhnighlgpjmaaGreat
set_option linter.unusedVariables false
set_option linter.unusedSimpArgs false
open Go.RowKit Go.Shelf
attribute [local go_sem] Oper.semAt_some

def HeadPost (A : Arcs) (n : Nat) (w : World) (e : Ending) (w' : World) : Prop := ∃ g, e = .returned (.slice (some ⟨g, 0, none⟩) n n) ∧ OwnI w' w.heap.size (.slice (some ⟨g, 0, none⟩) n n) (zi ((List.range n).map (hd A n))) ∧ Below w.heap.size w w'
theorem own_kept_nc {X Y : World} {base : Nat} {v : Value} {l : List Int} {row : Option Nat} (h : OwnI X base v l) (hg : X.grownBy Y row) (hr : ∀ r, row = some r → ∃ o : Obj, X.heap[r]? = some o ∧ o.isCells = false) : OwnI Y base v l := by
  refine h.kept hg ?_
  rcases h.form with ⟨rfl, _⟩ | ⟨g, cap, cur, rfl, _, h3, _⟩
  · exact .inl rfl
  · right
    intro e
    obtain ⟨o, ho, hc⟩ := hr g e.symm
    rw [h3] at ho; cases ho; cases hc
theorem ownFrom_grown {β : Type} {W0 : World} {g B : Nat} (hB : W0.heap.size ≤ B) : OwnFrom B (fun (_ : β) W => W0.grownBy W (some g)) := fun _ X Y row hs hg hr =>
  ⟨hg.os.trans hs.os, hg.tape.trans hs.tape, hg.output.trans hs.output, Nat.le_trans hs.size hg.size, fun k hk hne => (hg.block k (Nat.lt_of_lt_of_le hk hs.size) (fun e => by have := (hr k e.symm).1; omega)).trans (hs.block k hk hne)⟩
theorem HM.reset {n v m : Nat} {H H0 : List Int} {G : List Nat} (h : HM n H H0 G v) (hG : ∀ x ∈ G, x < n) : HM n (G.foldl (fun H x => H.set x (m : Int)) H) H0 G m := by
  have key : ∀ (G2 : List Nat) (H : List Int), H.length = n → (∀ x ∈ G2, x < n) → (G2.foldl (fun H x => H.set x (m : Int)) H).length = n ∧ (∀ x, x ∈ G2 → (G2.foldl (fun H x => H.set x (m : Int)) H).getD x 0 = (m : Int)) ∧ (∀ x, x ∉ G2 → (G2.foldl (fun H x => H.set x (m : Int)) H).getD x 0 = H.getD x 0) := by
    intro G2
    induction G2 with
    | nil => intro H hl _; exact ⟨hl, by simp, fun x _ => rfl⟩
    | cons a G2 ih =>
      intro H hl hG2
      obtain ⟨h1, h2, h3⟩ := ih (H.set a (m : Int)) (by rw [List.length_set]; exact hl) (fun x hx => hG2 x (by simp [hx]))
      simp only [List.foldl_cons]
      refine ⟨h1, fun x hx => ?_, fun x hx => ?_⟩
      · by_cases e : x ∈ G2
        · exact h2 x e
        · rw [h3 x e]
          rcases List.mem_cons.1 hx with e2 | e2
          · rw [e2]; exact getD_set_self _ _ _ _ (by rw [hl]; exact hG2 a (by simp))
          · exact absurd e2 e
      · simp at hx
        rw [h3 x hx.2, getD_set_ne _ _ _ _ _ (fun e => hx.1 e.symm)]
  obtain ⟨h1, h2, h3⟩ := key G H h.len hG
  exact ⟨h1, h2, fun x hx hn => by rw [h3 x hn, h.no x hx hn]⟩
def SetRel (n gh bH base m : Nat) (G : List Nat) (H2 : List Int) (W0 : World) (i : Value) (wl : World) : Prop := ∃ (j : Nat) (H3 : List Int), i = .int .i64 j ∧ j ≤ G.length ∧ H3 = (G.take j).foldl (fun H x => H.set x (m : Int)) H2 ∧ OwnI wl base (.slice (some ⟨gh, 0, none⟩) n n) H3 ∧ Boxed wl bH 33 (.slice (some ⟨gh, 0, none⟩) n n) ∧ W0.grownBy wl (some gh)
/-- What holds between two rounds. -/
def HeadI (A : Arcs) (n : Nat) (L : List Nat) (base gh : Nat) (pre : List (PairLt n)) (W : World) : Prop := ∃ H, (∀ k, k ≤ L.length → pre = upto (bpair n L) k → Hds A n L k H) ∧ OwnI W base (.slice (some ⟨gh, 0, none⟩) n n) H

set_option maxRecDepth 100000 in
set_option maxHeartbeats 8000000 in
theorem headsP (nv bv : Value) (N NB : List (List Nat)) (A : Arcs) (n : Nat) (w : World) (hAn : ∀ a ∈ A, a.1 < n ∧ a.2 < n) (hN : Succ n N) (hNB : Succ n NB) (hA : ∀ v, v < n → ∀ x, x ∈ N.getD v [] ↔ (v, x) ∈ A) (hAB : ∀ v, v < n → ∀ x, x ∈ NB.getD v [] ↔ (x, v) ∈ A) (hL : ∀ v, (N.getD v []).length ≤ 1000000) (hLB : ∀ v, (NB.getD v []).length ≤ 1000000) (hn : n ≤ 900) (hr : LRow w w.heap.size nv (N.map zi)) (hrB : LRow w w.heap.size bv (NB.map zi)) :
    Calls Tryz.prog 64 #[nv, bv] w (HeadPost A n w) := by
  obtain ⟨AN, capN, hnv, _⟩ := hr.rd hN.len
  subst hnv
  obtain ⟨AB, capB, hbv, _⟩ := hrB.rd hNB.len
  subst hbv
  refine (callsIn_wide (n := 4)).1 ?_
  refine callsIn_of_wp_marks Tryz.func64 rfl trivial ?_ rfl
  simp only [Tryz.ntmps64, List.size_toArray, List.length_cons, List.length_nil, Nat.reduceAdd, Nat.reduceSub, Array.replicate_succ, Array.replicate_zero, List.push_toArray, List.append_toArray, List.nil_append, List.cons_append]
  have b0 := below_new w (.cells #[.slice AB n capB] 45)
  have x0 := Boxed.new w 45 (.slice AB n capB)
  obtain ⟨W0, hW0⟩ : ∃ W0, w.alloc (.cells #[.slice AB n capB] 45) = W0 := ⟨_, rfl⟩
  have s0 : W0.heap.size = w.heap.size + 1 := by rw [← hW0]; simp
  rw [hW0] at b0 x0
  have b1 := below_new W0 (.cells #[.int .i64 (-1)] 3)
  have c1 : (W0.alloc (.cells #[.int .i64 (-1)] 3)).cell? ⟨W0.heap.size, 0, none⟩ = some (.int .i64 (-1)) := (Blk.new W0 3 _).cell 0
  obtain ⟨W1, hW1⟩ : ∃ W1, W0.alloc (.cells #[.int .i64 (-1)] 3) = W1 := ⟨_, rfl⟩
  have s1 : W1.heap.size = w.heap.size + 2 := by rw [← hW1]; simp; omega
  rw [hW1] at b1 c1
  have HR := Lib.hid (repeatP W0.heap.size 0 1 n (-1) W1 (by omega) c1 (by omega))
  have HX0 : Hid (Boxed W1 w.heap.size 45 (.slice AB n capB)) := Lib.hid (by rw [← hW1]; exact x0.alloc _)
  have HB1 := Lib.hid (b0.trans (b1.mono (by omega)))
  have S0 := Lib.hid s0
  have S1 := Lib.hid s1
  clear b0 x0 b1 c1 s0 s1
  gi_wp2_with (refine ⟨trivial, ?_⟩; gi_at_call 68; refine (callsIn_wide.2 HR.out).mono ?_; rintro e w2 ⟨rfl, hown, hb2⟩)
  obtain ⟨gh, hgh⟩ : ∃ gh, W1.heap.size = gh := ⟨_, rfl⟩
  rw [hgh] at hown hb2 ⊢
  have hgw : w.heap.size ≤ gh := by have := S1.out; omega
  have hgw2 : w.heap.size < gh := by have := S1.out; omega
  have hB2 := HB1.out.trans (hb2.mono hgw)
  have b3 := below_new w2 (.cells #[.slice (some ⟨gh, 0, none⟩) n n] 33)
  have x3 := Boxed.new w2 33 (.slice (some ⟨gh, 0, none⟩) n n)
  obtain ⟨bH, hbH⟩ : ∃ bH, w2.heap.size = bH := ⟨_, rfl⟩
  obtain ⟨W3, hW3⟩ : ∃ W3, w2.alloc (.cells #[.slice (some ⟨gh, 0, none⟩) n n] 33) = W3 := ⟨_, rfl⟩
  have s3 : W3.heap.size = bH + 1 := by rw [← hW3]; simp [hbH]
  rw [hW3] at b3 x3
  rw [hbH] at x3
  have hbHg : gh < bH := by have := (World.ownsRow.lt hown gh rfl).2; omega
  have hB3 := hB2.trans (b3.mono (by omega))
  have HOWN := Lib.hid (hown.below b3)
  have HXH := Lib.hid x3
  have HXB := Lib.hid ((HX0.out.kept (grown_below (hb2.mono (show W1.heap.size ≤ gh by omega)) none) (by simp)).kept (grown_below b3 none) (by simp))
  have HB3 := Lib.hid hB3
  have S3 := Lib.hid s3
  have HLV := Lib.hid (leavP (.slice AN n capN) N A n W3 hN hA hL hn ((hr.below hB3).mono (by omega)))
  clear hown hb2 hB2 b3 x3 hB3 s3 hgh HR HX0 HB1
  rw [hW3, hbH]
  refine ⟨trivial, ?_⟩
  refine (callsIn_wide.2 HLV.out).mono ?_
  rintro e w4 ⟨lv, L, rfl, hlo, hLk, hb4⟩
  obtain ⟨LA, lcap, hlv⟩ := own_slice hlo
  rw [zi_length] at hlv
  subst hlv
  have hLn : L.length ≤ n := nodup_le n L hLk.nd hLk.lt
  have b5 := below_new w4 (.cells #[.slice LA L.length lcap] 33)
  have c5 : (w4.alloc (.cells #[.slice LA L.length lcap] 33)).cell? ⟨w4.heap.size, 0, none⟩ = some (.slice LA L.length lcap) := (Blk.new w4 33 _).cell 0
  have s5 : (w4.alloc (.cells #[.slice LA L.length lcap] 33)).heap.size = w4.heap.size + 1 := by simp
  have hs34 := hb4.size
  have hsl : (Value.slice LA L.length lcap).ownBlock ≠ some gh := fun e => by
    have := (World.ownsRow.lt hlo gh e).1
    have := S3.out
    omega
  have hB45 := hb4.trans (b5.mono hs34)
  have HLO := Lib.hid (hlo.below b5)
  have HOWN5 := Lib.hid (HOWN.out.below hB45)
  have HXH5 := Lib.hid (HXH.out.kept (grown_below hB45 none) (by simp))
  have HXB5 := Lib.hid (HXB.out.kept (grown_below hB45 none) (by simp))
  have hw35 : w.heap.size ≤ W3.heap.size := by have := S3.out; omega
  have HB5 := Lib.hid (HB3.out.trans (hB45.mono hw35))
  have hgh4 : gh < w4.heap.size := by have := S3.out; omega
  have HLK := Lib.hid hLk
  clear hlo hLk hb4 b5 hB45 HOWN HXH HXB HB3 HLV
  have HS5 := Lib.hid s5
  clear s5
  gi_wp2_with fail
  refine ⟨trivial, ?_⟩
  refine (callsIn_wide.2 (backP _ _ _ _)).mono ?_
  rintro e w5 ⟨rfl, rfl⟩
  gi_wp2_with fail
  obtain ⟨W5, hW5⟩ : ∃ W5, w4.alloc (.cells #[.slice LA L.length lcap] 33) = W5 := ⟨_, rfl⟩
  rw [hW5] at HLO HOWN5 HXH5 HXB5 HB5 HS5 c5 ⊢
  refine wpIn_rangeFunc_ownG (F := Fence.wide) rfl (by omega) (gf := 96) (lb := #[.pointer (some ⟨w4.heap.size, 0, none⟩)]) rfl trivial (enters_of Tryz.func96 (by kernel_rfl) rfl)
    (back_stops Fence.wide 3 trivial rfl (by omega) w4.heap.size W3.heap.size gh n _ L W5 HLK.out.lt (by omega) (by have := HS5.out; omega) (by omega) c5 HLO.out hsl) (fun h k => h.trans k) (fun W l o o' hl ho hc hw => fun k hk _ => World.putObj_heap_other (by omega)) (Below.refl _ _) (fun _ => rfl)
    (fun pre W => (HeadI A n L w.heap.size gh pre W ∧ (Boxed W w.heap.size 45 (.slice AB n capB) ∧ Boxed W bH 33 (.slice (some ⟨gh, 0, none⟩) n n))) ∧ W5.grownBy W (some gh))
    (fun _ _ _ => False)
    (OwnFrom.and (Own.from (fun s X Y row hs hg hr => ⟨by obtain ⟨H, h1, h2⟩ := hs.1; exact ⟨H, h1, own_kept_nc h2 hg hr⟩, boxed_own w.heap.size 45 (fun _ : Unit => .slice AB n capB) () X Y row hs.2.1 hg hr, boxed_own bH 33 (fun _ : Unit => .slice (some ⟨gh, 0, none⟩) n n) () X Y row hs.2.2 hg hr⟩) _) (ownFrom_grown (Nat.le_refl _)))
    (fun _ _ _ _ _ hs _ _ => hs)
    ⟨⟨⟨_, fun k hk e => by
      have : k = 0 := by have := congrArg List.length e; rw [upto_length] at this; simp at this; omega
      subst this
      exact Hds.start A n L, HOWN5.out.base hgw⟩, HXB5.out, HXH5.out⟩, ⟨rfl, rfl, rfl, Nat.le_refl _, fun _ _ _ => rfl⟩⟩
    (fun x => { tmps := #[.slice AN n capN, .slice AB n capB, undef, .pointer (some ⟨w.heap.size, 0, none⟩), .slice none 0 0, .pointer (some ⟨bH, 0, none⟩), undef, .int .i64 (x.1.2 : Nat), undef, undef, undef, undef, .slice (some ⟨W0.heap.size, 0, none⟩) 1 1, .slice AN n capN, .int .i64 n, .slice (some ⟨gh, 0, none⟩) n n, .slice AN n capN, .slice LA L.length lcap, .func (.func 96) #[] #[.pointer (some ⟨w4.heap.size, 0, none⟩)], .int .i64 (x.1.1 : Nat), .int .i64 (x.1.2 : Nat), undef, undef, undef, undef, undef, undef, undef, undef, undef, undef, undef, undef, undef, undef, undef, undef, undef, undef, undef, undef, undef, undef, undef], defers := [] }) ?assign ?body ?done ?stop
  case assign =>
    intro l x W K hK
    gi_wp2
    exact hK
  case body =>
    rintro l pre ⟨⟨i, v⟩, hx⟩ W ⟨⟨⟨H, hH, hown⟩, hxB, hxH⟩, hg⟩ hlt
    have hn0 : n ≠ 0 := by omega
    have hvn : v < n := hx hn0
    have cB := hxB.cell
    have cH := hxH.cell
    have hHl : H.length = n := by
      rcases hown.form with ⟨hv, _⟩ | ⟨_, _, _, hv, _⟩
      · cases hv
      · injection hv with _ e _; exact e.symm
    have hs5W := hg.size
    have hv0 : (0 : Int) ≤ v := by omega
    have hvi : (v : Int) < n := by omega
    have hinv : ∀ k, k ≤ L.length → pre ++ [⟨(i, v), hx⟩] = upto (bpair n L) k → ∃ j, k = j + 1 ∧ j < L.length ∧ pre = upto (bpair n L) j ∧ L.getD (L.length - 1 - j) 0 = v := fun k hk e => by
      cases k with
      | zero => have := congrArg List.length e; simp [upto] at this
      | succ j =>
        rw [upto_succ] at e
        obtain ⟨e1, e2⟩ := List.append_inj' e rfl
        injection e2 with e2 _
        have e3 := bpair_val HLK.out.lt (show j < L.length by omega)
        rw [← e2] at e3
        injection e3 with _ e4
        exact ⟨j, rfl, by omega, e1, e4.symm⟩
    have cv := hown.cell v (by omega)
    obtain ⟨z, hz⟩ : ∃ z, H.getD v 0 = z := ⟨_, rfl⟩
    have hz' : H[v]'(by omega) = z := by rw [← hz, List.getD_eq_getElem?_getD, List.getElem?_eq_getElem (by omega)]; rfl
    rw [hz'] at cv
    by_cases hzm : z = -1
    · subst hzm
      have hLBw : LRow W w.heap.size (.slice AB n capB) (NB.map zi) := ((hrB.below HB5.out).below ((Below.refl w.heap.size W5).grown hg (by have := HS5.out; have := HB5.out.size; omega) (fun k hk => by injection hk with hk; omega)))
      have HGP := Lib.hid (gathP (.slice AB n capB) NB A n gh w.heap.size w.heap.size v H W hNB hAB hLB hn hLBw hown hgw (by have := HB5.out.size; omega) hvn hz)
      have HI := Lib.hid hinv
      have HHH := Lib.hid hH
      have HGG := Lib.hid hg
      have HXB2 := Lib.hid hxB
      have HXH2 := Lib.hid hxH
      have hzb : ((-1 : Int) != -1) = false := by decide
      have HZ := Lib.hid hz
      clear hz hz' hinv hH hown hxB hxH hg hLBw
      gi_wp2_with fail
      refine ⟨trivial, ?_⟩
      refine (CallsIn.inRound l (callsIn_wide.2 HGP.out)).mono ?_
      rintro e W6 ⟨pu, G, H2, rfl, hpo, hho, hGnd, hGU, hGn, hM, hg6⟩
      have hvG : v ∈ G := (hGU v).2 (.base HZ.out)
      have hGl : G.length ≤ n := nodup_le n G hGnd hGn
      have hG0 : zi G ≠ [] := fun e => by have := congrArg List.length e; rw [zi_length] at this; simp at this; rw [this] at hvG; simp at hvG
      have hGne := minOf_mem (zi G) hG0
      obtain ⟨m, hm⟩ : ∃ m : Nat, Lib.minOf (zi G) = m := by
        obtain ⟨y, hy, e⟩ := List.mem_map.1 hGne.2
        exact ⟨y, e.symm⟩
      have HMI := minP (hpo.irow (by rw [zi_length]; omega)) hG0
      rw [hm] at HMI hGne
      have HMI2 := Lib.hid HMI
      have hmG : (∀ x ∈ G, m ≤ x) ∧ m ∈ G := by
        refine ⟨fun x hx => ?_, ?_⟩
        · have := hGne.1 (x : Int) (List.mem_map.2 ⟨x, hx, rfl⟩); omega
        · obtain ⟨y, hy, e⟩ := List.mem_map.1 hGne.2
          have : y = m := by omega
          rw [← this]; exact hy
      obtain ⟨PA, pcap, hpu⟩ := own_slice hpo
      rw [zi_length] at hpu
      subst hpu
      have hxB6 := HXB2.out.kept hg6 (by intro e; injection e with e; omega)
      have hxH6 := HXH2.out.kept hg6 (by intro e; injection e with e; omega)
      have hpg : (Value.slice PA G.length pcap).ownBlock ≠ some gh := fun e => by
        have h1 := (World.ownsRow.lt hpo gh e).1
        have h2 := HXH2.out.lt
        omega
      have HPO := Lib.hid hpo
      have HHO := Lib.hid hho
      have HGM := Lib.hid hmG
      have HGU := Lib.hid hGU
      have HGN := Lib.hid hGn
      have HMM := Lib.hid hM
      have HG6 := Lib.hid hg6
      have HXB6 := Lib.hid hxB6
      have HXH6 := Lib.hid hxH6
      have HPG := Lib.hid hpg
      clear hvG hG0 hGne HMI hmG hpo hho hGnd hGU hGn hM hg6 hxB6 hxH6 hpg hm HGP
      gi_wp2_with fail
      refine ⟨trivial, ?_⟩
      refine (CallsIn.inRound l (callsIn_wide.2 HMI2.out)).mono ?_
      rintro e W7 ⟨rfl, rfl⟩
      gi_wp2_with fail
      gi_loopw [34] (fun i wl => SetRel n gh bH w.heap.size m G H2 W6 i wl) (fun i _ => G.length - (intOf i).toNat)
      case atStart => exact ⟨0, H2, rfl, by omega, rfl, HHO.out, HXH6.out, ⟨rfl, rfl, rfl, Nat.le_refl _, fun _ _ _ => rfl⟩⟩
      case round =>
        obtain ⟨j, H3, rfl, hj, hH3, hho, hxH, hg7⟩ := hrel
        have hHl3 : H3.length = n := by
          rcases hho.form with ⟨hv, _⟩ | ⟨_, _, _, hv, _⟩
          · cases hv
          · injection hv with _ e _; exact e.symm
        by_cases hlt2 : j < G.length
        · have hpo := HPO.out.kept hg7 (.inr HPG.out)
          obtain ⟨gp, rfl, cp⟩ := own_rd hpo j (by rw [zi_length]; exact hlt2)
          have hq : (zi G)[j]'(by rw [zi_length]; exact hlt2) = ((G[j] : Nat) : Int) := by simp [zi]
          rw [hq] at cp
          have hyn := HGN.out _ (List.getElem_mem hlt2)
          have hT : (G.take (j + 1)) = G.take j ++ [G[j]] := List.take_succ_eq_append_getElem hlt2
          obtain ⟨y, hy⟩ : ∃ y, G[j] = y := ⟨_, rfl⟩
          rw [hy] at cp hyn hT
          have cb := hxH.cell
          have f2 : wr.frozen? ⟨gh, y, none⟩ = false := by
            have h1 := hho
            unfold OwnI at h1
            rw [hHl3] at h1
            exact own_free h1 y
          have cy := hho.cell y (by omega)
          obtain ⟨zy, hzy⟩ : ∃ z, H3[y]'(by omega) = z := ⟨_, rfl⟩
          rw [hzy] at cy
          have hho2 := hho.store y (by omega) (m : Int)
          have hgs := grown_set wr gh y (.int .i64 (m : Int))
          have HO2 := Lib.hid hho2
          have HX2 := Lib.hid (hxH.kept hgs (by intro e; injection e with e; omega))
          have HG7 := Lib.hid (hg7.trans hgs)
          have HE : Hid (H3.set y (m : Int) = (G.take (j + 1)).foldl (fun H x => H.set x (m : Int)) H2) := Lib.hid (by rw [hT, List.foldl_append, hH3]; rfl)
          have hy0 : (0 : Int) ≤ y := by omega
          have hyi : (y : Int) < n := by omega
          clear hpo hq hT hy hzy hho hho2 hgs hg7 hxH hH3
          gi_wp2_with fail
          go_roundw
          case rel => exact ⟨j + 1, _, by go_num, by omega, HE.out, HO2.out, HX2.out, HG7.out⟩
          case measure => simp [intOf]; omega
        · have hjG : j = G.length := by omega
          have hgW := HG6.out.trans hg7
          have hH3' : H3 = G.foldl (fun H x => H.set x (m : Int)) H2 := by rw [hH3, hjG, List.take_length]
          have hM2 : HM n H3 H G m := by
            rw [hH3']
            exact HM.reset HMM.out HGN.out
          have HR : Hid (HeadI A n L w.heap.size gh (pre ++ [⟨(i, v), hx⟩]) wr) := ⟨H3, fun k hk e => by
            obtain ⟨j, rfl, hj, e1, e2⟩ := HI.out k hk e
            exact (HHH.out j (by omega) e1).new hAn HLK.out hj e2 HZ.out HGU.out HGN.out HGM.out hM2, hho⟩
          have HXB7 := Lib.hid (HXB6.out.kept hg7 (by intro e; injection e with e; omega))
          have HXH7 := Lib.hid hxH
          have HG7 := Lib.hid (HGG.out.trans hgW)
          have hghW : gh < W5.heap.size := by have := HS5.out; omega
          have HK1 : Hid (KeepsFrom W5.heap.size W wr) := Lib.hid (KeepsFrom.of_grownBy hgW (fun j e => by injection e with e; omega))
          have HK2 : Hid (KeepBut W5.heap.size gh W wr) := Lib.hid (keepBut_grown hgW hs5W)
          have hge : ¬ ((j : Int) < G.length) := by omega
          clear hjG hgW hH3' hM2 hH3 hho hxH hg7
          gi_wp2_with fail
          exact ⟨HK1.out, HK2.out, ⟨HR.out, HXB7.out, HXH7.out⟩, HG7.out⟩
    · have hzb : (z != -1) = true := by simp [hzm]
      have HR : Hid (HeadI A n L w.heap.size gh (pre ++ [⟨(i, v), hx⟩]) W) := ⟨H, fun k hk e => by
        obtain ⟨j, rfl, hj, e1, e2⟩ := hinv k hk e
        exact (hH j (by omega) e1).old hj (by rw [e2, hz]; exact hzm), hown⟩
      have HXB2 := Lib.hid hxB
      have HXH2 := Lib.hid hxH
      have HG := Lib.hid hg
      clear hinv hH hown hxB hxH hg hz hz'
      gi_wp2_with fail
      exact ⟨KeepsFrom.refl _ _, fun _ _ _ => rfl, ⟨HR.out, HXB2.out, HXH2.out⟩, HG.out⟩
  case done =>
    rintro D ys W hD rfl ⟨⟨⟨H, hH, hown⟩, hxB, hxH⟩, hg⟩ hK
    have hc := hxH.cell
    have hHl : H.length = n := by
      rcases hown.form with ⟨hv, _⟩ | ⟨_, _, _, hv, _⟩
      · cases hv
      · injection hv with _ e _; exact e.symm
    have hHe := (hH L.length (Nat.le_refl _) rfl).all HLK.out hHl
    rw [hHe] at hown
    have hBW : Below w.heap.size w W := HB5.out.grown hg (by have := HS5.out; have := HB5.out.size; omega) (fun k hk => by injection hk with hk; omega)
    have HO := Lib.hid hown
    have HBW := Lib.hid hBW
    clear hown hBW hHe hHl hH hg hxB hxH
    gi_wp2
    refine ⟨by simp, .inl ⟨_, _, rfl, run_takeDeferred hK, ?_⟩⟩
    exact ⟨_, results_tmp rfl _ _ _, gh, rfl, own_kept_nc HO.out (grownBy_putObj' W D _) (fun r e => by cases e; exact ⟨_, hK, rfl⟩), HBW.out.trans (belowK_b (w := w) (Nat.le_refl _) W D _ _ (by have := HS5.out; omega) hK rfl rfl)⟩
  case stop =>
    rintro D c pre W _ _ h _
    exact h.elim
end Go.Proofs.YtmnhnighlgpjmaaGreat
