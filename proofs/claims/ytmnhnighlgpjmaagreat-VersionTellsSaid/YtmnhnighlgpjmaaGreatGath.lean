/-
  The program's gather.
-/
import Derived.Test.YtmnhnighlgpjmaaGreatLeavA
namespace Go.Proofs.YtmnhnighlgpjmaaGreat
set_option linter.unusedVariables false
set_option linter.unusedSimpArgs false
open Go.RowKit

/-- From x a way through free nodes leads to v. -/
inductive Un (A : Arcs) (F : Nat → Prop) (v : Nat) : Nat → Prop
  | base : F v → Un A F v v
  | step {x y : Nat} : Un A F v y → (x, y) ∈ A → F x → Un A F v x
theorem Fol.cons {A : Arcs} {x y : Nat} {t : List Nat} (h : Fol A (y :: t)) (ha : (x, y) ∈ A) : Fol A (x :: y :: t) := by
  intro i a b h1 h2
  cases i with
  | zero => simp at h1 h2; rw [← h1, ← h2]; exact ha
  | succ i => exact h i a b (by simpa using h1) (by simpa using h2)
theorem Un.iff {A : Arcs} {F : Nat → Prop} {v x : Nat} : Un A F v x ↔ ∃ l, Fol A (l ++ [v]) ∧ (l ++ [v])[0]? = some x ∧ ∀ y ∈ l ++ [v], F y := by
  constructor
  · intro h
    induction h with
    | base h => exact ⟨[], Fol.one A v, rfl, fun y hy => by simp at hy; rw [hy]; exact h⟩
    | step h1 h2 h3 ih =>
      rename_i x y
      obtain ⟨l, h4, h5, h6⟩ := ih
      refine ⟨x :: l, ?_, rfl, fun z hz => ?_⟩
      · cases hl : l ++ [v] with
        | nil => simp at hl
        | cons a t =>
          rw [hl] at h4 h5
          simp at h5
          subst h5
          show Fol A (x :: (l ++ [v]))
          rw [hl]
          exact h4.cons h2
      · rcases List.mem_cons.1 hz with rfl | h7
        · exact h3
        · exact h6 z h7
  · rintro ⟨l, h1, h2, h3⟩
    suffices H : ∀ (l : List Nat) (x : Nat), Fol A (l ++ [v]) → (l ++ [v])[0]? = some x → (∀ y ∈ l ++ [v], F y) → Un A F v x from H l x h1 h2 h3
    intro l
    induction l with
    | nil => intro x _ h2 h3; simp at h2; subst h2; exact .base (h3 _ (by simp))
    | cons a l ih =>
      intro x h1 h2 h3
      simp at h2
      subst h2
      cases hl : l ++ [v] with
      | nil => simp at hl
      | cons b t =>
        have h4 : Fol A (a :: (l ++ [v])) := h1
        have h5 : (a, b) ∈ A := by
          rw [hl] at h4
          exact h4 0 a b (by simp) (by simp)
        exact .step (ih b (Fol.post (q := [a]) h4) (by rw [hl]; rfl) (fun y hy => h3 y (by simp at hy ⊢; exact .inr hy))) h5 (h3 _ (by simp))
structure Gath (A : Arcs) (n : Nat) (H0 : List Int) (v : Nat) (G : List Nat) (i : Nat) (T : List Nat) : Prop where
  nd : G.Nodup
  un : ∀ g ∈ G, g < n ∧ H0.getD g 0 = -1 ∧ Un A (fun x => H0.getD x 0 = -1) v g
  v0 : v ∈ G
  done : ∀ j g, j < i → G[j]? = some g → ∀ x, (x, g) ∈ A → H0.getD x 0 = -1 → x ∈ G
  cur : ∀ g, G[i]? = some g → ∀ x ∈ T, H0.getD x 0 = -1 → x ∈ G
/-- The heads: those of the part are v, all others are as before. -/
structure HM (n : Nat) (H H0 : List Int) (G : List Nat) (v : Nat) : Prop where
  len : H.length = n
  yes : ∀ x, x ∈ G → H.getD x 0 = (v : Int)
  no : ∀ x, x < n → x ∉ G → H.getD x 0 = H0.getD x 0
theorem HM.free {n : Nat} {H H0 : List Int} {G : List Nat} {v x : Nat} (h : HM n H H0 G v) (hx : x < n) : H.getD x 0 = -1 ↔ x ∉ G ∧ H0.getD x 0 = -1 := by
  constructor
  · intro h1
    have h2 : x ∉ G := fun h2 => by have := h.yes x h2; omega
    exact ⟨h2, by rw [← h.no x hx h2]; exact h1⟩
  · rintro ⟨h1, h2⟩; rw [h.no x hx h1]; exact h2
theorem HM.mark {n : Nat} {H H0 : List Int} {G : List Nat} {v x : Nat} (h : HM n H H0 G v) (hx : x < n) : HM n (H.set x (v : Int)) H0 (G ++ [x]) v := by
  refine ⟨by rw [List.length_set]; exact h.len, fun y hy => ?_, fun y hy hn => ?_⟩
  · by_cases e : x = y
    · subst e; exact getD_set_self _ _ _ _ (by rw [h.len]; exact hx)
    · rw [getD_set_ne _ _ _ _ _ e]
      rcases List.mem_append.1 hy with h1 | h1
      · exact h.yes y h1
      · exact absurd (List.mem_singleton.1 h1).symm e
  · simp at hn
    rw [getD_set_ne _ _ _ _ _ (fun e => hn.2 e.symm)]
    exact h.no y hy hn.1
theorem HM.start {n : Nat} {H0 : List Int} {v : Nat} (hl : H0.length = n) (hv : v < n) : HM n (H0.set v (v : Int)) H0 [v] v := by
  refine ⟨by rw [List.length_set]; exact hl, fun y hy => ?_, fun y hy hn => ?_⟩
  · rw [List.mem_singleton.1 hy]; exact getD_set_self _ _ _ _ (by rw [hl]; exact hv)
  · simp at hn; exact getD_set_ne _ _ _ _ _ (fun e => hn e.symm)
theorem Gath.start {A : Arcs} {n : Nat} {H0 : List Int} {v : Nat} (hv : v < n) (hf : H0.getD v 0 = -1) : Gath A n H0 v [v] 0 [] :=
  ⟨by simp, fun g hg => by rw [List.mem_singleton.1 hg]; exact ⟨hv, hf, .base hf⟩, by simp, fun j g hj => by omega, fun g _ x hx => by simp at hx⟩
theorem Gath.old {A : Arcs} {n : Nat} {H0 : List Int} {v : Nat} {G T : List Nat} {i x : Nat} (h : Gath A n H0 v G i T) (hx : x ∈ G ∨ H0.getD x 0 ≠ -1) : Gath A n H0 v G i (T ++ [x]) := by
  refine { h with cur := fun g hg y hy hf => ?_ }
  rcases List.mem_append.1 hy with h1 | h1
  · exact h.cur g hg y h1 hf
  · rw [List.mem_singleton.1 h1] at hf ⊢
    exact hx.elim (fun h => h) (fun h => absurd hf h)
theorem Gath.new {A : Arcs} {n : Nat} {H0 : List Int} {v : Nat} {G T : List Nat} {i x g : Nat} (h : Gath A n H0 v G i T) (hg : G[i]? = some g) (ha : (x, g) ∈ A) (hx : x < n) (hn : x ∉ G) (hf : H0.getD x 0 = -1) : Gath A n H0 v (G ++ [x]) i (T ++ [x]) := by
  have hi := (List.getElem?_eq_some_iff.1 hg).1
  refine ⟨nodup_snoc h.nd hn, fun y hy => ?_, by simp [h.v0], fun j y hj hy z hz hfz => ?_, fun y hy z hz hfz => ?_⟩
  · rcases List.mem_append.1 hy with h1 | h1
    · exact h.un y h1
    · rw [List.mem_singleton.1 h1]
      exact ⟨hx, hf, .step (h.un g (List.mem_of_getElem? hg)).2.2 ha hf⟩
  · rw [List.getElem?_append_left (by omega)] at hy
    exact List.mem_append_left _ (h.done j y hj hy z hz hfz)
  · rw [List.getElem?_append_left hi] at hy
    rcases List.mem_append.1 hz with h1 | h1
    · exact List.mem_append_left _ (h.cur y hy z h1 hfz)
    · exact List.mem_append_right _ h1
theorem Gath.next {A : Arcs} {n : Nat} {H0 : List Int} {v : Nat} {G T : List Nat} {i g : Nat} (h : Gath A n H0 v G i T) (hg : G[i]? = some g) (hT : ∀ x, (x, g) ∈ A → x ∈ T) : Gath A n H0 v G (i + 1) [] := by
  refine { h with done := fun j y hj hy x hx hf => ?_, cur := fun y _ x hx => by simp at hx }
  by_cases e : j = i
  · subst e
    have e2 := hg
    rw [hy] at e2; injection e2 with e2; subst e2
    exact h.cur y hy x (hT x hx) hf
  · exact h.done j y (by omega) hy x hx hf
theorem Gath.all {A : Arcs} {n : Nat} {H0 : List Int} {v : Nat} {G : List Nat} (h : Gath A n H0 v G G.length []) (x : Nat) : x ∈ G ↔ Un A (fun x => H0.getD x 0 = -1) v x := by
  refine ⟨fun hx => (h.un x hx).2.2, fun hx => ?_⟩
  induction hx with
  | base _ => exact h.v0
  | step _ h2 h3 ih =>
    obtain ⟨j, hj, hg⟩ := List.getElem_of_mem ih
    exact h.done j _ hj (by rw [List.getElem?_eq_getElem hj, hg]) _ h2 h3
theorem Gath.len {A : Arcs} {n : Nat} {H0 : List Int} {v : Nat} {G T : List Nat} {i : Nat} (h : Gath A n H0 v G i T) : G.length ≤ n := nodup_le n G h.nd (fun x hx => (h.un x hx).1)
theorem grown_row {w wl w2 : World} {r : Option Nat} {base : Nat} {v : Value} {l : List Int} (h : w.grownBy wl r) (ho : OwnI wl base v l) (hb : w.heap.size ≤ base) (hg : wl.grownBy w2 v.ownBlock) : w.grownBy w2 r :=
  ⟨hg.os.trans h.os, hg.tape.trans h.tape, hg.output.trans h.output, Nat.le_trans h.size hg.size, fun k hk hr => (hg.block k (Nat.lt_of_lt_of_le hk h.size) (fun e => by have := (World.ownsRow.lt ho k e.symm).1; omega)).trans (h.block k hk hr)⟩
def GathPost (A : Arcs) (n gh base : Nat) (H0 : List Int) (v : Nat) (w : World) (e : Ending) (w' : World) : Prop := ∃ u G H, e = .returned u ∧ OwnI w' w.heap.size u (zi G) ∧ OwnI w' base (.slice (some ⟨gh, 0, none⟩) n n) H ∧ G.Nodup ∧ (∀ x, x ∈ G ↔ Un A (fun x => H0.getD x 0 = -1) v x) ∧ (∀ x ∈ G, x < n) ∧ HM n H H0 G v ∧ w.grownBy w' (some gh)
def GRel (A : Arcs) (n gh base : Nat) (H0 : List Int) (v : Nat) (w0 : World) (pv i : Value) (wl : World) : Prop := ∃ (k : Nat) (G : List Nat) (H : List Int), i = .int .i64 k ∧ k ≤ G.length ∧ Gath A n H0 v G k [] ∧ HM n H H0 G v ∧ OwnI wl w0.heap.size pv (zi G) ∧ OwnI wl base (.slice (some ⟨gh, 0, none⟩) n n) H ∧ w0.grownBy wl (some gh)
def GRel1 (A : Arcs) (n gh base : Nat) (H0 : List Int) (v k g m : Nat) (l : List Nat) (w0 : World) (pv i : Value) (wl : World) : Prop := ∃ (j : Nat) (G : List Nat) (H : List Int), i = .int .i64 j ∧ j ≤ m ∧ G[k]? = some g ∧ Gath A n H0 v G k (l.take j) ∧ HM n H H0 G v ∧ OwnI wl w0.heap.size pv (zi G) ∧ OwnI wl base (.slice (some ⟨gh, 0, none⟩) n n) H ∧ w0.grownBy wl (some gh)

set_option maxRecDepth 100000 in
set_option maxHeartbeats 8000000 in
theorem gathP (bv : Value) (N : List (List Nat)) (A : Arcs) (n gh base B v : Nat) (H0 : List Int) (w : World) (hN : Succ n N) (hA : ∀ v, v < n → ∀ x, x ∈ N.getD v [] ↔ (x, v) ∈ A) (hL : ∀ v, (N.getD v []).length ≤ 1000000) (hn : n ≤ 900) (hr : LRow w B bv (N.map zi))
    (hh : OwnI w base (.slice (some ⟨gh, 0, none⟩) n n) H0) (hB : B ≤ gh) (hBw : B ≤ w.heap.size) (hv : v < n) (hf : H0.getD v 0 = -1) :
    Calls Tryz.prog 81 #[bv, .slice (some ⟨gh, 0, none⟩) n n, .int .i64 v] w (GathPost A n gh base H0 v w) := by
  obtain ⟨i0, hi, hz0, hz1, hz2⟩ := info_parts infoI
  obtain ⟨AN, capN, hbv, hrd⟩ := hr.rd hN.len
  subst hbv
  have hHl : H0.length = n := by
    rcases hh.form with ⟨hv, _⟩ | ⟨_, _, _, hv, _⟩
    · cases hv
    · injection hv with _ e _; exact e.symm
  have hgl := (World.ownsRow.lt hh gh rfl).2
  have f1 : w.frozen? ⟨gh, v, none⟩ = false := by
    have h1 := hh
    unfold OwnI at h1
    rw [hHl] at h1
    exact own_free h1 v
  have hh2 := hh.store v (by omega) (v : Int)
  have hg2 := grown_set w gh v (.int .i64 (v : Int))
  obtain ⟨W, hW⟩ : ∃ W, w.setCell ⟨gh, v, none⟩ (.int .i64 (v : Int)) = W := ⟨_, rfl⟩
  have hWs : W.heap.size = w.heap.size := by rw [← hW]; simp [World.setCell]
  rw [hW] at hh2 hg2
  have hp0 : OwnI (W.alloc (.cells #[.int .i64 (v : Int)] 3)) w.heap.size (.slice (some ⟨W.heap.size, 0, none⟩) 1 1) (zi [v]) :=
    ⟨rfl, .inr ⟨W.heap.size, 1, _, rfl, by rw [hWs]; exact Nat.le_refl _, heap_alloc_new W _, Nat.le_refl _, by decide, rfl, rfl⟩⟩
  have cv : w.cell? ⟨gh, v, none⟩ = some (.int .i64 (-1)) := by
    rw [hh.cell v (by omega)]
    rw [List.getD_eq_getElem?_getD, List.getElem?_eq_getElem (by omega)] at hf
    rw [show H0[v]'(by omega) = -1 from hf]
  have HRD := Lib.hid hrd
  have HN := Lib.hid hN
  have HA := Lib.hid hA
  have HLN := Lib.hid hL
  have HP0 : Hid (OwnI (W.alloc (.cells #[.int .i64 (v : Int)] 3)) w.heap.size (.slice (some ⟨w.heap.size, 0, none⟩) 1 1) (zi [v])) := Lib.hid (by rw [hWs] at hp0; exact hp0)
  have HH0 : Hid (OwnI (W.alloc (.cells #[.int .i64 (v : Int)] 3)) base (.slice (some ⟨gh, 0, none⟩) n n) (H0.set v (v : Int))) := Lib.hid (hh2.below (below_new W _))
  have HG0 : Hid (w.grownBy (W.alloc (.cells #[.int .i64 (v : Int)] 3)) (some gh)) := Lib.hid (hg2.trans (World.grownBy_alloc W _ _))
  have HST := Lib.hid (Gath.start (A := A) hv hf)
  have HMS := Lib.hid (HM.start hHl hv)
  clear hr hrd hN hA hL hh hh2 hg2 hp0 hf
  go_enter Tryz.func81, Tryz.ntmps81
  go_wp2_with fail
  go_loopw [7, 8] (fun pv i wl => GRel A n gh base H0 v w pv i wl) (fun _ i _ => n - (intOf i).toNat)
  case atStart => exact ⟨0, [v], _, rfl, by omega, HST.out, HMS.out, HP0.out, HH0.out, HG0.out⟩
  case round =>
    obtain ⟨k, G, H, rfl, hk, hG, hM, hp, hh, hg⟩ := hrel
    have hGn := hG.len
    obtain ⟨PA, pcap, hpv⟩ := own_slice hp
    rw [zi_length] at hpv
    subst hpv
    by_cases hlt : k < G.length
    · obtain ⟨g, hgk⟩ : ∃ g, G[k]? = some g := ⟨_, List.getElem?_eq_getElem hlt⟩
      obtain ⟨gp, rfl, cp⟩ := own_rd hp k (by rw [zi_length]; exact hlt)
      have hqk : (zi G)[k]'(by rw [zi_length]; exact hlt) = (g : Int) := by
        have h1 := (List.getElem?_eq_some_iff.1 hgk).2
        simp [zi, h1]
      rw [hqk] at cp
      have hgn := (hG.un g (List.mem_of_getElem? hgk)).1
      obtain ⟨b, off, uv, A2, cap2, rfl, hbn, hun, rfl, hin⟩ := HRD.out g hgn
      have hBel : Below B w wr := (Below.refl B w).grown hg hBw (fun j hj => by injection hj with hj; omega)
      have cn := (hBel.cell (p := ⟨b, off + g, none⟩) hbn).trans hun
      obtain ⟨m, hm⟩ : ∃ m, (N.getD g []).length = m := ⟨_, rfl⟩
      have HIN := Lib.hid hin
      have hmb := HLN.out g
      rw [hm] at cn hmb
      have HM2 := Lib.hid hm
      have HGK := Lib.hid hgk
      have HG1 := Lib.hid hG
      have HM1 := Lib.hid hM
      have HP1 := Lib.hid hp
      have HH1 := Lib.hid hh
      have HGR := Lib.hid hg
      clear hgk hqk hin hun hm hG hM hp hh hg hBel
      obtain ⟨wo, rfl⟩ : ∃ wo : World, wo = wr := ⟨_, rfl⟩
      go_wp2_with fail
      go_loopw [7, 31] (fun pv i wl => GRel1 A n gh base H0 v k g m (N.getD g []) w pv i wl) (fun _ i _ => m - (intOf i).toNat)
      case atStart => exact ⟨0, G, H, rfl, by omega, HGK.out, HG1.out, HM1.out, HP1.out, HH1.out, HGR.out⟩
      case round =>
        obtain ⟨j, G2, H2, rfl, hj, hgk, hG, hM, hp, hh, hg⟩ := hrel
        obtain ⟨PA2, pcap2, hpv⟩ := own_slice hp
        rw [zi_length] at hpv
        subst hpv
        by_cases hlt2 : j < m
        · have hBel : Below B w wr := (Below.refl B w).grown hg hBw (fun j hj => by injection hj with hj; omega)
          have hjl : j < (N.getD g []).length := by rw [HM2.out]; exact hlt2
          obtain ⟨b2, off2, rfl, hb2, hcs⟩ := HIN.out (by omega)
          have c2 := (hBel.cell (p := ⟨b2, off2 + j, none⟩) hb2).trans (hcs j hjl)
          have hxm := List.getElem_mem hjl
          have hxn := HN.out.get _ hxm
          have hxA := (HA.out g hgn _).1 hxm
          have hTk : (N.getD g []).take (j + 1) = (N.getD g []).take j ++ [(N.getD g [])[j]] := List.take_succ_eq_append_getElem hjl
          obtain ⟨x, hx⟩ : ∃ x, (N.getD g [])[j] = x := ⟨_, rfl⟩
          rw [hx] at c2 hxn hxA hTk
          have hHl2 := hM.len
          have cH := hh.cell x (by omega)
          obtain ⟨z, hz⟩ : ∃ z, H2.getD x 0 = z := ⟨_, rfl⟩
          have hz' : H2[x]'(by omega) = z := by rw [← hz, List.getD_eq_getElem?_getD, List.getElem?_eq_getElem (by omega)]; rfl
          rw [hz'] at cH
          have hx0 : (0 : Int) ≤ x := by omega
          have hxi : (x : Int) < n := by omega
          have hGn2 := hG.len
          by_cases hzm : z = -1
          · have hzb : (z == -1) = true := by simpa using hzm
            obtain ⟨hxG, hxF⟩ := (hM.free hxn).1 (by rw [hz]; exact hzm)
            have hg1 := hG.new hgk hxA hxn hxG hxF
            have hm1 := hM.mark (x := x) hxn
            have hh1 := hh.store x (by omega) (v : Int)
            have f2 : wr.frozen? ⟨gh, x, none⟩ = false := by
              have h1 := hh
              unfold OwnI at h1
              rw [hHl2] at h1
              exact own_free h1 x
            have hgs := grown_set wr gh x (.int .i64 (v : Int))
            have hgg := hg.trans hgs
            have hp1 := hp.kept hgs (by
              right; intro e
              have := (World.ownsRow.lt hp gh e).1
              omega)
            obtain ⟨W2, hW2⟩ : ∃ W2, wr.setCell ⟨gh, x, none⟩ (.int .i64 (v : Int)) = W2 := ⟨_, rfl⟩
            have hW2s : W2.heap.size = wr.heap.size := by rw [← hW2]; simp [World.setCell]
            rw [hW2] at hh1 hgg hp1
            have HAP : Hid (∀ (v' : Value) (w2 : World), w2.ownsRow w.heap.size 3 1 v' (G2.length + 1) (iv (zi G2) ++ [.int .i64 (x : Int)]) → (W2.alloc (.cells #[.int .i64 (x : Int)] 3)).grownBy w2 (Value.slice PA2 G2.length pcap2).ownBlock → OwnI w2 w.heap.size v' (zi (G2 ++ [x])) ∧ OwnI w2 base (.slice (some ⟨gh, 0, none⟩) n n) (H2.set x (v : Int)) ∧ w.grownBy w2 (some gh)) := fun v' w2 h1 h2 => by
              have e1 := hp1.below (below_new W2 (.cells #[.int .i64 (x : Int)] 3))
              have e2 := hh1.below (below_new W2 (.cells #[.int .i64 (x : Int)] 3))
              have e3 := hgg.trans (World.grownBy_alloc W2 (.cells #[.int .i64 (x : Int)] 3) _)
              refine ⟨?_, e2.kept h2 (.inr fun e => ?_), grown_row e3 e1 (Nat.le_refl _) h2⟩
              · unfold OwnI
                rw [zi_append, List.length_append, zi_length, iv_append]; exact h1
              · have := (World.ownsRow.lt e1 gh e.symm).1
                omega
            have HOW : Hid (W2.ownsRow w.heap.size 3 1 (.slice PA2 G2.length pcap2) G2.length (iv (zi G2))) := by have := hp1; unfold OwnI at this; rw [zi_length] at this; exact this
            have hgsz := hg.size
            have HL1 : Hid (G2.length + 1 ≤ maxLen) := Lib.hid (by unfold maxLen; omega)
            have HL2 : Hid ((G2.length + 1) * 8 ≤ 140737488355328) := Lib.hid (by omega)
            have HL3 : Hid (w.heap.size ≤ (W2.alloc (.cells #[.int .i64 (x : Int)] 3)).heap.size) := Lib.hid (by simp; omega)
            have HG2 : Hid (Gath A n H0 v (G2 ++ [x]) k ((N.getD g []).take (j + 1))) := Lib.hid (by rw [hTk]; exact hg1)
            have HM3 := Lib.hid hm1
            have HGK2 : Hid ((G2 ++ [x])[k]? = some g) := Lib.hid (by rw [List.getElem?_append_left (List.getElem?_eq_some_iff.1 hgk).1]; exact hgk)
            clear hBel hcs hxm hx hxA hTk hz hz' hzm hxG hxF hg1 hm1 hh1 hgs hgg hp1 hgk hG hM hp hh hg hW2s hgsz
            go_wp2_with (at_builtin; refine wpList_append_own _ rfl _ _ 33 rfl w.heap.size 3 i0 (.int .i64 0) 1 8 Tryz.underlying33 hi hz0 hz1 hz2 rfl (by decide) _ _ _ rfl (World.ownsRow.alloc HOW.out _) ⟨W2.heap.size, 0, none⟩ 1 1 [.int .i64 (x : Int)] rfl rfl (cell_one_new _ _ _) (by simp [Value.oneCell']) HL1.out HL2.out HL3.out ?_; intro v' w4 hown' hgrow _; obtain ⟨g2', cap2', rfl⟩ := own_succ hown'; obtain ⟨hq1, hq2, hq3⟩ := HAP.out _ w4 hown' hgrow; replace hq1 := Lib.hid hq1; replace hq2 := Lib.hid hq2; replace hq3 := Lib.hid hq3; clear hown' hgrow)
            go_roundw
            case rel => exact ⟨j + 1, G2 ++ [x], _, by go_num, by omega, HGK2.out, HG2.out, HM3.out, hq1.out, hq2.out, hq3.out⟩
            case measure => simp [intOf]; omega
          · have hzb : (z == -1) = false := by simpa using hzm
            have hxo : x ∈ G2 ∨ H0.getD x 0 ≠ -1 := by
              apply Classical.byContradiction
              intro h1
              rw [not_or, Classical.not_not] at h1
              exact hzm (by rw [← hz]; exact (hM.free hxn).2 h1)
            have HG2 : Hid (Gath A n H0 v G2 k ((N.getD g []).take (j + 1))) := Lib.hid (by rw [hTk]; exact hG.old hxo)
            have HM3 := Lib.hid hM
            have HP3 := Lib.hid hp
            have HH3 := Lib.hid hh
            have HG3 := Lib.hid hg
            have HGK2 := Lib.hid hgk
            clear hBel hcs hxm hx hxA hTk hz hz' hzm hxo hgk hG hM hp hh hg
            go_wp2_with fail
            go_roundw
            case rel => exact ⟨j + 1, G2, _, by go_num, by omega, HGK2.out, HG2.out, HM3.out, HP3.out, HH3.out, HG3.out⟩
            case measure => simp [intOf]; omega
        · have hjm : j = m := by omega
          have HG2 : Hid (Gath A n H0 v G2 (k + 1) []) := Lib.hid (hG.next hgk (fun x hx => by
            rw [hjm, List.take_of_length_le (by rw [HM2.out]; omega)]
            exact (HA.out g hgn x).2 hx))
          have hkl := (List.getElem?_eq_some_iff.1 hgk).1
          have hGn2 := hG.len
          have HM3 := Lib.hid hM
          have HP3 := Lib.hid hp
          have HH3 := Lib.hid hh
          have HG3 := Lib.hid hg
          have hge : ¬ ((j : Int) < m) := by omega
          clear hjm hgk hG hM hp hh hg
          go_wp2_with fail
          go_roundw
          case rel => exact ⟨k + 1, G2, _, by go_num, by omega, HG2.out, HM3.out, HP3.out, HH3.out, HG3.out⟩
          case measure => simp [intOf]; omega
    · have hkl : k = G.length := by omega
      have HF : Hid (GathPost A n gh base H0 v w (.returned (.slice PA G.length pcap)) wr) := ⟨_, G, H, rfl, hp, hh, hG.nd, by rw [hkl] at hG; exact hG.all, fun x hx => (hG.un x hx).1, hM, hg⟩
      have hge : ¬ ((k : Int) < G.length) := by omega
      clear hkl hG hM hp hh hg
      go_wp2_with fail
      go_ret
      exact HF.out
end Go.Proofs.YtmnhnighlgpjmaaGreat
