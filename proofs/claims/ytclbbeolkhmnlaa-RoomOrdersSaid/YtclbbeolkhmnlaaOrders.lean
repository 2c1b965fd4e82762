/-
  The walk of RoomOrders, from what it asks of the program (Room).
-/
import Derived.Test.YtclbbeolkhmnlaaRoom
namespace Go.Proofs.Ytclbbeolkhmnlaa
set_option linter.unusedVariables false
set_option linter.unusedSimpArgs false
open Go.RowKit

/-- Adding spans one after the other. -/
def adds (L : List Sp) : List Sp := L.foldl addL []
theorem adds_succ (L : List Sp) (k : Nat) (h : k < L.length) : adds (L.take (k + 1)) = addL (adds (L.take k)) L[k] := by
  unfold adds; rw [List.take_succ_eq_append_getElem h, List.foldl_append]; rfl
theorem fold_add : ∀ (L A : List Sp), right A → right (L.foldl addL A) ∧ (∀ a, inn (L.foldl addL A) a ↔ inn A a ∨ ∃ s ∈ L, s.ok ∧ s.has a) ∧ (L.foldl addL A).length ≤ A.length + L.length
  | [], A, h => ⟨h, fun a => by simp, by simp⟩
  | s :: L, A, h => by
    obtain ⟨h1, h2, h3⟩ := fold_add L (addL A s) (addL_right s h)
    have h4 := addL_length A s
    refine ⟨h1, fun a => ?_, by simp only [List.foldl_cons, List.length_cons]; omega⟩
    rw [List.foldl_cons, h2 a]
    by_cases hs : s.ok
    · rw [addL_mem h hs]
      constructor
      · rintro ((h5 | h5) | ⟨t, ht, h5⟩)
        · exact .inl h5
        · exact .inr ⟨s, by simp, hs, h5⟩
        · exact .inr ⟨t, by simp [ht], h5⟩
      · rintro (h5 | ⟨t, ht, h5⟩)
        · exact .inl (.inl h5)
        · rcases List.mem_cons.1 ht with rfl | ht
          · exact .inl (.inr h5.2)
          · exact .inr ⟨t, ht, h5⟩
    · rw [addL_bad (fun hc => hs hc.2)]
      constructor
      · rintro (h5 | ⟨t, ht, h5⟩)
        · exact .inl h5
        · exact .inr ⟨t, by simp [ht], h5⟩
      · rintro (h5 | ⟨t, ht, h5⟩)
        · exact .inl h5
        · rcases List.mem_cons.1 ht with rfl | ht
          · exact absurd h5.1 hs
          · exact .inr ⟨t, ht, h5⟩
theorem adds_right (L : List Sp) : right (adds L) := (fold_add L [] right_nil).1
theorem adds_mem (L : List Sp) (a : Int) : inn (adds L) a ↔ ∃ s ∈ L, s.ok ∧ s.has a := by
  rw [adds, (fold_add L [] right_nil).2.1 a]
  exact ⟨fun h => h.elim (fun h => absurd h (inn_nil a)) id, .inr⟩
theorem adds_length (L : List Sp) : (adds L).length ≤ L.length := by
  have := (fold_add L [] right_nil).2.2
  simpa [adds] using this
theorem adds_reverse (L : List Sp) : adds L.reverse = adds L := right_unique (adds_right _) (adds_right _) fun a => by
  rw [adds_mem, adds_mem]; simp
theorem add_again {x : List Sp} (h : right x) {s : Sp} (hs : s ∈ x) : addL x s = x := right_unique (addL_right s h) h fun a => by
  rw [addL_mem h (right_ok h s hs).1]
  exact ⟨fun h1 => h1.elim id (fun h2 => ⟨s, hs, h2⟩), .inl⟩
/-- Cutting spans one after the other. -/
def cuts (x L : List Sp) : List Sp := L.foldl cutL x
theorem cuts_succ (x L : List Sp) (k : Nat) (h : k < L.length) : cuts x (L.take (k + 1)) = cutL (cuts x (L.take k)) L[k] := by
  unfold cuts; rw [List.take_succ_eq_append_getElem h, List.foldl_append]; rfl
theorem fold_cut : ∀ (L A : List Sp), right A → right (L.foldl cutL A) ∧ (∀ a, inn (L.foldl cutL A) a ↔ inn A a ∧ ¬ ∃ s ∈ L, s.ok ∧ s.has a) ∧ (L.foldl cutL A).length ≤ A.length + L.length
  | [], A, h => ⟨h, fun a => by simp, by simp⟩
  | s :: L, A, h => by
    obtain ⟨h1, h2, h3⟩ := fold_cut L (cutL A s) (cutL_right s h)
    by_cases hs : s.ok
    · have h4 := cutL_length h hs
      refine ⟨h1, fun a => ?_, by simp only [List.foldl_cons, List.length_cons]; omega⟩
      rw [List.foldl_cons, h2 a, cutL_mem h hs]
      constructor
      · rintro ⟨⟨h5, h6⟩, h7⟩
        refine ⟨h5, ?_⟩
        rintro ⟨t, ht, h8⟩
        rcases List.mem_cons.1 ht with rfl | ht
        · exact h6 h8.2
        · exact h7 ⟨t, ht, h8⟩
      · rintro ⟨h5, h6⟩
        exact ⟨⟨h5, fun h7 => h6 ⟨s, by simp, hs, h7⟩⟩, fun ⟨t, ht, h7⟩ => h6 ⟨t, by simp [ht], h7⟩⟩
    · have e : cutL A s = A := cutL_bad (fun hc => hs hc.2)
      rw [e] at h1 h2 h3
      refine ⟨by rw [List.foldl_cons, e]; exact h1, fun a => ?_, by simp only [List.foldl_cons, List.length_cons]; rw [e]; omega⟩
      rw [List.foldl_cons, e, h2 a]
      constructor
      · rintro ⟨h5, h7⟩
        refine ⟨h5, ?_⟩
        rintro ⟨t, ht, h8⟩
        rcases List.mem_cons.1 ht with rfl | ht
        · exact hs h8.1
        · exact h7 ⟨t, ht, h8⟩
      · rintro ⟨h5, h6⟩
        exact ⟨h5, fun ⟨t, ht, h7⟩ => h6 ⟨t, by simp [ht], h7⟩⟩
theorem cuts_all (L : List Sp) : cuts (adds L) L = [] := by
  obtain ⟨h1, h2, _⟩ := fold_cut L (adds L) (adds_right L)
  refine right_unique h1 right_nil fun a => ?_
  have h3 : inn (cuts (adds L) L) a ↔ inn (adds L) a ∧ ¬ ∃ s, s ∈ L ∧ s.ok ∧ s.has a := h2 a
  rw [h3, adds_mem]
  exact ⟨fun h => absurd h.1 h.2, fun h => absurd h (inn_nil a)⟩
theorem cuts_length (x L : List Sp) (h : right x) : (cuts x L).length ≤ x.length + L.length := (fold_cut L x h).2.2
theorem srow_nil (w : World) (B : Nat) : SRow w B (.slice none 0 0) [] := srow_nil0 w B
theorem reverse_at (l : List Sp) (k : Nat) (h : k < l.length) (h2 : k < l.reverse.length) : l.reverse[k] = gt l (l.length - 1 - k) := by
  rw [List.getElem_reverse, gt_get l _ (by omega)]

section
variable (Q : Room)
include Q

set_option maxRecDepth 100000 in
set_option maxHeartbeats 4000000 in
theorem ordersL (A : Option Addr) (n cap : Nat) (w : World) (h : 20 < n) :
    Calls Try.prog 6 #[.slice A n cap] w fun e w' => e = .returned (.bool true) ∧ Below w.heap.size w w' := by
  have HSm := Lib.hid (fun w => smallQ Q w)
  go_enter Try.func6, Try.ntmps6
  go_wp2_with fail
  refine (HSm.out _).mono ?_; rintro e w1 ⟨rfl, b1⟩
  go_wp2_with fail
  all_goals
    go_ret
    exact ⟨rfl, b1⟩

set_option maxRecDepth 100000 in
set_option maxHeartbeats 4000000 in
theorem ordersM (v : Value) (l : List Sp) (w : World) (hr : SRow w w.heap.size v l) (hl : l.length ≤ 20) :
    Calls Try.prog 6 #[v] w fun e w' => e = .returned (.bool true) ∧ Below w.heap.size w w' := by
  have HSm := Lib.hid (fun w => smallQ Q w)
  have hwf := fun i hi => hr.wf (i := i) hi
  have HWF := Lib.hid hwf; clear hwf
  have HA := Lib.hid (fun (u : Value) (L : List Sp) (s : Sp) w (hL : L.length ≤ 100) (hs : s.wf) (h : SRow w w.heap.size u L) => Q.add u L s w hL hs h)
  have HC := Lib.hid (fun (u : Value) (L : List Sp) (s : Sp) w (hL : L.length ≤ 100) (hs : s.wf) (h : SRow w w.heap.size u L) => Q.cut u L s w hL hs h)
  have HRi := Lib.hid (fun (u : Value) (L : List Sp) w (hL : L.length ≤ 100) (h : SRow w w.heap.size u L) => Q.right u L w hL h)
  unfold spv at HA HC
  have hr0 := hr
  obtain ⟨-, hlen, A, cap, rfl, hA⟩ := hr
  have HROW := Lib.hid hr0; clear hr0
  go_enter Try.func6, Try.ntmps6
  go_wp2_with fail
  refine (HSm.out _).mono ?_; rintro e w1 ⟨rfl, b1⟩
  go_wp2_with fail
  go_loopw [4, 5, 6] (fun x y i wl => ∃ k : Nat, k ≤ l.length ∧ i = .int .i64 k ∧ SRow wl wl.heap.size x (adds (l.take k)) ∧ SRow wl wl.heap.size y (adds (l.reverse.take k)) ∧ Below w.heap.size w wl) (fun _ _ i _ => l.length - (intOf i).toNat)
  case atStart => exact ⟨0, by omega, rfl, srow_nil _ _, srow_nil _ _, b1⟩
  case round =>
    obtain ⟨k, hk, rfl, hx, hy, hB⟩ := hrel
    by_cases hlt : k < l.length
    · obtain ⟨b, off, rfl, hb, hc⟩ := hA (by omega)
      clear hA
      obtain ⟨j, hj⟩ : ∃ j, l.length = k + 1 + j := ⟨l.length - (k + 1), by omega⟩
      have d1 := (hB.cell (p := ⟨b, off + k * 2, none⟩) hb).trans (hc k hlt).1
      have d2 := (hB.cell (p := ⟨b, off + k * 2 + 1, none⟩) hb).trans (hc k hlt).2
      have SX := Lib.hid (adds_succ l k hlt)
      have SY := Lib.hid (adds_succ l.reverse k (by simpa using hlt))
      rw [← gt_get l k hlt] at SX
      rw [reverse_at l k hlt, show l.length - 1 - k = j by omega] at SY
      have hlx := adds_length (l.take k)
      have hly := adds_length (l.reverse.take k)
      have hlx2 : (adds (l.take k)).length ≤ 100 := by rw [List.length_take] at hlx; omega
      have hly2 : (adds (l.reverse.take k)).length ≤ 100 := by rw [List.length_take] at hly; omega
      have HAX := Lib.hid (fun u w (h : SRow w w.heap.size u (adds (l.take k))) => HA.out u _ (gt l k) w hlx2 (HWF.out k hlt) h)
      have HAY := Lib.hid (fun u w (h : SRow w w.heap.size u (adds (l.reverse.take k))) => HA.out u _ (gt l j) w hly2 (HWF.out j (by omega)) h)
      rw [← SX.out] at HAX
      rw [← SY.out] at HAY
      clear hlx hly hlx2 hly2
      obtain ⟨p, hp⟩ : ∃ p, (gt l k).p = p := ⟨_, rfl⟩
      obtain ⟨n, hn⟩ : ∃ n, (gt l k).n = n := ⟨_, rfl⟩
      rw [hp] at d1
      rw [hn] at d2
      simp only [hp, hn] at HAX
      clear hp hn
      have q0 : (0 : Int) ≤ k := by omega
      have q1 : (k : Int) < l.length := by omega
      go_wp2_with fail
      refine (HAX.out _ _ hx).mono ?_; rintro e w2 ⟨ux, rfl, hx2, b2⟩
      have hy2 := hy.keep b2
      have hB2 := chain hB b2 (Nat.le_refl _)
      have e1 := (hB2.cell (p := ⟨b, off + j * 2, none⟩) hb).trans (hc j (by omega)).1
      have e2 := (hB2.cell (p := ⟨b, off + j * 2 + 1, none⟩) hb).trans (hc j (by omega)).2
      obtain ⟨p2, hp2⟩ : ∃ p, (gt l j).p = p := ⟨_, rfl⟩
      obtain ⟨n2, hn2⟩ : ∃ n, (gt l j).n = n := ⟨_, rfl⟩
      rw [hp2] at e1
      rw [hn2] at e2
      simp only [hp2, hn2] at HAY
      clear hp2 hn2 hc
      have t1 : IntKind.i64.wrap ((l.length : Int) - 1) = (l.length : Int) - 1 := IntWalk.i64_in _ (by omega)
      have t2 : (l.length : Int) - 1 - k = j := by omega
      have t3 : (0 : Int) ≤ j := by omega
      have t4 : (j : Int) < l.length := by omega
      have hj' := Lib.hid hj; clear hj
      go_wp2_with fail
      refine (HAY.out _ _ hy2).mono ?_; rintro e w3 ⟨uy, rfl, hy3, b3⟩
      have hx3 := hx2.keep b3
      have hB3 := chain hB2 b3 (Nat.le_refl _)
      go_wp2_with fail
      go_roundw
      case rel => exact ⟨k + 1, by omega, by go_num, hx3, hy3, hB3⟩
      case measure => simp [intOf]; omega
    · obtain rfl : k = l.length := by omega
      rw [List.take_length] at hx
      rw [List.take_of_length_le (by simp), adds_reverse] at hy
      have hrx := adds_right l
      have hlx := adds_length l
      obtain ⟨X, hX⟩ : ∃ X, adds l = X := ⟨_, rfl⟩
      rw [hX] at hx hy hrx hlx
      have HX := Lib.hid hX; clear hX
      have HRX := Lib.hid hrx; clear hrx
      obtain ⟨w2, rfl⟩ : ∃ w2 : World, w2 = wr := ⟨_, rfl⟩
      obtain ⟨hx1, hx2, AX, capX, rfl, hAX⟩ := hx
      have HXR : Hid (SRow w2 w2.heap.size (.slice AX X.length capX) X) := ⟨hx1, hx2, AX, capX, rfl, hAX⟩
      clear hx1
      go_wp2_with fail
      go_loopw [7, 8] (fun z i wl => ∃ k : Nat, k ≤ X.length ∧ i = .int .i64 k ∧ SRow wl wl.heap.size z X ∧ Below w2.heap.size w2 wl) (fun _ i _ => X.length - (intOf i).toNat)
      case atStart => exact ⟨0, by omega, rfl, HXR.out, Below.refl _ _⟩
      case round =>
        obtain ⟨k, hk, rfl, hz, hBz⟩ := hrel
        by_cases hlt : k < X.length
        · obtain ⟨b, off, rfl, hb, hc⟩ := hAX (by omega)
          have d1 := (hBz.cell (p := ⟨b, off + k * 2, none⟩) hb).trans (hc k hlt).1
          have d2 := (hBz.cell (p := ⟨b, off + k * 2 + 1, none⟩) hb).trans (hc k hlt).2
          have hmem : gt X k ∈ X := by rw [gt_get X k hlt]; exact List.getElem_mem hlt
          have HAZ := Lib.hid (fun u w (h : SRow w w.heap.size u X) => HA.out u X (gt X k) w (by omega) (right_ok HRX.out _ hmem).1.wf h)
          rw [add_again HRX.out hmem] at HAZ
          obtain ⟨p, hp⟩ : ∃ p, (gt X k).p = p := ⟨_, rfl⟩
          obtain ⟨n, hn⟩ : ∃ n, (gt X k).n = n := ⟨_, rfl⟩
          rw [hp] at d1
          rw [hn] at d2
          simp only [hp, hn] at HAZ
          clear hp hn hc hAX hmem
          have q0 : (0 : Int) ≤ k := by omega
          have q1 : (k : Int) < X.length := by omega
          go_wp2_with fail
          refine (HAZ.out _ _ hz).mono ?_; rintro e w3 ⟨uz, rfl, hz3, b3⟩
          have hB3 := chain hBz b3 (Nat.le_refl _)
          go_wp2_with fail
          go_roundw
          case rel => exact ⟨k + 1, by omega, by go_num, hz3, hB3⟩
          case measure => simp [intOf]; omega
        · obtain rfl : k = X.length := by omega
          obtain ⟨w3, rfl⟩ : ∃ w3 : World, w3 = wr := ⟨_, rfl⟩
          have hXr3 := HXR.out.keep hBz
          have hy3 := hy.keep hBz
          have hB3 := chain hB hBz (Nat.le_refl _)
          have HX3 := Lib.hid hXr3
          have HY3 := Lib.hid hy3; clear hy3 hy
          have HZ3 := Lib.hid hz
          clear hz hAX
          go_wp2_with fail
          go_loopw [9, 10] (fun z i wl => ∃ k : Nat, k ≤ l.length ∧ i = .int .i64 k ∧ SRow wl wl.heap.size z (cuts X (l.take k)) ∧ Below w3.heap.size w3 wl) (fun _ i _ => l.length - (intOf i).toNat)
          case atStart => exact ⟨0, by omega, rfl, hXr3, Below.refl _ _⟩
          case round =>
            obtain ⟨k, hk, rfl, hz, hBz2⟩ := hrel
            by_cases hlt : k < l.length
            · obtain ⟨b, off, rfl, hb, hc⟩ := hA (by omega)
              have hB4 := chain hB3 hBz2 (Nat.le_refl _)
              have d1 := (hB4.cell (p := ⟨b, off + k * 2, none⟩) hb).trans (hc k hlt).1
              have d2 := (hB4.cell (p := ⟨b, off + k * 2 + 1, none⟩) hb).trans (hc k hlt).2
              have hcl := cuts_length X (l.take k) HRX.out
              have SC := Lib.hid (cuts_succ X l k hlt)
              rw [← gt_get l k hlt] at SC
              have HCZ := Lib.hid (fun u w (h : SRow w w.heap.size u (cuts X (l.take k))) => HC.out u _ (gt l k) w (by rw [List.length_take] at hcl; omega) (HWF.out k hlt) h)
              rw [← SC.out] at HCZ
              obtain ⟨p, hp⟩ : ∃ p, (gt l k).p = p := ⟨_, rfl⟩
              obtain ⟨n, hn⟩ : ∃ n, (gt l k).n = n := ⟨_, rfl⟩
              rw [hp] at d1
              rw [hn] at d2
              simp only [hp, hn] at HCZ
              clear hp hn hc hA hcl
              have q0 : (0 : Int) ≤ k := by omega
              have q1 : (k : Int) < l.length := by omega
              go_wp2_with fail
              refine (HCZ.out _ _ hz).mono ?_; rintro e w4 ⟨uz, rfl, hz4, b4⟩
              have hB5 := chain hBz2 b4 (Nat.le_refl _)
              go_wp2_with fail
              go_roundw
              case rel => exact ⟨k + 1, by omega, by go_num, hz4, hB5⟩
              case measure => simp [intOf]; omega
            · obtain rfl : k = l.length := by omega
              rw [List.take_length, ← HX.out, cuts_all] at hz
              obtain ⟨-, -, AZ, capZ, rfl, -⟩ := hz
              obtain ⟨w4, rfl⟩ : ∃ w4 : World, w4 = wr := ⟨_, rfl⟩
              have x4 := HX3.out.keep hBz2
              have y4 := HY3.out.keep hBz2
              have z4 := HZ3.out.keep hBz2
              have HS := Lib.hid (fun u v w (h : SRow w w.heap.size u X) (k : SRow w w.heap.size v X) => sameR u v X X w h k)
              rw [show decide (X = X) = true from decide_eq_true rfl] at HS
              have HRR := Lib.hid (fun u w (h : SRow w w.heap.size u X) => HRi.out u X w (by omega) h)
              rw [show decide (right X) = true from decide_eq_true HRX.out] at HRR
              have hB4 := chain hB3 hBz2 (Nat.le_refl _)
              clear hA
              go_wp2_with fail
              refine (HS.out _ _ _ x4 y4).mono ?_; rintro e w5 ⟨rfl, b5⟩
              replace x4 := x4.keep b5
              replace z4 := z4.keep b5
              replace b5 := chain hB4 b5 (Nat.le_refl _)
              go_wp2_with fail
              refine (HS.out _ _ _ x4 z4).mono ?_; rintro e w6 ⟨rfl, b6⟩
              replace x4 := x4.keep b6
              replace b6 := chain b5 b6 (Nat.le_refl _)
              go_wp2_with fail
              refine (HRR.out _ _ x4).mono ?_; rintro e w7 ⟨rfl, b7⟩
              replace b7 := chain b6 b7 (Nat.le_refl _)
              go_wp2_with fail
              go_ret
              exact ⟨rfl, b7⟩
end
end Go.Proofs.Ytclbbeolkhmnlaa
