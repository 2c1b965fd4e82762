/-
  The reference of layer 6: Down, Start, Lose, Size, Read, Arm, New.
-/
import Derived.Test.YtcfngdlgllanhaaDRr
import Derived.Test.YtcfngdlgllanhaaDls
namespace Go.Proofs.Ytcfngdlgllanhaa
set_option linter.unusedVariables false
set_option linter.unusedSimpArgs false
open Go.RowKit

set_option maxHeartbeats 1000000 in
theorem downR {B : Nat → Prop} {w : World} {db : Nat} {s : Dk} (h : RefAt B w db s) :
    Calls Try.prog 17 #[.pointer (some ⟨db, 0, none⟩)] w fun e w' => e = .returned (.bool s.down) ∧ w = w' := by
  obtain ⟨lv, qv, kv, h, _⟩ := h
  obtain ⟨_, _, _, c3, _⟩ := h.cells
  generalize s.down = D at *
  clear h
  go_enter Try.func17, Try.ntmps17
  go_wp2_with fail
  go_ret
  exact ⟨rfl, rfl⟩
set_option maxHeartbeats 1000000 in
theorem startR {B : Nat → Prop} {w : World} {db : Nat} {s : Dk} (h : RefAt B w db s) :
    Calls Try.prog 21 #[.pointer (some ⟨db, 0, none⟩)] w fun e w' => e = .returned (.tuple #[]) ∧ ROp B w w' db s.start := by
  have HO := Lib.hid (h.set_down false)
  obtain ⟨lv, qv, kv, h, _⟩ := h
  obtain ⟨_, _, _, c3, _, _, fz⟩ := h.cells
  have f3 := fz 3
  clear fz h
  go_enter Try.func21, Try.ntmps21
  go_wp2_with fail
  go_end0
  exact ⟨rfl, HO.out⟩
set_option maxHeartbeats 1000000 in
theorem loseR {B : Nat → Prop} {w : World} {db : Nat} {s : Dk} (h : RefAt B w db s) (n : Int) (hn : n ≤ 9223372036854775807) :
    Calls Try.prog 43 #[.pointer (some ⟨db, 0, none⟩), .int .i64 n] w fun e w' => e = .returned (.tuple #[]) ∧ ROp B w w' db (s.lose n) := by
  have HO := Lib.hid (h.set_lost n.toNat (by omega))
  obtain ⟨lv, qv, kv, h, _⟩ := h
  obtain ⟨_, _, c2, _, _, _, fz⟩ := h.cells
  have f2 := fz 2
  have e : ((n.toNat : Nat) : Int) = max n 0 := by omega
  rw [e] at HO
  clear fz h e
  go_enter Try.func43, Try.ntmps43
  go_wp2_with fail
  go_end0
  exact ⟨rfl, HO.out⟩
set_option maxHeartbeats 1000000 in
theorem sizeR {B : Nat → Prop} {w : World} {db : Nat} {s : Dk} (h : RefAt B w db s) (f : Int) :
    Calls Try.prog 19 #[.pointer (some ⟨db, 0, none⟩), .int .i64 f] w fun e w' => e = .returned (.int .i64 (s.size f)) ∧ Below w.heap.size w w' := by
  have HZ : Hid (s.size f = if 0 ≤ f ∧ f < 8 then (s.bytes f.toNat).size else 0) := rfl
  generalize s.size f = Z at *
  by_cases h1 : f < 0
  · have HF : Hid (Z = 0) := Lib.hid (by rw [HZ.out, if_neg (by omega)])
    have d1 : decide (f < 0) = true := decide_eq_true h1
    clear HZ h
    go_enter Try.func19, Try.ntmps19
    go_wp2_with fail
    go_ret
    exact ⟨by rw [HF.out]; rfl, Below.refl _ _⟩
  · have d1 : decide (f < 0) = false := decide_eq_false h1
    by_cases h2 : 7 < f
    · have HF : Hid (Z = 0) := Lib.hid (by rw [HZ.out, if_neg (by omega)])
      have d2 : decide (7 < f) = true := decide_eq_true h2
      have d3 : decide (f > 7) = true := decide_eq_true h2
      clear HZ h
      go_enter Try.func19, Try.ntmps19
      go_wp2_with fail
      go_ret
      exact ⟨by rw [HF.out]; rfl, Below.refl _ _⟩
    · have d2 : decide (7 < f) = false := decide_eq_false h2
      have d3 : decide (f > 7) = false := decide_eq_false h2
      obtain ⟨F, rfl⟩ : ∃ F : Nat, f = F := ⟨f.toNat, by omega⟩
      have HC := Lib.hid (readR h F (by omega))
      have HF : Hid (Z = (s.bytes F).size) := Lib.hid (by rw [HZ.out, if_pos (by omega)]; rfl)
      generalize s.bytes F = R at *
      clear HZ h
      go_enter Try.func19, Try.ntmps19
      go_wp2_with fail
      refine HC.out.mono ?_; rintro e w2 ⟨rfl, hb⟩
      have HB := Lib.hid hb
      clear hb HC
      go_wp2_with fail
      go_ret
      exact ⟨by rw [HF.out]; rfl, HB.out⟩
set_option maxHeartbeats 1000000 in
theorem ReadR {B : Nat → Prop} {w : World} {db : Nat} {s : Dk} (h : RefAt B w db s) (f : Int) :
    Calls Try.prog 23 #[.pointer (some ⟨db, 0, none⟩), .int .i64 f] w fun e w' => e = .returned (.tuple #[.string (s.read f).1, .int .i64 (s.read f).2]) ∧ Below w.heap.size w w' := by
  have HK := Lib.hid (mayR h f)
  have HR : Hid (s.read f = if s.chk f ≠ 0 then (bs [], s.chk f) else (s.bytes f.toNat, 0)) := rfl
  generalize s.read f = R at *
  have hcs := chk_cases s f
  rcases hcs with hc | hc | ⟨hc, hdn, hf0, hf8⟩
  · rw [hc] at HK HR
    clear hc h
    go_enter Try.func23, Try.ntmps23
    go_wp2_with fail
    refine HK.out.mono ?_; rintro e w1 ⟨rfl, rfl⟩
    go_wp2_with fail
    go_ret2
    exact ⟨by rw [HR.out]; rfl, Below.refl _ _⟩
  · rw [hc] at HK HR
    clear hc h
    go_enter Try.func23, Try.ntmps23
    go_wp2_with fail
    refine HK.out.mono ?_; rintro e w1 ⟨rfl, rfl⟩
    go_wp2_with fail
    go_ret2
    exact ⟨by rw [HR.out]; rfl, Below.refl _ _⟩
  · rw [hc] at HK HR
    obtain ⟨F, rfl⟩ : ∃ F : Nat, f = F := ⟨f.toNat, by omega⟩
    have HBY := Lib.hid (readR h F (by omega))
    clear hc h
    go_enter Try.func23, Try.ntmps23
    go_wp2_with fail
    refine HK.out.mono ?_; rintro e w1 ⟨rfl, rfl⟩
    go_wp2_with fail
    refine HBY.out.mono ?_; rintro e w1 ⟨rfl, hb⟩
    have HB := Lib.hid hb
    clear hb
    go_wp2_with fail
    go_ret2
    exact ⟨by rw [HR.out]; rfl, HB.out⟩
/-- A slice value that reads as news, wherever it lies. -/
structure Src (w : World) (u : Value) (m sz : Nat) (news : List Value) : Prop where
  ex : ∃ A cap, u = .slice A m cap ∧ news.length = m * sz ∧ (A = none → m = 0) ∧ ∀ ad, A = some ad → ∀ j y, news[j]? = some y → w.cell? (ad.add j) = some y
theorem Src.below {w w' : World} {u : Value} {m sz : Nat} {news : List Value} (h : Src w u m sz news) (hb : Below w.heap.size w w') : Src w' u m sz news := by
  obtain ⟨A, cap, hv, h0, h1, h2⟩ := h
  exact ⟨A, cap, hv, h0, h1, fun ad ha j y hy => (hb.cell (World.block_lt_of_cell? w _ (h2 ad ha j y hy))).trans (h2 ad ha j y hy)⟩
theorem Src.own {w : World} {base sz n : Nat} {e : TypeId} {v : Value} {xs : List Value} (h : w.ownsRow base e sz v n xs) : Src w v n sz xs := by
  rcases h.2 with ⟨rfl, h0⟩ | ⟨g, cap, cur, rfl, _, hg, h1, h2, h3, h4⟩
  · exact ⟨none, 0, by rw [h0], h.1, fun _ => h0, fun ad ha => by cases ha⟩
  · refine ⟨_, cap, rfl, h.1, (fun h => by cases h), fun ad ha j y hy => ?_⟩
    injection ha with ha
    subst ha
    rw [Addr.add_lit, Nat.zero_add, cell_of_row _ _ _ _ _ _ hg]
    have : (cur.toList.take (n * sz))[j]? = cur.toList[j]? := by
      rw [List.getElem?_take, if_pos]
      have := (List.getElem?_eq_some_iff.1 hy).1
      rw [h.1] at this; exact this
    rw [← Array.getElem?_toList, ← this, h4, hy]
theorem Src.ints {w : World} {B : Nat} {u : Value} {l : List Int} (h : IRow w B u l) : Src w u l.length 1 (iv l) := by
  obtain ⟨A, cap, rfl, h1, h2, h3, hA⟩ := h
  refine ⟨A, cap, rfl, by rw [iv_length, Nat.mul_one], fun h => by have := h3 h; omega, fun ad ha j y hy => ?_⟩
  subst ha
  rw [iv_get] at hy
  by_cases hj : j < l.length
  · rw [List.getElem?_eq_getElem hj] at hy
    simp only [Option.map_some, Option.some.injEq] at hy
    obtain ⟨b, off, e, _, hc⟩ := hA (by omega)
    injection e with e
    subst e
    rw [Go.WideShapes.add_plain, hc j hj, hy]
  · rw [List.getElem?_eq_none (by omega)] at hy; simp at hy
/-- What append to an empty new slice does: nothing that was there changes. -/
theorem app_new {w : World} {t e : TypeId} {i : TypeInfo} {z : Value} {sz bytes : Nat} (ht : Try.prog.underlying t = some (.slice e)) (hi : Try.prog.info? e = some i) (hz : i.zero = some z)
    (hsize : i.size = sz) (hby : i.bytes = bytes) (hzs : z.cells.size = sz) (hsz : 0 < sz) (g : Nat) (hg : w.ownsRow 0 e sz (.slice (some ⟨g, 0, none⟩) 0 0) 0 []) (u : Value) (m : Nat) (news : List Value) (hu : Src w u m sz news) (h1 : ∀ y ∈ news, y.oneCell' = true) (hm : m ≤ 1000000) (hb : bytes ≤ 64) :
    ∃ v' w', (Builtin.append_ #[t, t] t #[.slice (some ⟨g, 0, none⟩) 0 0, u]).run Try.prog w = .ok v' w' ∧ w'.ownsRow 0 e sz v' m news ∧ Below w.heap.size w w' ∧ (v'.ownBlock = some g ∨ v'.ownBlock = some w.heap.size) := by
  obtain ⟨A, cap, rfl, h0, h3, hc⟩ := hu
  rcases A with _ | ad
  · obtain rfl : m = 0 := h3 rfl
    obtain rfl : news = [] := List.eq_nil_of_length_eq_zero (by omega)
    have hun := run_underlying (P := Try.prog) ht
    refine ⟨.slice (some ⟨g, 0, none⟩) 0 0, w, ?_, hg, Below.refl _ _, .inl rfl⟩
    simp [Builtin.append_, hun, Builtin.lenOf, Builtin.firstCells, sizeOf, typeInfo, hi, storeCells]
  · by_cases hm0 : m = 0
    · subst hm0
      obtain rfl : news = [] := List.eq_nil_of_length_eq_zero (by omega)
      have hun := run_underlying (P := Try.prog) ht
      refine ⟨.slice (some ⟨g, 0, none⟩) 0 0, w, ?_, hg, Below.refl _ _, .inl rfl⟩
      simp [Builtin.append_, hun, Builtin.lenOf, Builtin.firstCells, sizeOf, typeInfo, hi, storeCells, loadCells, loadCellsFrom]
    · have hmb : m * bytes ≤ 64000000 := by
        have := Nat.mul_le_mul hm hb; omega
      have hr := run_append_grow (P := Try.prog) w t t e i z ht hi hz ⟨g, 0, none⟩ 0 0 [] (by simp) (fun j v h => by simp at h) ad m cap news (by rw [hsize]; exact h0) (hc ad rfl) (by omega) (by omega) (growslice_fits (by omega) (by rw [hby, Nat.zero_add]; omega))
      have hge := grownCap_ge w (0 + m) 0 e
      have hle := grownCap_le_maxLen w (0 + m) 0 e (by unfold maxLen; omega)
      simp only [Nat.zero_add] at hr hge hle
      refine ⟨_, _, hr, ?_, ((Below.refl w.heap.size w).drew).alloc (Nat.le_refl _) _, .inr rfl⟩
      refine ⟨h0, .inr ⟨w.heap.size, _, _, rfl, Nat.zero_le _, heap_alloc_new w.drew _, by omega, hle, ?_, ?_⟩⟩
      · simp only [Array.size_append, List.size_toArray, size_zeroCells, hzs, h0, List.length_nil, Nat.zero_add]
        rw [← Nat.add_mul]
        congr 1
        omega
      · simp only [Array.toList_append, List.append_assoc, List.nil_append]
        rw [← h0]
        exact List.take_left
theorem own_made (w : World) (e : TypeId) (sz : Nat) : (w.alloc (.cells #[] e)).ownsRow 0 e sz (.slice (some ⟨w.heap.size, 0, none⟩) 0 0) 0 [] :=
  ⟨by simp, .inr ⟨w.heap.size, 0, #[], rfl, Nat.zero_le _, heap_alloc_new w _, Nat.le_refl _, by decide, by simp, by simp⟩⟩
theorem iv_one (l : List Int) : ∀ u ∈ iv l, u.oneCell' = true := fun u hu => by
  obtain ⟨z, _, rfl⟩ := List.mem_map.1 hu; rfl
end Go.Proofs.Ytcfngdlgllanhaa
