/-
  The reference of layer 6: Arm.
-/
import Derived.Test.YtcfngdlgllanhaaDRc
namespace Go.Proofs.Ytcfngdlgllanhaa
set_option linter.unusedVariables false
set_option linter.unusedSimpArgs false
open Go.RowKit

theorem own_form {w : World} {base sz n : Nat} {e : TypeId} {v : Value} {xs : List Value} (h : w.ownsRow base e sz v n xs) : ∃ A cap, v = .slice A n cap := by
  rcases h.2 with ⟨rfl, h0⟩ | ⟨g, cap, cur, hv, _⟩
  · exact ⟨none, 0, by rw [h0]⟩
  · exact ⟨_, cap, hv⟩
set_option maxRecDepth 100000 in
set_option maxHeartbeats 4000000 in
theorem armR {B : Nat → Prop} {w : World} {db : Nat} {s : Dk} (h : RefAt B w db s) (n : Int) (hn : n ≤ 9223372036854775807) (u : Value) (keep : List Int) (hr : IRow w w.heap.size u keep) (hk : keep.length ≤ 1000000) (hnu : keep ≠ [] → u.ownBlock ≠ some db) :
    Calls Try.prog 44 #[.pointer (some ⟨db, 0, none⟩), .int .i64 n, u] w fun e w' => e = .returned (.tuple #[]) ∧ ROp B w w' db (s.arm n keep) := by
  obtain ⟨i0, hi, hz0, hz1, hz2⟩ := info_parts infoI
  have ho := h.set_calls n.toNat (by omega)
  have hlt := h.lt
  obtain ⟨lv0, qv0, kv0, h, hb0⟩ := h
  obtain ⟨_, _, _, _, c4, _, fz⟩ := h.cells
  have f4 := fz 4
  have e : ((n.toNat : Nat) : Int) = max n 0 := by omega
  obtain ⟨W1, hW1⟩ : ∃ W1, w.setCell ⟨db, 4, none⟩ (.int .i64 ((n.toNat : Nat) : Int)) = W1 := ⟨_, rfl⟩
  rw [hW1] at ho
  have hws : W1.heap.size = w.heap.size := by rw [← hW1]; simp [World.setCell]
  have hr1 : IRow W1 W1.heap.size u keep := hr.heap2 (by rw [hws]; exact Nat.le_refl _) fun hne k hk hkl => by
    rw [← hW1]
    exact Below.heap_setCell w ⟨db, 4, none⟩ _ k (fun e => hnu hne (by rw [hk, e]))
  have hsr := (Src.ints hr1).below (below_new W1 (.cells #[] 3))
  obtain ⟨v', W2, hrun, hown, hB2, hob⟩ := app_new (w := W1.alloc (.cells #[] 3)) (t := 30) (bytes := 8) Try.underlying30 hi hz0 hz1 hz2 rfl (by decide) W1.heap.size (own_made W1 _ _) u keep.length (iv keep) hsr (iv_one _) hk (by decide)
  obtain ⟨vA, vcap, rfl⟩ := own_form hown
  have ha := ho.at_
  obtain ⟨lv, qv, kv, h1, hb1⟩ := ha
  have hB1 := (below_new W1 (.cells #[] 3)).trans (hB2.mono (by simp))
  have h2 := h1.heap (w' := W2) (fun k hk _ => hB1.block k hk)
  obtain ⟨_, _, _, _, _, d5, fz2⟩ := h2.cells
  have f5 := fz2 5
  have hfin := RAt.field (x := .slice vA keep.length vcap) (i := 5) (s' := s.arm n keep) (kv' := .slice vA keep.length vcap) h1 hb1 (grown_below hB1 _) h2.lst h2.q hown (fun k hk => .inl hk) (fun k hk => .inl hk) (fun k hk => .inr (by
    rcases hob with hob | hob
    · rw [hob] at hk; injection hk with hk; omega
    · rw [hob] at hk; injection hk with hk; simp at hk; omega)) rfl ((h.ok).arm n keep hn hk)
  have HO := Lib.hid (ho.trans hfin)
  rw [hws] at hrun
  rw [e] at hW1
  subst hW1
  have HRUN := Lib.hid hrun
  obtain ⟨A, cap, rfl⟩ : ∃ A cap, u = .slice A keep.length cap := by obtain ⟨A, cap, hv, _⟩ := hr; exact ⟨A, cap, hv⟩
  clear ho hr1 hsr hown hB2 hob h1 hb1 hB1 h2 fz2 hfin fz hrun h hb0 hr hws e hlt
  go_enter Try.func44, Try.ntmps44
  go_wp2_with (at_builtin; refine Lib.wpList_append_run_sl _ rfl _ _ 30 rfl _ _ rfl rfl HRUN.out ?_)
  go_end0
  exact ⟨rfl, HO.out⟩
end Go.Proofs.Ytcfngdlgllanhaa
