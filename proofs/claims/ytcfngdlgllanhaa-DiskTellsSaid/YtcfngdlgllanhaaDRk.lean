/-
  The reference of layer 6: Crash.
-/
import Derived.Test.YtcfngdlgllanhaaDRb
namespace Go.Proofs.Ytcfngdlgllanhaa
set_option linter.unusedVariables false
set_option linter.unusedSimpArgs false
open Go.RowKit

theorem own_form2 {w : World} {base sz n : Nat} {e : TypeId} {v : Value} {xs : List Value} (h : w.ownsRow base e sz v n xs) : ∃ A cap, v = .slice A n cap := by
  rcases h.2 with ⟨rfl, h0⟩ | ⟨g, cap, cur, hv, _⟩
  · exact ⟨none, 0, by rw [h0]⟩
  · exact ⟨_, cap, hv⟩
theorem own_mono0 {w : World} {base sz n : Nat} {e : TypeId} {v : Value} {xs : List Value} (h : w.ownsRow base e sz v n xs) : w.ownsRow 0 e sz v n xs := by
  refine ⟨h.1, ?_⟩
  rcases h.2 with h | ⟨g, cap, cur, h1, h2, r⟩
  · exact .inl h
  · exact .inr ⟨g, cap, cur, h1, Nat.zero_le _, r⟩
def CrPost (B : Nat → Prop) (w : World) (db : Nat) (s : Dk) (e : Ending) (w' : World) : Prop := e = .returned (.tuple #[]) ∧ ROp B w w' db s
set_option maxRecDepth 100000 in
set_option maxHeartbeats 8000000 in
theorem crashR {B : Nat → Prop} {w : World} {db : Nat} {s : Dk} (h : RefAt B w db s) (u : Value) (keep : List Int) (hr : IRow w w.heap.size u keep) (hnu : keep ≠ [] → u.ownBlock ≠ some db) :
    Calls Try.prog 42 #[.pointer (some ⟨db, 0, none⟩), u] w (CrPost B w db (s.rcrash keep)) := by
  obtain ⟨lv0, qv0, kv0, h0, _⟩ := id h
  obtain ⟨_, _, _, c3, c4, _, fz⟩ := h0.cells
  cases hd : s.down with
  | true =>
    have HF : Hid (CrPost B w db (s.rcrash keep) (.returned (.tuple #[])) w) := Lib.hid ⟨rfl, by unfold Dk.rcrash; rw [if_pos hd]; exact ROp.refl h⟩
    rw [hd] at c3
    clear h h0 fz c4 hd
    go_enter Try.func42, Try.ntmps42
    go_wp2_with fail
    go_end0
    exact HF.out
  | false =>
    have f3 := fz 3
    have o1 := h.set_down true
    have o2 := o1.at_.set_calls 0 (by omega)
    have o12 := o1.trans o2
    obtain ⟨W2, hW2⟩ : ∃ W2, (w.setCell ⟨db, 3, none⟩ (.bool true)).setCell ⟨db, 4, none⟩ (.int .i64 ((0 : Nat) : Int)) = W2 := ⟨_, rfl⟩
    have hws : W2.heap.size = w.heap.size := by rw [← hW2]; simp [World.setCell]
    have hr2 : IRow W2 W2.heap.size u keep := hr.heap2 (by rw [hws]; exact Nat.le_refl _) fun hke k hk hkl => by
      rw [← hW2]
      have hne : k ≠ db := fun e => hnu hke (by rw [hk, e])
      exact (Below.heap_setCell _ ⟨db, 4, none⟩ _ k hne).trans (Below.heap_setCell w ⟨db, 3, none⟩ _ k hne)
    obtain ⟨lv1, qv1, kv1, h1, _⟩ := o1.at_
    obtain ⟨_, _, _, _, d4, _, fz1⟩ := h1.cells
    have f4 := fz1 4
    rw [hW2] at o12
    have HO2 := Lib.hid o12
    have HR2 := Lib.hid hr2
    have HDF := Lib.hid hd
    have HOKS := Lib.hid h0.ok
    obtain ⟨uA, ucap, rfl, _⟩ := hr
    have hW3 : (w.setCell ⟨db, 3, none⟩ (.bool true)).setCell ⟨db, 4, none⟩ (.int .i64 0) = W2 := hW2
    rw [hd] at c3
    clear h h0 fz o1 o2 o12 hW2 hr2 h1 fz1 hd
    go_enter Try.func42, Try.ntmps42
    go_wp2_with fail
    try rw [hW3]
    clear hW3 c3 c4 d4 f3 f4
    go_loopw [4, 5] (fun o i wl => CrR { s with down := true, calls := 0 } keep W2 o i wl) (fun _ i _ => 8 - (intOf i).toNat)
    case atStart => exact ⟨0, rfl, by omega, World.ownsRow_nil _ _ _ _, Below.refl _ _⟩
    case round =>
      obtain ⟨k, rfl, hk, ho, hB⟩ := hrel
      obtain ⟨oA, ocap, rfl⟩ := own_form2 ho
      by_cases hlt : k < 8
      · have q1 : (k : Int) < 8 := by omega
        have hra := HO2.out.at_.below (w' := wr) (hB.mono (Nat.le_refl _))
        have HA := Lib.hid (afterR hra k hlt _ keep (HR2.out.keep hB))
        have hrg : (List.range (k + 1)).map (fun f : Nat => Value.string (bs (fileL ((({ s with down := true, calls := 0 } : Dk)).d f).data.toList (kept keep s.pend) f))) = (List.range k).map (fun f : Nat => Value.string (bs (fileL ((({ s with down := true, calls := 0 } : Dk)).d f).data.toList (kept keep s.pend) f))) ++ [Value.string (bs (fileL ((({ s with down := true, calls := 0 } : Dk)).d k).data.toList (kept keep s.pend) k))] := by
          rw [List.range_succ, List.map_append]; rfl
        have HRG := Lib.hid hrg
        have HOW := Lib.hid ho
        have HB := Lib.hid hB
        obtain ⟨X, hX⟩ : ∃ X, bs (fileL ((({ s with down := true, calls := 0 } : Dk)).d k).data.toList (kept keep s.pend) k) = X := ⟨_, rfl⟩
        rw [hX] at HRG
        have HA2 : Hid (Calls Try.prog 57 #[.pointer (some ⟨db, 0, none⟩), .int .i64 k, .slice uA keep.length ucap] wr (RRdPost X wr)) := Lib.hid (by rw [← hX]; exact HA.out)
        clear hra HA hrg ho hB hX
        go_wp2_with fail
        refine HA2.out.mono ?_; rintro e w4 ⟨rfl, hb4⟩
        have ho4 := own_heap HOW.out (fun y hy hyl => hb4.block y hyl)
        have hB4 := HB.out.trans (hb4.mono HB.out.size)
        obtain ⟨g', cap', w5, hrun, ho5, hg5⟩ := pushStr w4 W2.heap.size _ k _ X ho4 hB4.size (by omega)
        have HRUN := Lib.hid hrun
        have HO5 := Lib.hid ho5
        have HB5 : Hid (Below W2.heap.size W2 w5) := Lib.hid ((hB4.trans ((below_new w4 (.cells #[.string X] 9)).mono hB4.size)).trans ((Below.refl W2.heap.size _).grown hg5 (by have := hB4.size; simp; omega) (fun j hj => (World.ownsRow.lt ho4 j hj).1)))
        clear hb4 ho4 hB4 hrun ho5 hg5 HA2 HOW HB
        go_wp2_with (at_builtin; refine Lib.wpList_append_run_sl _ rfl _ _ 40 rfl _ _ rfl rfl HRUN.out ?_)
        go_roundw
        case rel => exact ⟨k + 1, by go_num, by omega, (show World.ownsRow _ _ _ _ _ _ ((List.range (k + 1)).map (fun f : Nat => Value.string (bs (fileL ((({ s with down := true, calls := 0 } : Dk)).d f).data.toList (kept keep s.pend) f)))) by rw [HRG.out]; exact HO5.out), HB5.out⟩
        case measure => simp [intOf]; omega
      · obtain rfl : k = 8 := by omega
        have hrA := HO2.out.at_
        obtain ⟨lv, qv, kv, h2, hb2⟩ := hrA
        have h3 := h2.heap (w' := wr) (fun y hy _ => hB.block y hy)
        obtain ⟨e0, _, _, _, _, _, fz3⟩ := h3.cells
        have f0 := fz3 0
        obtain ⟨L, hL⟩ : ∃ L, (List.range 8).map (fun f : Nat => bs (fileL ((({ s with down := true, calls := 0 } : Dk)).d f).data.toList (kept keep s.pend) f)) = L := ⟨_, rfl⟩
        have hLm : (List.range 8).map (fun f : Nat => Value.string (bs (fileL ((({ s with down := true, calls := 0 } : Dk)).d f).data.toList (kept keep s.pend) f))) = L.map Value.string := by rw [← hL, List.map_map]; rfl
        have ho' : wr.ownsRow W2.heap.size 9 1 (.slice oA 8 ocap) 8 (L.map Value.string) := by rw [← hLm]; exact ho
        have hcr := Calm.crash HDF.out keep
        have hok : Dk.ok { s with down := true, calls := 0, dur := L } := by
          refine ⟨by rw [← hL]; simp, fun b hb => (HOKS.out.crash keep).ds b ?_, HOKS.out.ps, HOKS.out.pn, HOKS.out.kn, HOKS.out.lo, Nat.zero_le _⟩
          rw [hcr]
          rw [← hL] at hb
          exact hb
        have o3 := RAt.field (i := 0) (s' := { s with down := true, calls := 0, dur := L }) (x := .slice oA 8 ocap) (lv' := .slice oA 8 ocap) (qv' := qv) (kv' := kv) h2 hb2 (grown_below hB _) (own_mono0 ho') h3.q h3.kp (fun y hy => .inr (World.ownsRow.lt ho' y hy).1) (fun y hy => .inl hy) (fun y hy => .inl hy) rfl hok
        obtain ⟨lv4, qv4, kv4, h4, hb4⟩ := o3.at_
        obtain ⟨_, e1, _, _, _, _, fz4⟩ := h4.cells
        have f1 := fz4 1
        have o4 := RAt.field (i := 1) (s' := { s with down := true, calls := 0, dur := L, pend := [] }) (x := .slice none 0 0) (lv' := lv4) (qv' := .slice none 0 0) (kv' := kv4) h4 hb4 (grownR _ _) h4.lst (World.ownsRow_nil _ _ _ _) h4.kp (fun y hy => .inl hy) (fun y hy => by simp [Value.ownBlock] at hy) (fun y hy => .inl hy) rfl ⟨hok.dl, hok.ds, (fun p hp => by cases hp), Nat.zero_le _, hok.kn, hok.lo, hok.ca⟩
        have hst : s.rcrash keep = { s with down := true, calls := 0, dur := L, pend := [] } := by
          unfold Dk.rcrash
          rw [if_neg (by rw [HDF.out]; decide), hcr, ← hL]
          rfl
        have HF : Hid (CrPost B w db (s.rcrash keep) (.returned (.tuple #[])) ((wr.setCell ⟨db, 0, none⟩ (.slice oA 8 ocap)).setCell ⟨db, 1, none⟩ (.slice none 0 0))) := Lib.hid ⟨rfl, by rw [hst]; exact HO2.out.trans (o3.trans o4)⟩
        clear h2 hb2 h3 fz3 hL hLm ho ho' hcr hok o3 h4 hb4 fz4 o4 hst hB HO2 HR2
        go_wp2_with fail
        go_end0
        exact HF.out
end Go.Proofs.Ytcfngdlgllanhaa
