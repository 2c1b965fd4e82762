/-
  The reference of layer 6: Flush.
-/
import Derived.Test.YtcfngdlgllanhaaDRv
import Derived.Deep.RegionHeld3
namespace Go.Proofs.Ytcfngdlgllanhaa
set_option linter.unusedVariables false
set_option linter.unusedSimpArgs false
open Go.RowKit

def Dk.rflush1 (s : Dk) (f : Int) : Int × Dk := if s.chk f ≠ 0 then (s.chk f, s) else if 0 < s.lost then (12, { s with lost := s.lost - 1 }) else (0, s.settle f.toNat (s.bytes f.toNat))
def Dk.rflush (s : Dk) (f : Int) : Int × Dk := (s.rcomes 0 0 { data := #[] }).rflush1 f
/-- The file's durable part is set, then the row of the other files' writes is laid. -/
theorem RAt.settled {B : Nat → Prop} {w w' : World} {db g cap : Nat} {qv kv u : Value} {s : Dk} (r : RAt w db (.slice (some ⟨g, 0, none⟩) 8 cap) qv kv s) (hb : RIn B db (.slice (some ⟨g, 0, none⟩) 8 cap) qv kv) (F : Nat) (b : ByteArray) (hs : b.size ≤ 16777216)
    (hw : Below (w.setCell ⟨g, F, none⟩ (.string b)).heap.size (w.setCell ⟨g, F, none⟩ (.string b)) w') (hu : w'.ownsRow (w.setCell ⟨g, F, none⟩ (.string b)).heap.size 74 3 u (s.pend.filter fun p => !decide (p.f = F)).length (pc (s.pend.filter fun p => !decide (p.f = F)))) :
    ROp B w (w'.setCell ⟨db, 1, none⟩ u) db (s.settle F b) ∧ w'.cell? ⟨db, 1, none⟩ = some qv ∧ w'.frozen? ⟨db, 1, none⟩ = false := by
  obtain ⟨r3, o3⟩ := r.set_dur hb F b hs
  have r4 := r3.heap (w' := w') (fun y hy _ => hw.block y hy)
  obtain ⟨_, e1, _, _, _, _, fz⟩ := r4.cells
  have hb3 : RIn (Ext B w (w.setCell ⟨g, F, none⟩ (.string b))) db (.slice (some ⟨g, 0, none⟩) 8 cap) qv kv := ⟨.inl hb.b0, fun k hk => .inl (hb.b1 k hk), fun k hk => .inl (hb.b2 k hk), fun k hk => .inl (hb.b3 k hk)⟩
  have o4 := RAt.field (i := 1) (s' := s.settle F b) (x := u) (lv' := .slice (some ⟨g, 0, none⟩) 8 cap) (qv' := u) (kv' := kv) r3 hb3 (grown_below hw _) r4.lst (own_mono0 hu) r4.kp (fun y hy => .inl hy) (fun y hy => .inr (World.ownsRow.lt hu y hy).1) (fun y hy => .inl hy) rfl (r.ok.settle F b hs)
  exact ⟨o3.trans o4, e1, fz 1⟩
set_option maxRecDepth 100000 in
set_option maxHeartbeats 8000000 in
theorem flushR {B : Nat → Prop} {w : World} {db : Nat} {s : Dk} (h : RefAt B w db s) (f : Int) :
    Calls Try.prog 39 #[.pointer (some ⟨db, 0, none⟩), .int .i64 f] w (IOPost B w db (s.rflush f)) := by
  have HC := Lib.hid (comesR h 0 0 { data := #[] } (by decide) (by have := h.ok.pn; show s.pend.length + 0 ≤ 1000000; exact this))
  have HR : Hid (s.rflush f = (s.rcomes 0 0 { data := #[] }).rflush1 f) := rfl
  generalize s.rflush f = R at *
  generalize s.rcomes 0 0 { data := #[] } = s1 at *
  have HR2 : Hid (R = if s1.chk f ≠ 0 then (s1.chk f, s1) else if 0 < s1.lost then (12, { s1 with lost := s1.lost - 1 }) else (0, s1.settle f.toNat (s1.bytes f.toNat))) := HR.out
  clear HR h
  have hcs := chk_cases s1 f
  go_enter Try.func39, Try.ntmps39
  go_wp2_with fail
  refine HC.out.mono ?_; rintro e w1 ⟨rfl, ho⟩
  have HM := Lib.hid (mayR ho.at_ f)
  have HO := Lib.hid ho
  clear ho HC
  rcases hcs with hc | hc | ⟨hc, hdn, hf0, hf8⟩
  · have HF : Hid (IOPost B w db R (.returned (.int .i64 10)) w1) := Lib.hid ⟨by rw [HR2.out, hc]; rfl, by rw [HR2.out, hc]; exact HO.out⟩
    rw [hc] at HM
    clear HR2 hc
    go_wp2_with fail
    refine HM.out.mono ?_; rintro e w2 ⟨rfl, rfl⟩
    go_wp2_with fail
    go_ret
    exact HF.out
  · have HF : Hid (IOPost B w db R (.returned (.int .i64 1)) w1) := Lib.hid ⟨by rw [HR2.out, hc]; rfl, by rw [HR2.out, hc]; exact HO.out⟩
    rw [hc] at HM
    clear HR2 hc
    go_wp2_with fail
    refine HM.out.mono ?_; rintro e w2 ⟨rfl, rfl⟩
    go_wp2_with fail
    go_ret
    exact HF.out
  · obtain ⟨F, rfl⟩ : ∃ F : Nat, f = F := ⟨f.toNat, by omega⟩
    have hF : F < 8 := by omega
    have HR3 : Hid (R = if 0 < s1.lost then (12, { s1 with lost := s1.lost - 1 }) else (0, s1.settle F (s1.bytes F))) := Lib.hid (by rw [HR2.out, hc, if_neg (by decide)]; rfl)
    rw [hc] at HM
    have hlo := HO.out.at_.ok.lo
    have hat := HO.out.at_
    obtain ⟨lv, qv, kv, r1, hb1⟩ := hat
    obtain ⟨g, cap, rfl, hg, hgc⟩ := r1.last
    obtain ⟨c0, c1, c2, _, _, _, fz⟩ := r1.cells
    have f2 := fz 2
    clear HR2 hc hdn
    by_cases hl : 0 < s1.lost
    · have HO1 := Lib.hid (HO.out.trans (HO.out.at_.set_lost (s1.lost - 1) (by omega)))
      obtain ⟨m, hm⟩ : ∃ m, s1.lost = m + 1 := ⟨s1.lost - 1, by omega⟩
      have HFX : Hid (∀ x : Int, x = (m : Int) → IOPost B w db R (.returned (.int .i64 12)) (w1.setCell ⟨db, 2, none⟩ (.int .i64 x))) := Lib.hid (fun x hx => ⟨by rw [HR3.out, if_pos hl], by
        rw [HR3.out, if_pos hl, hx]
        have := HO1.out
        rw [show s1.lost - 1 = m by omega] at this ⊢
        exact this⟩)
      rw [hm] at c2
      have hmb : m ≤ 9223372036854775806 := by omega
      clear HR3 hl hm r1 hb1 hgc fz c0 c1 HO1
      go_wp2_with fail
      refine HM.out.mono ?_; rintro e w2 ⟨rfl, rfl⟩
      go_wp2_with fail
      go_ret
      refine HFX.out _ ?_
      first | omega | go_num
    · have hl0 : s1.lost = 0 := by omega
      have HR4 : Hid (R = (0, s1.settle F (s1.bytes F))) := Lib.hid (by rw [HR3.out, if_neg hl])
      have hbl := r1.ok.bytes_le F
      have hbd : Below w1.heap.size w1 w1.drew := (Below.refl _ _).drew
      have HRD := Lib.hid (readR (HO.out.at_.below hbd) F hF)
      obtain ⟨b, hb⟩ : ∃ b, s1.bytes F = b := ⟨_, rfl⟩
      rw [hb] at HR4 HRD hbl
      have hdb := r1.bx.lt
      have q0 : (0 : Int) ≤ (F : Int) := by omega
      have q8 : (F : Int) < 8 := by omega
      have q9 : ((F : Int)).toNat = F := by omega
      have HR1 := Lib.hid r1
      have HB1 := Lib.hid hb1
      have HGC := Lib.hid hgc
      rw [hl0] at c2
      clear HR3 hl hl0 hb r1 hb1 hgc fz f2
      go_wp2_with fail
      refine HM.out.mono ?_; rintro e w2 ⟨rfl, rfl⟩
      go_wp2_with fail
      go_region_held3 (fun W => W.cell? ⟨db, 0, none⟩ = some (.slice (some ⟨g, 0, none⟩) 8 cap))
        (first | exact c0 | assumption | exact hks | exact (hbr.out.cell (p := ⟨db, 0, none⟩) hdb).trans c0 | fail)
        (first
          | (go_at_call 46; (with_reducible refine HRD.out.mono ?_); rintro e w3 ⟨rfl, hx⟩; have hbr := Lib.hid (below_drew hx); have r3 := HR1.out.heap (w' := w3) (fun y hy _ => hbr.out.block y hy); obtain ⟨g', cap', hv, hg3, hgc3⟩ := r3.last; injection hv with e1 e2 e3; injection e1 with e1; injection e1 with e1 _ _; subst e1; subst e3; obtain ⟨k1, k2⟩ := hgc3 F hF; have hks := (RAt.set_dur r3 HB1.out F b hbl).1.cells.1; replace r3 := Lib.hid r3; clear hx e2))
      all_goals
        have hst := RAt.set_dur r3.out HB1.out F b hbl
        have HWO := Lib.hid (withoutR (⟨_, _, _, hst.1, HB1.out⟩ : RefAt (Ext B w w1) (w3.setCell ⟨g, F, none⟩ (.string b)) db _) F)
        clear k1 k2 hst hks
        go_wp2_with fail
        refine HWO.out.mono ?_; rintro e w4 ⟨u, rfl, hu, hw⟩
        obtain ⟨hfin, j1, j2⟩ := RAt.settled r3.out HB1.out F b hbl hw hu
        obtain ⟨uA, ucap, rfl⟩ := own_form3 hu
        have HF : Hid (IOPost B w db R (.returned (.int .i64 0)) (w4.setCell ⟨db, 1, none⟩ _)) := Lib.hid ⟨by rw [HR4.out], by rw [HR4.out]; exact HO.out.trans (ROp.pre hbr.out hfin)⟩
        clear hfin hu hw HWO
        go_wp2_with fail
        go_ret
        exact HF.out
end Go.Proofs.Ytcfngdlgllanhaa
