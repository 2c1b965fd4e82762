/-
  The reference of layer 6: Flush.
  The reference of layer 6: Cut.
  The reference of layer 6: Turn.
-/
import Derived.Test.YthdmcjiccbgknaaZRc
import Derived.Deep.RegionHeld3
namespace Go.Proofs.Ythdmcjiccbgknaa
set_option linter.unusedVariables false
set_option linter.unusedSimpArgs false
open Go.RowKit

def Dk.rflush1 (s : Dk) (f : Int) : Int × Dk := if s.chk f ≠ 0 then (s.chk f, s) else if 0 < s.lost then (12, { s with lost := s.lost - 1 }) else (0, s.settle f.toNat (s.bytes f.toNat))
def Dk.rflush (s : Dk) (f : Int) : Int × Dk := (s.rcomes 0 0 { data := #[] }).rflush1 f
set_option maxRecDepth 100000 in
/-- The file's durable part is set, then the row of the other files' writes is laid. -/
theorem RAt.settled {B : Nat → Prop} {w w' : World} {db g cap : Nat} {qv kv u : Value} {s : Dk} (r : RAt w db (.slice (some ⟨g, 0, none⟩) 8 cap) qv kv s) (hb : RIn B db (.slice (some ⟨g, 0, none⟩) 8 cap) qv kv) (F : Nat) (b : ByteArray) (hs : b.size ≤ 16777216)
    (hw : Below (w.setCell ⟨g, F, none⟩ (.string b)).heap.size (w.setCell ⟨g, F, none⟩ (.string b)) w') (hu : w'.ownsRow (w.setCell ⟨g, F, none⟩ (.string b)).heap.size 111 3 u (s.pend.filter fun p => !decide (p.f = F)).length (pc (s.pend.filter fun p => !decide (p.f = F)))) :
    ROp B w (w'.setCell ⟨db, 1, none⟩ u) db (s.settle F b) ∧ w'.cell? ⟨db, 1, none⟩ = some qv ∧ w'.frozen? ⟨db, 1, none⟩ = false := by
  obtain ⟨r3, o3⟩ := r.set_dur hb F b hs
  have r4 := r3.heap (w' := w') (fun y hy _ => hw.block y hy)
  obtain ⟨_, e1, _, _, _, _, fz⟩ := r4.cells
  have hb3 : RIn (Ext B w (w.setCell ⟨g, F, none⟩ (.string b))) db (.slice (some ⟨g, 0, none⟩) 8 cap) qv kv := ⟨.inl hb.b0, fun k hk => .inl (hb.b1 k hk), fun k hk => .inl (hb.b2 k hk), fun k hk => .inl (hb.b3 k hk)⟩
  have o4 := RAt.field (i := 1) (s' := s.settle F b) (x := u) (lv' := .slice (some ⟨g, 0, none⟩) 8 cap) (qv' := u) (kv' := kv) r3 hb3 (grown_below hw _) r4.lst (own_mono0 hu) r4.kp (fun y hy => .inl hy) (fun y hy => .inr (World.ownsRow.lt hu y hy).1) (fun y hy => .inl hy) rfl (r.ok.settle F b hs)
  exact ⟨o3.trans o4, e1, fz 1⟩
set_option maxRecDepth 100000 in
set_option maxHeartbeats 8000000 in
theorem flushR {B : Nat → Prop} {w : World} {db : Nat} {s : Dk} (h : RefAt B w db s) (f : Int) :
    Calls Try.prog 44 #[.pointer (some ⟨db, 0, none⟩), .int .i64 f] w (IOPost B w db (s.rflush f)) := by
  have HC := Lib.hid (comesR h 0 0 { data := #[] } (by decide) (by have := h.ok.pn; show s.pend.length + 0 ≤ 1000000; exact this))
  have HR : Hid (s.rflush f = (s.rcomes 0 0 { data := #[] }).rflush1 f) := rfl
  generalize s.rflush f = R at *
  generalize s.rcomes 0 0 { data := #[] } = s1 at *
  have HR2 : Hid (R = if s1.chk f ≠ 0 then (s1.chk f, s1) else if 0 < s1.lost then (12, { s1 with lost := s1.lost - 1 }) else (0, s1.settle f.toNat (s1.bytes f.toNat))) := HR.out
  clear HR h
  have hcs := chk_cases s1 f
  go_enter Try.func44, Try.ntmps44
  go_wp2_with fail
  refine HC.out.mono ?_; rintro e w1 ⟨rfl, ho⟩
  have HM := Lib.hid (mayR ho.at_ f)
  have HO := Lib.hid ho
  clear ho HC
  rcases hcs with hc | hc | ⟨hc, hdn, hf0, hf8⟩
  · have HF : Hid (IOPost B w db R (.returned (.int .i64 10)) w1) := Lib.hid ⟨by rw [HR2.out, hc]; rfl, by rw [HR2.out, hc]; exact HO.out⟩
    rw [hc] at HM
    clear HR2 hc
    go_wp2_with fail
    refine HM.out.mono ?_; rintro e w2 ⟨rfl, rfl⟩
    go_wp2_with fail
    go_ret
    exact HF.out
  · have HF : Hid (IOPost B w db R (.returned (.int .i64 1)) w1) := Lib.hid ⟨by rw [HR2.out, hc]; rfl, by rw [HR2.out, hc]; exact HO.out⟩
    rw [hc] at HM
    clear HR2 hc
    go_wp2_with fail
    refine HM.out.mono ?_; rintro e w2 ⟨rfl, rfl⟩
    go_wp2_with fail
    go_ret
    exact HF.out
  · obtain ⟨F, rfl⟩ : ∃ F : Nat, f = F := ⟨f.toNat, by omega⟩
    have hF : F < 8 := by omega
    have HR3 : Hid (R = if 0 < s1.lost then (12, { s1 with lost := s1.lost - 1 }) else (0, s1.settle F (s1.bytes F))) := Lib.hid (by rw [HR2.out, hc, if_neg (by decide)]; rfl)
    rw [hc] at HM
    have hlo := HO.out.at_.ok.lo
    have hat := HO.out.at_
    obtain ⟨lv, qv, kv, r1, hb1⟩ := hat
    obtain ⟨g, cap, rfl, hg, hgc⟩ := r1.last
    obtain ⟨c0, c1, c2, _, _, _, fz⟩ := r1.cells
    have f2 := fz 2
    clear HR2 hc hdn
    by_cases hl : 0 < s1.lost
    · have HO1 := Lib.hid (HO.out.trans (HO.out.at_.set_lost (s1.lost - 1) (by omega)))
      obtain ⟨m, hm⟩ : ∃ m, s1.lost = m + 1 := ⟨s1.lost - 1, by omega⟩
      have HFX : Hid (∀ x : Int, x = (m : Int) → IOPost B w db R (.returned (.int .i64 12)) (w1.setCell ⟨db, 2, none⟩ (.int .i64 x))) := Lib.hid (fun x hx => ⟨by rw [HR3.out, if_pos hl], by
        rw [HR3.out, if_pos hl, hx]
        have := HO1.out
        rw [show s1.lost - 1 = m by omega] at this ⊢
        exact this⟩)
      rw [hm] at c2
      have hmb : m ≤ 9223372036854775806 := by omega
      clear HR3 hl hm r1 hb1 hgc fz c0 c1 HO1
      go_wp2_with fail
      refine HM.out.mono ?_; rintro e w2 ⟨rfl, rfl⟩
      go_wp2_with fail
      go_ret
      refine HFX.out _ ?_
      first | omega | go_num
    · have hl0 : s1.lost = 0 := by omega
      have HR4 : Hid (R = (0, s1.settle F (s1.bytes F))) := Lib.hid (by rw [HR3.out, if_neg hl])
      have hbl := r1.ok.bytes_le F
      have hbd : Below w1.heap.size w1 w1.drew := (Below.refl _ _).drew
      have HRD := Lib.hid (readR (HO.out.at_.below hbd) F hF)
      obtain ⟨b, hb⟩ : ∃ b, s1.bytes F = b := ⟨_, rfl⟩
      rw [hb] at HR4 HRD hbl
      have hdb := r1.bx.lt
      have q0 : (0 : Int) ≤ (F : Int) := by omega
      have q8 : (F : Int) < 8 := by omega
      have q9 : ((F : Int)).toNat = F := by omega
      have HR1 := Lib.hid r1
      have HB1 := Lib.hid hb1
      have HGC := Lib.hid hgc
      rw [hl0] at c2
      clear HR3 hl hl0 hb r1 hb1 hgc fz f2
      go_wp2_with fail
      refine HM.out.mono ?_; rintro e w2 ⟨rfl, rfl⟩
      go_wp2_with fail
      go_region_held3 (fun W => W.cell? ⟨db, 0, none⟩ = some (.slice (some ⟨g, 0, none⟩) 8 cap))
        (first | exact c0 | assumption | exact hks | exact (hbr.out.cell (p := ⟨db, 0, none⟩) hdb).trans c0 | fail)
        (first
          | (go_at_call 66; (with_reducible refine HRD.out.mono ?_); rintro e w3 ⟨rfl, hx⟩; have hbr := Lib.hid (below_drew hx); have r3 := HR1.out.heap (w' := w3) (fun y hy _ => hbr.out.block y hy); obtain ⟨g', cap', hv, hg3, hgc3⟩ := r3.last; injection hv with e1 e2 e3; injection e1 with e1; injection e1 with e1 _ _; subst e1; subst e3; obtain ⟨k1, k2⟩ := hgc3 F hF; have hks := (RAt.set_dur r3 HB1.out F b hbl).1.cells.1; replace r3 := Lib.hid r3; clear hx e2))
      all_goals
        have hst := RAt.set_dur r3.out HB1.out F b hbl
        have HWO := Lib.hid (withoutR (⟨_, _, _, hst.1, HB1.out⟩ : RefAt (Ext B w w1) (w3.setCell ⟨g, F, none⟩ (.string b)) db _) F)
        clear k1 k2 hst hks
        go_wp2_with fail
        refine HWO.out.mono ?_; rintro e w4 ⟨u, rfl, hu, hw⟩
        obtain ⟨hfin, j1, j2⟩ := RAt.settled r3.out HB1.out F b hbl hw hu
        obtain ⟨uA, ucap, rfl⟩ := own_form3 hu
        have HF : Hid (IOPost B w db R (.returned (.int .i64 0)) (w4.setCell ⟨db, 1, none⟩ _)) := Lib.hid ⟨by rw [HR4.out], by rw [HR4.out]; exact HO.out.trans (ROp.pre hbr.out hfin)⟩
        clear hfin hu hw HWO
        go_wp2_with fail
        go_ret
        exact HF.out
end Go.Proofs.Ythdmcjiccbgknaa

namespace Go.Proofs.Ythdmcjiccbgknaa
set_option linter.unusedVariables false
set_option linter.unusedSimpArgs false
open Go.RowKit

def Dk.rcut1 (s : Dk) (f n : Int) : Int × Dk := if s.chk f ≠ 0 then (s.chk f, s) else if n < 0 ∨ ((s.bytes f.toNat).size : Int) < n then (1, s) else (0, s.settle f.toNat ((s.bytes f.toNat).extract 0 n.toNat))
def Dk.rcut (s : Dk) (f n : Int) : Int × Dk := (s.rcomes 0 0 { data := #[] }).rcut1 f n
set_option maxRecDepth 100000 in
set_option maxHeartbeats 8000000 in
theorem cutR {B : Nat → Prop} {w : World} {db : Nat} {s : Dk} (h : RefAt B w db s) (f n : Int) :
    Calls Try.prog 56 #[.pointer (some ⟨db, 0, none⟩), .int .i64 f, .int .i64 n] w (IOPost B w db (s.rcut f n)) := by
  have HC := Lib.hid (comesR h 0 0 { data := #[] } (by decide) (by have := h.ok.pn; show s.pend.length + 0 ≤ 1000000; exact this))
  have HR : Hid (s.rcut f n = (s.rcomes 0 0 { data := #[] }).rcut1 f n) := rfl
  generalize s.rcut f n = R at *
  generalize s.rcomes 0 0 { data := #[] } = s1 at *
  have HR2 : Hid (R = if s1.chk f ≠ 0 then (s1.chk f, s1) else if n < 0 ∨ ((s1.bytes f.toNat).size : Int) < n then (1, s1) else (0, s1.settle f.toNat ((s1.bytes f.toNat).extract 0 n.toNat))) := HR.out
  clear HR h
  have hcs := chk_cases s1 f
  go_enter Try.func56, Try.ntmps56
  go_wp2_with fail
  refine HC.out.mono ?_; rintro e w1 ⟨rfl, ho⟩
  have HM := Lib.hid (mayR ho.at_ f)
  have HO := Lib.hid ho
  clear ho HC
  rcases hcs with hc | hc | ⟨hc, hdn, hf0, hf8⟩
  · have HF : Hid (IOPost B w db R (.returned (.int .i64 10)) w1) := Lib.hid ⟨by rw [HR2.out, hc]; rfl, by rw [HR2.out, hc]; exact HO.out⟩
    rw [hc] at HM
    clear HR2 hc
    go_wp2_with fail
    refine HM.out.mono ?_; rintro e w2 ⟨rfl, rfl⟩
    go_wp2_with fail
    go_ret
    exact HF.out
  · have HF : Hid (IOPost B w db R (.returned (.int .i64 1)) w1) := Lib.hid ⟨by rw [HR2.out, hc]; rfl, by rw [HR2.out, hc]; exact HO.out⟩
    rw [hc] at HM
    clear HR2 hc
    go_wp2_with fail
    refine HM.out.mono ?_; rintro e w2 ⟨rfl, rfl⟩
    go_wp2_with fail
    go_ret
    exact HF.out
  · obtain ⟨F, rfl⟩ : ∃ F : Nat, f = F := ⟨f.toNat, by omega⟩
    have hF : F < 8 := by omega
    have HR3 : Hid (R = if n < 0 ∨ ((s1.bytes F).size : Int) < n then (1, s1) else (0, s1.settle F ((s1.bytes F).extract 0 n.toNat))) := Lib.hid (by rw [HR2.out, hc, if_neg (by decide)]; rfl)
    rw [hc] at HM
    have hat := HO.out.at_
    have HRD := Lib.hid (readR hat F hF)
    have hbl := hat.ok.bytes_le F
    obtain ⟨b, hb⟩ : ∃ b, s1.bytes F = b := ⟨_, rfl⟩
    rw [hb] at HR3 HRD hbl
    have q0 : (0 : Int) ≤ (F : Int) := by omega
    have q8 : (F : Int) < 8 := by omega
    have q9 : ((F : Int)).toNat = F := by omega
    clear HR2 hc hdn hb
    by_cases hn : n < 0 ∨ (b.size : Int) < n
    · have HF : Hid (∀ w', Below w1.heap.size w1 w' → IOPost B w db R (.returned (.int .i64 1)) w') := Lib.hid (fun w' hb => ⟨by rw [HR3.out, if_pos hn], by rw [HR3.out, if_pos hn]; exact HO.out.below hb⟩)
      by_cases hn1 : n < 0
      · have d1 : decide (n < 0) = true := decide_eq_true hn1
        clear HR3 hn hat
        go_wp2_with fail
        refine HM.out.mono ?_; rintro e w2 ⟨rfl, rfl⟩
        go_wp2_with fail
        refine HRD.out.mono ?_; rintro e w3 ⟨rfl, hx⟩
        have HFF := Lib.hid (HF.out _ hx)
        clear hx HF HRD
        go_wp2_with fail
        go_ret
        exact HFF.out
      · have d1 : decide (n < 0) = false := decide_eq_false hn1
        have d2 : decide ((b.size : Int) < n) = true := decide_eq_true (by omega)
        have d3 : decide (n > (b.size : Int)) = true := decide_eq_true (by omega)
        clear HR3 hn hat
        go_wp2_with fail
        refine HM.out.mono ?_; rintro e w2 ⟨rfl, rfl⟩
        go_wp2_with fail
        refine HRD.out.mono ?_; rintro e w3 ⟨rfl, hx⟩
        have HFF := Lib.hid (HF.out _ hx)
        clear hx HF HRD
        go_wp2_with fail
        go_ret
        exact HFF.out
    · have HR4 : Hid (R = (0, s1.settle F (b.extract 0 n.toNat))) := Lib.hid (by rw [HR3.out, if_neg hn])
      obtain ⟨N, rfl⟩ : ∃ N : Nat, n = N := ⟨n.toNat, by omega⟩
      rw [Int.toNat_natCast] at HR4
      have d1 : decide ((N : Int) < 0) = false := decide_eq_false (by omega)
      have d2 : decide ((b.size : Int) < (N : Int)) = false := decide_eq_false (by omega)
      have d3 : decide ((N : Int) > (b.size : Int)) = false := decide_eq_false (by omega)
      have n0 : (0 : Int) ≤ (N : Int) := by omega
      have n1 : (N : Int) ≤ (b.size : Int) := by omega
      have hxl : (b.extract 0 N).size ≤ 16777216 := by simp; omega
      clear HR3 hn
      go_wp2_with fail
      refine HM.out.mono ?_; rintro e w2 ⟨rfl, rfl⟩
      go_wp2_with fail
      refine HRD.out.mono ?_; rintro e w3 ⟨rfl, hx⟩
      have ho3 := HO.out.below hx
      obtain ⟨lv, qv, kv, r3, hb3⟩ := ho3.at_
      obtain ⟨g, cap, rfl, hg, hgc⟩ := r3.last
      have c0 := r3.cells.1
      obtain ⟨k1, k2⟩ := hgc F hF
      have hks := (RAt.set_dur r3 hb3 F (b.extract 0 N) hxl).1.cells.1
      have HR5 := Lib.hid r3
      have HB5 := Lib.hid hb3
      have HO5 := Lib.hid ho3
      obtain ⟨old, hold⟩ : ∃ x, s1.d F = x := ⟨_, rfl⟩
      rw [hold] at k1
      obtain ⟨X, hX⟩ : ∃ X, b.extract 0 N = X := ⟨_, rfl⟩
      have HXL := Lib.hid hxl
      rw [hX] at hks HR4 HXL
      clear hx hxl r3 hb3 ho3 hgc HRD hat hold
      go_wp2_with fail
      go_region_held3 (fun W => W.cell? ⟨db, 0, none⟩ = some (.slice (some ⟨g, 0, none⟩) 8 cap))
        (first | exact c0 | exact hks | assumption | fail)
        (fail)
      all_goals
        have hst := RAt.set_dur HR5.out HB5.out F X HXL.out
        have hsb : Below (w3.setCell ⟨g, F, none⟩ (.string X)).heap.size (w3.setCell ⟨g, F, none⟩ (.string X)) (w3.setCell ⟨g, F, none⟩ (.string X)).drew := (Below.refl _ _).drew
        have hrf : RefAt (Ext B w w3) (w3.setCell ⟨g, F, none⟩ (.string X)) db { s1 with dur := s1.dur.set F X } := ⟨_, _, _, hst.1, HB5.out⟩
        have HWO := Lib.hid (withoutR (hrf.below hsb) F)
        clear k1 k2 hst hks hX hsb hrf
        go_wp2_with fail
        refine HWO.out.mono ?_; rintro e w4 ⟨u, rfl, hu, hw⟩
        obtain ⟨hfin, j1, j2⟩ := RAt.settled HR5.out HB5.out F X HXL.out (below_drew hw) hu
        obtain ⟨uA, ucap, rfl⟩ := own_form3 hu
        have HF : Hid (IOPost B w db R (.returned (.int .i64 0)) (w4.setCell ⟨db, 1, none⟩ _)) := Lib.hid ⟨by rw [HR4.out], by rw [HR4.out]; exact HO5.out.trans hfin⟩
        clear hfin hu hw HWO
        go_wp2_with fail
        go_ret
        exact HF.out
end Go.Proofs.Ythdmcjiccbgknaa

namespace Go.Proofs.Ythdmcjiccbgknaa
set_option linter.unusedVariables false
set_option linter.unusedSimpArgs false
open Go.RowKit

def Dk.rturn1 (s : Dk) (f g : Int) : Int × Dk := if s.chk f ≠ 0 then (s.chk f, s) else if s.chk g ≠ 0 then (s.chk g, s) else if f = g then (1, s) else if s.pending g.toNat = true then (11, s) else
  (0, { s with dur := (s.dur.set f.toNat (s.d g.toNat)).set g.toNat { data := #[] }, pend := s.pend.filter fun p => !decide (p.f = f.toNat) })
def Dk.rturn (s : Dk) (f g : Int) : Int × Dk := (s.rcomes 0 0 { data := #[] }).rturn1 f g
set_option maxRecDepth 100000 in
theorem RAt.requeue {B : Nat → Prop} {w w' : World} {db : Nat} {lv qv kv u : Value} {s : Dk} (r : RAt w db lv qv kv s) (hb : RIn B db lv qv kv) (F : Nat)
    (hw : Below w.heap.size w w') (hu : w'.ownsRow w.heap.size 111 3 u (s.pend.filter fun p => !decide (p.f = F)).length (pc (s.pend.filter fun p => !decide (p.f = F)))) :
    ROp B w (w'.setCell ⟨db, 1, none⟩ u) db { s with pend := s.pend.filter fun p => !decide (p.f = F) } ∧ w'.cell? ⟨db, 1, none⟩ = some qv ∧ w'.frozen? ⟨db, 1, none⟩ = false := by
  have r4 := r.heap (w' := w') (fun y hy _ => hw.block y hy)
  obtain ⟨_, e1, _, _, _, _, fz⟩ := r4.cells
  have ho := r.ok
  have o4 := RAt.field (i := 1) (s' := { s with pend := s.pend.filter fun p => !decide (p.f = F) }) (x := u) (lv' := lv) (qv' := u) (kv' := kv) r hb (grown_below hw _) r4.lst (own_mono0 hu) r4.kp (fun y hy => .inl hy) (fun y hy => .inr (World.ownsRow.lt hu y hy).1) (fun y hy => .inl hy) rfl ⟨ho.dl, ho.ds, fun p hp => ho.ps p (List.mem_filter.1 hp).1, Nat.le_trans (List.length_filter_le _ _) ho.pn, ho.kn, ho.lo, ho.ca⟩
  exact ⟨o4, e1, fz 1⟩
set_option maxRecDepth 100000 in
theorem RIn.ext {B : Nat → Prop} {w w' : World} {db : Nat} {lv qv kv : Value} (h : RIn B db lv qv kv) : RIn (Ext B w w') db lv qv kv := ⟨.inl h.b0, fun k hk => .inl (h.b1 k hk), fun k hk => .inl (h.b2 k hk), fun k hk => .inl (h.b3 k hk)⟩
set_option maxRecDepth 100000 in
theorem d_set_ne (s : Dk) (F G : Nat) (b : ByteArray) (h : F ≠ G) : Dk.d { s with dur := s.dur.set F b } G = s.d G := by
  unfold Dk.d
  simp only [List.getD_eq_getElem?_getD]
  rw [List.getElem?_set_ne h]
set_option maxRecDepth 100000 in
theorem pending_len (l : List Pc) (G : Nat) : ((l.filter fun p => !decide (p.f = G)).length ≠ l.length) ↔ l.any (fun p => decide (p.f = G)) = true := by
  induction l with
  | nil => simp
  | cons p l ih =>
    have hle := List.length_filter_le (fun p : Pc => !decide (p.f = G)) l
    by_cases h : p.f = G
    · rw [List.filter_cons_of_neg (by simp [h]), List.any_cons, decide_eq_true h]
      simp only [List.length_cons, Bool.true_or, ne_eq, iff_true]
      omega
    · rw [List.filter_cons_of_pos (by simp [h]), List.any_cons, decide_eq_false h, Bool.false_or, ← ih]
      simp
set_option maxRecDepth 100000 in
set_option maxHeartbeats 8000000 in
theorem turnR {B : Nat → Prop} {w : World} {db : Nat} {s : Dk} (h : RefAt B w db s) (f g : Int) :
    Calls Try.prog 58 #[.pointer (some ⟨db, 0, none⟩), .int .i64 f, .int .i64 g] w (IOPost B w db (s.rturn f g)) := by
  have HC := Lib.hid (comesR h 0 0 { data := #[] } (by decide) (by have := h.ok.pn; show s.pend.length + 0 ≤ 1000000; exact this))
  have HR : Hid (s.rturn f g = (s.rcomes 0 0 { data := #[] }).rturn1 f g) := rfl
  generalize s.rturn f g = R at *
  generalize s.rcomes 0 0 { data := #[] } = s1 at *
  have HR2 : Hid (R = if s1.chk f ≠ 0 then (s1.chk f, s1) else if s1.chk g ≠ 0 then (s1.chk g, s1) else if f = g then (1, s1) else if s1.pending g.toNat = true then (11, s1) else
    (0, { s1 with dur := (s1.dur.set f.toNat (s1.d g.toNat)).set g.toNat { data := #[] }, pend := s1.pend.filter fun p => !decide (p.f = f.toNat) })) := HR.out
  clear HR h
  have hcs := chk_cases s1 f
  have hcg := chk_cases s1 g
  go_enter Try.func58, Try.ntmps58
  go_wp2_with fail
  refine HC.out.mono ?_; rintro e w1 ⟨rfl, ho⟩
  have HM := Lib.hid (mayR ho.at_ f)
  have HG := Lib.hid (mayR ho.at_ g)
  have HO := Lib.hid ho
  clear ho HC
  rcases hcs with hc | hc | ⟨hc, hdn, hf0, hf8⟩
  · have HF : Hid (IOPost B w db R (.returned (.int .i64 10)) w1) := Lib.hid ⟨by rw [HR2.out, hc]; rfl, by rw [HR2.out, hc]; exact HO.out⟩
    rw [hc] at HM
    clear HR2 hc hcg HG
    go_wp2_with fail
    refine HM.out.mono ?_; rintro e w2 ⟨rfl, rfl⟩
    go_wp2_with fail
    go_ret
    exact HF.out
  · have HF : Hid (IOPost B w db R (.returned (.int .i64 1)) w1) := Lib.hid ⟨by rw [HR2.out, hc]; rfl, by rw [HR2.out, hc]; exact HO.out⟩
    rw [hc] at HM
    clear HR2 hc hcg HG
    go_wp2_with fail
    refine HM.out.mono ?_; rintro e w2 ⟨rfl, rfl⟩
    go_wp2_with fail
    go_ret
    exact HF.out
  · have HR3 : Hid (R = if s1.chk g ≠ 0 then (s1.chk g, s1) else if f = g then (1, s1) else if s1.pending g.toNat = true then (11, s1) else
      (0, { s1 with dur := (s1.dur.set f.toNat (s1.d g.toNat)).set g.toNat { data := #[] }, pend := s1.pend.filter fun p => !decide (p.f = f.toNat) })) := Lib.hid (by rw [HR2.out, hc, if_neg (by decide)])
    rw [hc] at HM
    clear HR2 hc hdn
    rcases hcg with hc | hc | ⟨hc, hdn, hg0, hg8⟩
    · have HF : Hid (IOPost B w db R (.returned (.int .i64 10)) w1) := Lib.hid ⟨by rw [HR3.out, hc]; rfl, by rw [HR3.out, hc]; exact HO.out⟩
      rw [hc] at HG
      clear HR3 hc
      go_wp2_with fail
      refine HM.out.mono ?_; rintro e w2 ⟨rfl, rfl⟩
      go_wp2_with fail
      refine HG.out.mono ?_; rintro e w2 ⟨rfl, rfl⟩
      go_wp2_with fail
      go_ret
      exact HF.out
    · have HF : Hid (IOPost B w db R (.returned (.int .i64 1)) w1) := Lib.hid ⟨by rw [HR3.out, hc]; rfl, by rw [HR3.out, hc]; exact HO.out⟩
      rw [hc] at HG
      clear HR3 hc
      go_wp2_with fail
      refine HM.out.mono ?_; rintro e w2 ⟨rfl, rfl⟩
      go_wp2_with fail
      refine HG.out.mono ?_; rintro e w2 ⟨rfl, rfl⟩
      go_wp2_with fail
      go_ret
      exact HF.out
    · obtain ⟨F, rfl⟩ : ∃ F : Nat, f = F := ⟨f.toNat, by omega⟩
      obtain ⟨G, rfl⟩ : ∃ G : Nat, g = G := ⟨g.toNat, by omega⟩
      have hF : F < 8 := by omega
      have hG : G < 8 := by omega
      rw [hc] at HG
      by_cases hfg : F = G
      · subst hfg
        have HF : Hid (IOPost B w db R (.returned (.int .i64 1)) w1) := Lib.hid ⟨by rw [HR3.out, hc, if_neg (by decide), if_pos rfl], by rw [HR3.out, hc, if_neg (by decide), if_pos rfl]; exact HO.out⟩
        clear HR3 hc hdn
        go_wp2_with fail
        refine HM.out.mono ?_; rintro e w2 ⟨rfl, rfl⟩
        go_wp2_with fail
        refine HG.out.mono ?_; rintro e w2 ⟨rfl, rfl⟩
        go_wp2_with fail
        go_ret
        exact HF.out
      · have hne : ¬ (F : Int) = (G : Int) := by omega
        have hne2 : ((F : Int) == (G : Int)) = false := by simp; omega
        have HR4 : Hid (R = if s1.pending G = true then (11, s1) else (0, { s1 with dur := (s1.dur.set F (s1.d G)).set G { data := #[] }, pend := s1.pend.filter fun p => !decide (p.f = F) })) := Lib.hid (by rw [HR3.out, hc, if_neg (by decide), if_neg hne]; rfl)
        have hpl := pending_len s1.pend G
        obtain ⟨lv, qv, kv, r1, hb1⟩ := HO.out.at_
        have c1 := r1.cells.2.1
        obtain ⟨qA, qcap, rfl, _⟩ := own_pcs r1.q
        obtain ⟨gl, lcap, rfl, hgl, _⟩ := r1.last
        have HR1 := Lib.hid r1
        have HB1 := Lib.hid hb1
        have hdb := r1.bx.lt
        have hbd : Below w1.heap.size w1 w1.drew := (Below.refl _ _).drew
        have HWG := Lib.hid (withoutR (HO.out.at_.below hbd) G)
        obtain ⟨fl, hfl⟩ : ∃ n, (s1.pend.filter fun p => !decide (p.f = G)).length = n := ⟨_, rfl⟩
        obtain ⟨ql, hql⟩ : ∃ n, s1.pend.length = n := ⟨_, rfl⟩
        rw [hfl, hql] at hpl
        rw [hql] at c1
        have HFL := Lib.hid hfl
        by_cases hpe : s1.pending G = true
        · have HF : Hid (∀ w', Below w1.heap.size w1 w' → IOPost B w db R (.returned (.int .i64 11)) w') := Lib.hid (fun w' hb => ⟨by rw [HR4.out, if_pos hpe], by rw [HR4.out, if_pos hpe]; exact HO.out.below hb⟩)
          have hnl : fl ≠ ql := hpl.2 hpe
          have hnb : ((fl : Int) != (ql : Int)) = true := by simp; omega
          have hnc : ¬ (fl : Int) = (ql : Int) := by omega
          clear HR3 HR4 hc hdn hpl hpe hfl hql r1 hb1 hbd
          go_wp2_with fail
          refine HM.out.mono ?_; rintro e w2 ⟨rfl, rfl⟩
          go_wp2_with fail
          refine HG.out.mono ?_; rintro e w2 ⟨rfl, rfl⟩
          go_wp2_with fail
          go_region_held3 (fun W => W.cell? ⟨db, 1, none⟩ = some (.slice qA ql qcap))
            (first | exact c1 | assumption | exact (hbr.out.cell (p := ⟨db, 1, none⟩) hdb).trans c1 | fail)
            (first
              | (go_at_call 77; (with_reducible refine HWG.out.mono ?_); rintro e w3 ⟨u, rfl, hu, hx⟩; have hbr := Lib.hid (below_drew hx); obtain ⟨uA, ucap, rfl⟩ := own_form3 hu; rw [HFL.out]; clear hu hx))
          all_goals
            have HFF := Lib.hid (HF.out _ hbr.out)
            clear hbr HF
            go_wp2_with fail
            go_ret
            exact HFF.out
        · have HR5 : Hid (R = (0, { s1 with dur := (s1.dur.set F (s1.d G)).set G { data := #[] }, pend := s1.pend.filter fun p => !decide (p.f = F) })) := Lib.hid (by rw [HR4.out, if_neg hpe])
          have hnl : fl = ql := by
            apply Classical.byContradiction
            intro h
            exact hpe (hpl.1 h)
          subst hnl
          have hnb : ((fl : Int) != (fl : Int)) = false := by simp
          have hdl := HO.out.at_.ok.d_le G
          have HNE := Lib.hid hfg
          clear HR3 HR4 hc hdn hpl hpe hfl hql r1 hb1 hbd
          have q0 : (0 : Int) ≤ (F : Int) := by omega
          have q8 : (F : Int) < 8 := by omega
          have q9 : ((F : Int)).toNat = F := by omega
          have p0 : (0 : Int) ≤ (G : Int) := by omega
          have p8 : (G : Int) < 8 := by omega
          have p9 : ((G : Int)).toNat = G := by omega
          go_wp2_with fail
          refine HM.out.mono ?_; rintro e w2 ⟨rfl, rfl⟩
          go_wp2_with fail
          refine HG.out.mono ?_; rintro e w2 ⟨rfl, rfl⟩
          go_wp2_with fail
          go_region_held3 (fun W => W.cell? ⟨db, 1, none⟩ = some (.slice qA fl qcap))
            (first | exact c1 | assumption | exact (hbr.out.cell (p := ⟨db, 1, none⟩) hdb).trans c1 | fail)
            (first
              | (go_at_call 77; (with_reducible refine HWG.out.mono ?_); rintro e w3 ⟨u, rfl, hu, hx⟩; have hbr := Lib.hid (below_drew hx); obtain ⟨uA, ucap, rfl⟩ := own_form3 hu; rw [HFL.out]; clear hu hx))
          all_goals
            have r3 := HR1.out.heap (w' := w3) (fun y hy _ => hbr.out.block y hy)
            have c0 := r3.cells.1
            obtain ⟨gl', lcap', hv, _, hgc3⟩ := r3.last
            injection hv with e1 e2 e3
            injection e1 with e1
            injection e1 with e1 _ _
            subst e1
            obtain ⟨kF, fF⟩ := hgc3 F hF
            obtain ⟨kG, _⟩ := hgc3 G hG
            have hsd := RAt.set_dur r3 HB1.out F (s1.d G) hdl
            have hks := hsd.1.cells.1
            obtain ⟨gl2, lcap2, hv, _, hgc4⟩ := hsd.1.last
            injection hv with e1 _ _
            injection e1 with e1
            injection e1 with e1 _ _
            subst e1
            obtain ⟨hkG, hfG⟩ := hgc4 G hG
            rw [d_set_ne s1 F G _ HNE.out] at hkG
            have HSD := Lib.hid hsd
            have HR3w := Lib.hid r3
            have HDL := Lib.hid hdl
            obtain ⟨X, hX⟩ : ∃ X, s1.d G = X := ⟨_, rfl⟩
            rw [hX] at kG hks hkG HSD HR5 HDL
            rw [hX] at hfG
            obtain ⟨Y, hY⟩ : ∃ Y, s1.d F = Y := ⟨_, rfl⟩
            rw [hY] at kF
            clear hX hY r3 hsd hgc3 hgc4 hdl e2 e3 HWG
            go_wp2_with fail
            go_region_held3 (fun W => W.cell? ⟨db, 0, none⟩ = some (.slice (some ⟨gl, 0, none⟩) 8 lcap) ∧ W.cell? ⟨gl, G, none⟩ = some (.string X))
              (first | exact ⟨c0, kG⟩ | exact ⟨hks, hkG⟩ | assumption | fail)
              (fail)
            all_goals
              have hdw : Below (w3.setCell ⟨gl, F, none⟩ (.string X)).heap.size (w3.setCell ⟨gl, F, none⟩ (.string X)) (w3.setCell ⟨gl, F, none⟩ (.string X)).drew := (Below.refl _ _).drew
              have r4 := HSD.out.1.heap (w' := (w3.setCell ⟨gl, F, none⟩ (.string X)).drew) (fun y hy _ => rfl)
              have o4 := HSD.out.2.below hdw
              have hs5 := RAt.set_dur r4 (HB1.out.ext (w := w3) (w' := (w3.setCell ⟨gl, F, none⟩ (.string X)).drew)) G { data := #[] } (by decide)
              have hrf : RefAt _ _ db _ := ⟨_, _, _, hs5.1, HB1.out.ext (w := w3) (w' := (w3.setCell ⟨gl, F, none⟩ (.string X)).drew)⟩
              have HWO := Lib.hid (withoutR hrf F)
              have HS5 := Lib.hid hs5
              have HO4 := Lib.hid o4
              have c0d : (w3.setCell ⟨gl, F, none⟩ (.string X)).drew.cell? ⟨db, 0, none⟩ = some (.slice (some ⟨gl, 0, none⟩) 8 lcap) := hks
              have kGd : (w3.setCell ⟨gl, F, none⟩ (.string X)).drew.cell? ⟨gl, G, none⟩ = some (.string X) := hkG
              have fGd : (w3.setCell ⟨gl, F, none⟩ (.string X)).drew.frozen? ⟨gl, G, none⟩ = false := hfG
              clear r4 o4 hs5 hrf hks hkG hfG kF fF kG c0 c1
              generalize (w3.setCell ⟨gl, F, none⟩ (.string X)).drew = W4 at *
              go_wp2_with fail
              refine HWO.out.mono ?_; rintro e w5 ⟨u, rfl, hu, hw⟩
              obtain ⟨hfin, j1, j2⟩ := RAt.requeue HS5.out.1 ((HB1.out.ext (w := w3) (w' := W4)).ext (w := W4) (w' := W4.setCell ⟨gl, G, none⟩ (.string { data := #[] }))) F hw hu
              obtain ⟨uA2, ucap2, rfl⟩ := own_form3 hu
              have HF : Hid (IOPost B w db R (.returned (.int .i64 0)) (w5.setCell ⟨db, 1, none⟩ _)) := Lib.hid ⟨by rw [HR5.out], by rw [HR5.out]; exact HO.out.trans (ROp.pre hbr.out (HO4.out.trans (HS5.out.2.trans hfin)))⟩
              clear hfin hu hw HWO
              go_wp2_with fail
              go_ret
              exact HF.out
end Go.Proofs.Ythdmcjiccbgknaa
