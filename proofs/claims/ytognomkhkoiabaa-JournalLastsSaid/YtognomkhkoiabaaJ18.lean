/-
  Package journal: Rewrite.
-/
import Derived.Test.YtognomkhkoiabaaJ17
namespace Go.Proofs.Ytognomkhkoiabaa
set_option linter.unusedVariables false
set_option linter.unusedSimpArgs false
open Go.RowKit

def CloneS (w : World) (l : List ByteArray) (e : Ending) (w' : World) : Prop := ∃ u, e = .returned u ∧ w'.ownsRow w.heap.size 9 1 u l.length (sv l) ∧ Below w.heap.size w w'
theorem cloneSP {w : World} {B : Nat} (A : Option Addr) (cap : Nat) (l : List ByteArray) (hr : Row w B (.slice A l.length cap) (sv l)) (hll : l.length ≤ 1000000000000) : Calls Try.prog 24 #[.slice A l.length cap] w (CloneS w l) := by
  obtain ⟨A', cap', he, hA⟩ := hr
  rw [sv_length] at he hA
  injection he with e1 e2 e3
  subst e1
  rcases A with _ | a
  · rcases Nat.eq_zero_or_pos l.length with h0 | h0
    · obtain rfl : l = [] := List.eq_nil_of_length_eq_zero h0
      refine (Try.slices_Clone_string_nil _ _ w).mono ?_
      rintro e w' ⟨rfl, rfl⟩
      exact ⟨_, rfl, World.ownsRow_nil _ _ _ _, Below.refl _ _⟩
    · obtain ⟨b, off, e, _⟩ := hA h0
      cases e
  · rcases Nat.eq_zero_or_pos l.length with h0 | h0
    · obtain rfl : l = [] := List.eq_nil_of_length_eq_zero h0
      refine (Try.slices_Clone_string_zero a _ w).mono ?_
      rintro e w' ⟨u, rfl, h1, _, h2⟩
      exact ⟨u, rfl, h1, h2⟩
    · obtain ⟨b, off, e, _, hc⟩ := hA h0
      cases e
      refine (Try.slices_Clone_string b off l.length cap l w (Nat.le_refl _) (by omega) (fun j hj => ?_)).mono ?_
      · rw [hc j hj, sv_get l j hj, List.getD_eq_getElem?_getD, List.getElem?_eq_getElem hj]; rfl
      · rintro e w' ⟨u, rfl, h1, _, h2⟩
        rw [List.take_length] at h1
        exact ⟨u, rfl, h1, h2⟩
/-- The log has got new rows. -/
theorem LD.rep {B : Nat → Prop} {w w5 w6 : World} {lb db : Nat} {v u : Value} {g g' : Lg} {s : Dk} (h : LD B w lb db v g s) (hb : Below w.heap.size w w5) (hu : ∀ k, u.ownBlock = some k → w.heap.size ≤ k) (hg : LgAt w6 lb db u g') (hf : Fr (fun k => k = lb) w5 w6) : LOp B w w6 lb db u g' s := by
  obtain ⟨Bd, h1, h2, h3, h4, h5, h6⟩ := h
  have hlt := h2.bx.lt
  have hs1 := hb.size
  have hs2 := hf.size
  have hf0 : Fr (fun k => k = lb) w w6 := (Fr.below hb).trans hf fun _ _ h => h
  refine ⟨⟨fun k => Bd k ∧ k < w.heap.size, (h1.mono fun k hk hx => ⟨hx, hk⟩).fr hf0 (fun k hk hx e => h3 (by rw [← e]; exact hx.1)), hg, fun hx => h3 hx.1, fun k hk => ⟨fun hx => by have := hu k hk; have := hx.2; omega, .inr ⟨hu k hk, hg.vlt k hk⟩⟩, fun k hk hx => .inl (h5 k hx.2 hx.1), .inl h6⟩, hf0.mono fun k hk e => by rw [e]; exact h6⟩
/-- What Rewrite makes of a log and its disk. -/
def Lg.rewrite (g : Lg) (s : Dk) (l : List ByteArray) : Int × Lg × Dk :=
  let r := runT [fun s => s.cut (g.file + 1) 0, fun s => s.write (g.file + 1) 0 (whl l), fun s => s.flush (g.file + 1), fun s => s.turn g.file (g.file + 1)] s
  if r.1 = 0 then (0, ⟨g.file, l, l.length⟩, r.2) else (r.1, g, r.2)
set_option maxRecDepth 100000 in
set_option maxHeartbeats 8000000 in
theorem rewriteP {B : Nat → Prop} {w : World} {lb db : Nat} {v : Value} {g : Lg} {s : Dk} (h : LD B w lb db v g s) (u : Value) (l : List ByteArray) (hrow : ∀ w' v' s', LOp (fun k => B k ∧ k < w.heap.size) w w' lb db v' g s' → Row w' w'.heap.size u (sv l)) (hf : 0 ≤ g.file ∧ g.file ≤ 6) (hx : ext l ≤ 900000) (hp : s.pend.length + ext l ≤ 1000000) :
    Calls Try.prog 11 #[.pointer (some ⟨lb, 0, none⟩), u] w (LPost B w lb db (g.rewrite s l)) := by
  have hll := ext_len l
  have ht := h.tight
  obtain ⟨A, cap, hu⟩ : ∃ A cap, u = .slice A l.length cap := by
    obtain ⟨A, cap, e, _⟩ := hrow w v s (LOp.refl ht)
    rw [sv_length] at e
    exact ⟨A, cap, e⟩
  subst hu
  have hb1 : Below w.heap.size w (((w.alloc (.cells #[.pointer (some ⟨lb, 0, none⟩)] tL)).alloc (.cells #[.slice A l.length cap] 33)).alloc (.cells #[.int .i64 (g.file + 1)] 3)) := (((Below.refl _ _).alloc (Nat.le_refl _) _).alloc (by simp) _).alloc (by simp; omega) _
  have k1 : Blk (((w.alloc (.cells #[.pointer (some ⟨lb, 0, none⟩)] tL)).alloc (.cells #[.slice A l.length cap] 33)).alloc (.cells #[.int .i64 (g.file + 1)] 3)) w.heap.size tL #[.pointer (some ⟨lb, 0, none⟩)] := ((Blk.new w tL _).below (below_new _ _) (by simp)).below (below_new _ _) (by simp; omega)
  have k2 : Blk (((w.alloc (.cells #[.pointer (some ⟨lb, 0, none⟩)] tL)).alloc (.cells #[.slice A l.length cap] 33)).alloc (.cells #[.int .i64 (g.file + 1)] 3)) (w.heap.size + 1) 33 #[.slice A l.length cap] := by
    have := (Blk.new (w.alloc (.cells #[.pointer (some ⟨lb, 0, none⟩)] tL)) 33 #[.slice A l.length cap]).below (below_new _ (.cells #[.int .i64 (g.file + 1)] 3)) (by simp)
    simpa using this
  have k3 : Blk (((w.alloc (.cells #[.pointer (some ⟨lb, 0, none⟩)] tL)).alloc (.cells #[.slice A l.length cap] 33)).alloc (.cells #[.int .i64 (g.file + 1)] 3)) (w.heap.size + 2) 3 #[.int .i64 (g.file + 1)] := by
    have := Blk.new ((w.alloc (.cells #[.pointer (some ⟨lb, 0, none⟩)] tL)).alloc (.cells #[.slice A l.length cap] 33)) 3 #[.int .i64 (g.file + 1)]
    simpa using this
  have hs1 : (((w.alloc (.cells #[.pointer (some ⟨lb, 0, none⟩)] tL)).alloc (.cells #[.slice A l.length cap] 33)).alloc (.cells #[.int .i64 (g.file + 1)] 3)).heap.size = w.heap.size + 3 := by simp
  obtain ⟨c0, c1', c2, c3, c4, _⟩ := h.lg.cells
  have c1 : ((w.alloc (.cells #[.pointer (some ⟨lb, 0, none⟩)] 28)).alloc (.cells #[.slice A l.length cap] 33)).cell? ⟨lb, 1, none⟩ = some (.int .i64 g.file) := keep_below (below_new _ _) (keep_below (below_new _ _) c1')
  clear c1'
  have HR : Hid (g.rewrite s l = if (runT [fun s => s.cut (g.file + 1) 0, fun s => s.write (g.file + 1) 0 (whl l), fun s => s.flush (g.file + 1), fun s => s.turn g.file (g.file + 1)] s).1 = 0 then (0, ⟨g.file, l, l.length⟩, (runT [fun s => s.cut (g.file + 1) 0, fun s => s.write (g.file + 1) 0 (whl l), fun s => s.flush (g.file + 1), fun s => s.turn g.file (g.file + 1)] s).2) else ((runT [fun s => s.cut (g.file + 1) 0, fun s => s.write (g.file + 1) 0 (whl l), fun s => s.flush (g.file + 1), fun s => s.turn g.file (g.file + 1)] s).1, g, (runT [fun s => s.cut (g.file + 1) 0, fun s => s.write (g.file + 1) 0 (whl l), fun s => s.flush (g.file + 1), fun s => s.turn g.file (g.file + 1)] s).2)) := rfl
  generalize g.rewrite s l = R at *
  obtain ⟨W1, hW1⟩ : ∃ W1, ((w.alloc (.cells #[.pointer (some ⟨lb, 0, none⟩)] tL)).alloc (.cells #[.slice A l.length cap] 33)).alloc (.cells #[.int .i64 (g.file + 1)] 3) = W1 := ⟨_, rfl⟩
  rw [hW1] at hb1 k1 k2 k3 hs1
  have hb3 := below_new W1 (.cells #[fR1 w.heap.size (w.heap.size + 2), fR2 w.heap.size (w.heap.size + 2) (w.heap.size + 1), fR3 w.heap.size (w.heap.size + 2), fR4 w.heap.size (w.heap.size + 2)] tF)
  obtain ⟨W2, hW2⟩ : ∃ W2, W1.alloc (.cells #[fR1 w.heap.size (w.heap.size + 2), fR2 w.heap.size (w.heap.size + 2) (w.heap.size + 1), fR3 w.heap.size (w.heap.size + 2), fR4 w.heap.size (w.heap.size + 2)] tF) = W2 := ⟨_, rfl⟩
  have kg : Blk W2 W1.heap.size tF #[fR1 w.heap.size (w.heap.size + 2), fR2 w.heap.size (w.heap.size + 2) (w.heap.size + 1), fR3 w.heap.size (w.heap.size + 2), fR4 w.heap.size (w.heap.size + 2)] := by rw [← hW2]; exact Blk.new _ _ _
  rw [hW2] at hb3
  have hb2 := hb1.trans (hb3.mono hb1.size)
  have hHR : ∀ w' v' s', LOp (fun k => B k ∧ k < w.heap.size) W2 w' lb db v' g s' → Row w' w'.heap.size (.slice A l.length cap) (sv l) := fun w' v' s' h' => hrow w' v' s' (LOp.pre hb2 h')
  have HHR := Lib.hid hHR
  have HC := Lib.hid (orderR (nx := g.file + 1) (l := l) (ht.below hb2) W1.heap.size w.heap.size (w.heap.size + 2) (w.heap.size + 1) A cap kg (fun h => by have := h.2; omega) (k1.below hb3 k1.lt) (fun h => by have := h.2; omega) (k3.below hb3 k3.lt) (fun h => by have := h.2; omega) (k2.below hb3 k2.lt) (fun h => by have := h.2; omega) (fun w' s' h' => hHR w' v s' h'.out) hx hp)
  have HB2 := Lib.hid hb2
  have HK1 := Lib.hid (k1.below hb3 k1.lt)
  have HK2 := Lib.hid (k2.below hb3 k2.lt)
  rw [hs1] at HC
  unfold fR1 fR2 fR3 fR4 at hW2
  have HBL : Hid (lb < w.heap.size) := Lib.hid h.lg.bx.lt
  have HLL : Hid (l.length ≤ 1000000000000) := Lib.hid (by omega)
  have HXL : Hid (ext l ≤ 1000000000000) := Lib.hid (by omega)
  obtain ⟨⟨E, S'⟩, hE⟩ : ∃ q, runT [fun s => s.cut (g.file + 1) 0, fun s => s.write (g.file + 1) 0 (whl l), fun s => s.flush (g.file + 1), fun s => s.turn g.file (g.file + 1)] s = q := ⟨_, rfl⟩
  rw [hE] at HC HR
  obtain ⟨f0, f6⟩ := hf
  clear hE hb1 hb2 hb3 k1 k2 k3 kg hx hp hll hrow ht h hHR c0 c2 c3 c4
  go_enter Try.func11, Try.ntmps11
  go_wp2_with fail
  refine HC.out.mono ?_; rintro e w3 ⟨rfl, ho⟩
  have HO := Lib.hid (LOp.pre HB2.out ho.loose)
  have HK3 := Lib.hid (ho.keep HK1.out (fun h => by have := h.2; omega))
  have HK4 := Lib.hid (ho.keep HK2.out (fun h => by have := h.2; omega))
  have HRW := Lib.hid (HHR.out _ _ _ ho)
  have HT3 := Lib.hid ho.at_
  clear ho HC HK1 HK2 HHR
  by_cases hE0 : E = 0
  · subst hE0
    have HR2 : Hid (R = (0, ⟨g.file, l, l.length⟩, S')) := Lib.hid (by rw [HR.out, if_pos rfl])
    have k2 : ((0 : Int) != 0) = false := rfl
    have hlg := HT3.out.lg
    have hlt3 : lb < w3.heap.size := hlg.bx.lt
    have HCL : Hid (Calls Try.prog 24 #[.slice A l.length cap] w3.drew (CloneS w3.drew l)) := Lib.hid (cloneSP (B := w3.heap.size) A cap l (HRW.out.below (Below.refl _ _).drew) HLL.out)
    have HREP : Hid (∀ w5 u, w5.ownsRow w3.drew.heap.size 9 1 u l.length (sv l) → Below w3.drew.heap.size w3.drew w5 → Calls Try.prog 22 #[.pointer (some ⟨lb, 0, none⟩), u] w5 fun e w6 => e = .returned (.tuple #[]) ∧ LOp B w w6 lb db u ⟨g.file, l, l.length⟩ S' ∧ Fr (fun k => k = lb) w5 w6) := Lib.hid fun w5 u hu hb => by
      have hb' : Below w3.heap.size w3 w5 := (below_drew (Below.refl _ _)).trans hb
      have hul : ∀ k, u.ownBlock = some k → w3.heap.size ≤ k := fun k hk => (World.ownsRow.lt hu k hk).1
      have hu0 : w5.ownsRow 0 9 1 u l.length (sv l) := by
        refine ⟨hu.1, ?_⟩
        rcases hu.2 with h | ⟨k, c, cur, h1, h2, r⟩
        · exact .inl h
        · exact .inr ⟨k, c, cur, h1, Nat.zero_le _, r⟩
      refine (replaceP l (hlg.bx.below hb' hlt3) hu0 (fun e => by have := hul _ e; omega) HXL.out).mono ?_
      rintro e w6 ⟨rfl, h1, h2, h3⟩
      exact ⟨rfl, HO.out.trans (LD.rep HO.out.at_ hb' hul h1 h2), h2⟩
    have hbl : lb < w.heap.size := HBL.out
    have HS1 : Hid (∀ w5, Hid (Below w3.drew.heap.size w3.drew w5) → w5.cell? ⟨w.heap.size, 0, none⟩ = some (.pointer (some ⟨lb, 0, none⟩)) ∧ w5.cell? ⟨w.heap.size + 1, 0, none⟩ = some (.slice A l.length cap)) := Lib.hid fun w5 hb => ⟨(HK3.out.below ((below_drew (Below.refl _ _)).trans hb.out) HK3.out.lt).cell 0, (HK4.out.below ((below_drew (Below.refl _ _)).trans hb.out) HK4.out.lt).cell 0⟩
    have HS2 : Hid (∀ w5 w6, Hid (Below w3.drew.heap.size w3.drew w5) → Hid (Fr (fun k => k = lb) w5 w6) → w6.cell? ⟨w.heap.size, 0, none⟩ = some (.pointer (some ⟨lb, 0, none⟩)) ∧ w6.cell? ⟨w.heap.size + 1, 0, none⟩ = some (.slice A l.length cap)) := Lib.hid fun w5 w6 hb hf => by
      have a := HK3.out.below ((below_drew (Below.refl _ _)).trans hb.out) HK3.out.lt
      have b := HK4.out.below ((below_drew (Below.refl _ _)).trans hb.out) HK4.out.lt
      have a' : Blk w6 w.heap.size tL #[.pointer (some ⟨lb, 0, none⟩)] := (hf.out.block _ a.lt (by omega)).trans a
      have b' : Blk w6 (w.heap.size + 1) 33 #[.slice A l.length cap] := (hf.out.block _ b.lt (by omega)).trans b
      exact ⟨a'.cell 0, b'.cell 0⟩
    have S0 := HS1.out w3.drew (Lib.hid (Below.refl _ _))
    obtain ⟨N, hN⟩ : ∃ N, l.length = N := ⟨_, rfl⟩
    rw [hN] at HCL HS1 HS2 S0
    clear HR c1 hlg hlt3 hN hbl HRW HK3 HK4
    go_wp2_with fail
    go_region_held3 (fun w' => w'.cell? ⟨w.heap.size, 0, none⟩ = some (.pointer (some ⟨lb, 0, none⟩)) ∧ w'.cell? ⟨w.heap.size + 1, 0, none⟩ = some (.slice A N cap)) (first | exact S0 | exact HS1.out _ (by assumption) | exact HS2.out _ _ (by assumption) (by assumption) | fail) (first
      | (go_at_call 24; (with_reducible refine HCL.out.mono ?_); rintro e w5 ⟨u, rfl, hu, hb⟩; have HU := Lib.hid hu; have HB := Lib.hid hb; clear hu hb)
      | (go_at_call 22; (with_reducible refine (HREP.out _ _ HU.out HB.out).mono ?_); rintro e w6 ⟨rfl, h1, h2⟩; have H1 := Lib.hid h1; have H2 := Lib.hid h2; clear h1 h2))
    go_wp2_with fail
    go_ret
    exact ⟨by rw [HR2.out]; rfl, by rw [HR2.out]; exact ⟨_, H1.out⟩⟩
  · have HR2 : Hid (R = (E, g, S')) := Lib.hid (by rw [HR.out, if_neg hE0])
    have k2 : (E != 0) = true := by rw [bne_iff_ne]; exact hE0
    clear HR hE0
    go_wp2_with fail
    go_ret
    exact ⟨by rw [HR2.out]; rfl, by rw [HR2.out]; exact ⟨v, HO.out⟩⟩
end Go.Proofs.Ytognomkhkoiabaa
