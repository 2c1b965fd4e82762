/-
  Layer 6: Cut, Turn.
  Layer 6: Write.
  Layer 6: Write, New, Copy.
-/
import Derived.Test.YthdmcjiccbgknaaZFc
import Derived.Deep.AppendLies
namespace Go.Proofs.Ythdmcjiccbgknaa
set_option linter.unusedVariables false
set_option linter.unusedSimpArgs false
open Go.RowKit

set_option maxRecDepth 100000 in
set_option maxHeartbeats 2000000 in
theorem cutPP {B : Nat → Prop} {w : World} {db : Nat} {s : Dk} (h : DiskAt B w db s) (f n : Int) :
    Calls Try.prog 48 #[.pointer (some ⟨db, 0, none⟩), .int .i64 f, .int .i64 n] w fun e w' => e = .returned (.int .i64 (s.cut f n).1) ∧ Op B w w' db (s.cut f n).2 := by
  have hb0 := below_new w (.cells #[.int .i64 f] 3)
  have HE := Lib.hid (enterP (h.tight.below hb0) (.slice (some ⟨w.heap.size, 0, none⟩) 1 1) [f] (irow_new1 w f) (fun k hk => by simp [Value.ownBlock] at hk; omega) (by simp))
  rw [chk_one] at HE
  have HB0 := Lib.hid hb0
  have HR : Hid (s.cut f n = s.enter.cut0 f n) := rfl
  generalize s.cut f n = R at *
  generalize s.enter = s1 at *
  have HR2 : Hid (R = if s1.chk f ≠ 0 then (s1.chk f, s1) else if n < 0 ∨ ((s1.bytes f.toNat).size : Int) < n then (1, s1) else (0, s1.settle f.toNat ((s1.bytes f.toNat).extract 0 n.toNat))) := HR.out
  have hcs := chk_cases s1 f
  clear HR h hb0
  rcases hcs with hc | hc | ⟨hc, hdn, hf0, hf8⟩
  · rw [hc] at HE HR2
    clear hc
    go_enter Try.func48, Try.ntmps48
    go_wp2_with fail
    refine HE.out.mono ?_; rintro e w1 ⟨rfl, ho⟩
    have HO := Lib.hid (Op.pre HB0.out ho).loose
    clear ho
    go_wp2_with fail
    go_ret
    exact ⟨by rw [HR2.out]; rfl, by rw [HR2.out]; exact HO.out⟩
  · rw [hc] at HE HR2
    clear hc
    go_enter Try.func48, Try.ntmps48
    go_wp2_with fail
    refine HE.out.mono ?_; rintro e w1 ⟨rfl, ho⟩
    have HO := Lib.hid (Op.pre HB0.out ho).loose
    clear ho
    go_wp2_with fail
    go_ret
    exact ⟨by rw [HR2.out]; rfl, by rw [HR2.out]; exact HO.out⟩
  · rw [hc] at HE HR2
    obtain ⟨F, rfl⟩ : ∃ F : Nat, f = F := ⟨f.toNat, by omega⟩
    have hF : F < 8 := by omega
    rw [if_neg (by simp), show ((F : Int)).toNat = F by omega] at HR2
    clear hc
    by_cases hn0 : n < 0
    · have HR3 : Hid (R = (1, s1)) := by show _ = _; rw [HR2.out, if_pos (.inl hn0)]
      have d0 : decide (n < 0) = true := decide_eq_true hn0
      clear HR2
      go_enter Try.func48, Try.ntmps48
      go_wp2_with fail
      refine HE.out.mono ?_; rintro e w1 ⟨rfl, ho⟩
      have HO := Lib.hid (Op.pre HB0.out ho).loose
      clear ho
      go_wp2_with fail
      go_ret
      exact ⟨by rw [HR3.out]; rfl, by rw [HR3.out]; exact HO.out⟩
    · have d0 : decide (n < 0) = false := decide_eq_false hn0
      have hsz : s1.size F = (s1.bytes F).size := by unfold Dk.size; rw [if_pos (by omega)]; rfl
      obtain ⟨z, hz⟩ : ∃ z, (s1.bytes F).size = z := ⟨_, rfl⟩
      rw [hz] at HR2 hsz
      have HSZ := Lib.hid hsz
      have HZ := Lib.hid hz
      clear hsz hz
      go_enter Try.func48, Try.ntmps48
      go_wp2_with fail
      refine HE.out.mono ?_; rintro e w1 ⟨rfl, ho⟩
      have ho1 := (Op.pre HB0.out ho).loose
      have HS := Lib.hid (sizeP ho1.at_ F)
      rw [HSZ.out] at HS
      have HO := Lib.hid ho1
      clear ho ho1 HE
      go_wp2_with fail
      refine HS.out.mono ?_; rintro e w2 ⟨rfl, hb2⟩
      have ho2 := HO.out.below hb2
      by_cases hn1 : (z : Int) < n
      · have HR3 : Hid (R = (1, s1)) := by show _ = _; rw [HR2.out, if_pos (.inr hn1)]
        have HO2 := Lib.hid ho2
        clear HR2 ho2 hb2 HS
        go_wp2_with fail
        go_ret
        exact ⟨by rw [HR3.out]; rfl, by rw [HR3.out]; exact HO2.out⟩
      · have HR3 : Hid (R = (0, s1.settle F ((s1.bytes F).extract 0 n.toNat))) := by show _ = _; rw [HR2.out, if_neg (by omega)]
        have HBY := Lib.hid (bytesP ho2.at_ F hF)
        have hbl := ho2.at_.ok.bytes_le F
        have HO2 := Lib.hid ho2
        have HBL := Lib.hid hbl
        rw [show BytPost w2 s1 F = fun e w' => e = .returned (.string (s1.bytes F)) ∧ Below w2.heap.size w2 w' from rfl] at HBY
        generalize s1.bytes F = b at *
        have hzb := HZ.out
        have q1 : (0 : Int) ≤ n := by omega
        have q2 : n ≤ (b.size : Int) := by omega
        clear HR2 ho2 hb2 HS hbl hzb
        go_wp2_with fail
        refine HBY.out.mono ?_; rintro e w3 ⟨rfl, hb3⟩
        have ho3 := HO2.out.below hb3
        have HS3 := Lib.hid (settleP ho3.at_ F hF (b.extract 0 n.toNat) (by have := HBL.out; simp; omega))
        have HO3 := Lib.hid ho3
        clear ho3 hb3 HBY
        go_wp2_with fail
        refine HS3.out.mono ?_; rintro e w4 ⟨rfl, ho4⟩
        have HO4 := Lib.hid (HO3.out.trans ho4)
        clear ho4
        go_wp2_with fail
        go_ret
        exact ⟨by rw [HR3.out]; rfl, by rw [HR3.out]; exact HO4.out⟩

theorem chkL_two (s : Dk) (f g : Int) : (s.chkL [f, g] = 10 ∧ s.down = true) ∨ (s.chkL [f, g] = 1 ∧ s.down = false ∧ (isF f = false ∨ isF g = false)) ∨ (s.chkL [f, g] = 0 ∧ s.down = false ∧ isF f = true ∧ isF g = true) := by
  unfold Dk.chkL
  cases hd : s.down <;> cases hf : isF f <;> cases hg : isF g <;> simp [hf, hg]
theorem settle_d (s : Dk) (f g : Nat) (b : ByteArray) (hne : f ≠ g) : (s.settle f b).d g = s.d g := by
  unfold Dk.d Dk.settle
  simp only [List.getD_eq_getElem?_getD]
  rw [List.getElem?_set_ne hne]

set_option maxRecDepth 100000 in
set_option maxHeartbeats 2000000 in
theorem turnP {B : Nat → Prop} {w : World} {db : Nat} {s : Dk} (h : DiskAt B w db s) (f g : Int) :
    Calls Try.prog 54 #[.pointer (some ⟨db, 0, none⟩), .int .i64 f, .int .i64 g] w fun e w' => e = .returned (.int .i64 (s.turn f g).1) ∧ Op B w w' db (s.turn f g).2 := by
  have hb0 := below_new w (.cells #[.int .i64 f, .int .i64 g] 3)
  have HE := Lib.hid (enterP (h.tight.below hb0) (.slice (some ⟨w.heap.size, 0, none⟩) 2 2) [f, g] (irow_new2 w f g) (fun k hk => by simp [Value.ownBlock] at hk; omega) (by simp))
  have HB0 := Lib.hid hb0
  have HR : Hid (s.turn f g = s.enter.turn0 f g) := rfl
  generalize s.turn f g = R at *
  generalize s.enter = s1 at *
  have HR2 : Hid (R = if s1.down = true then (10, s1) else if isF f = false ∨ isF g = false then (1, s1) else if f = g then (1, s1) else if s1.pending g.toNat = true then (11, s1) else (0, (s1.settle f.toNat (s1.d g.toNat)).settle g.toNat (bs []))) := HR.out
  have hcs := chkL_two s1 f g
  clear HR h hb0
  rcases hcs with ⟨hc, hdn⟩ | ⟨hc, hdn, hfg⟩ | ⟨hc, hdn, hf, hg⟩
  · rw [hc] at HE
    have HR3 : Hid (R = (10, s1)) := by show _ = _; rw [HR2.out, if_pos hdn]
    clear hc HR2 hdn
    go_enter Try.func54, Try.ntmps54
    go_wp2_with fail
    refine HE.out.mono ?_; rintro e w1 ⟨rfl, ho⟩
    have HO := Lib.hid (Op.pre HB0.out ho).loose
    clear ho
    go_wp2_with fail
    go_ret
    exact ⟨by rw [HR3.out]; rfl, by rw [HR3.out]; exact HO.out⟩
  · rw [hc] at HE
    have HR3 : Hid (R = (1, s1)) := by show _ = _; rw [HR2.out, hdn, if_neg (by simp), if_pos hfg]
    clear hc HR2 hdn hfg
    go_enter Try.func54, Try.ntmps54
    go_wp2_with fail
    refine HE.out.mono ?_; rintro e w1 ⟨rfl, ho⟩
    have HO := Lib.hid (Op.pre HB0.out ho).loose
    clear ho
    go_wp2_with fail
    go_ret
    exact ⟨by rw [HR3.out]; rfl, by rw [HR3.out]; exact HO.out⟩
  · rw [hc] at HE
    rw [hdn, if_neg (by simp), if_neg (by rw [hf, hg]; simp)] at HR2
    have hf' : 0 ≤ f ∧ f < 8 := by simpa [isF] using hf
    have hg' : 0 ≤ g ∧ g < 8 := by simpa [isF] using hg
    obtain ⟨F, rfl⟩ : ∃ F : Nat, f = F := ⟨f.toNat, by omega⟩
    obtain ⟨G, rfl⟩ : ∃ G : Nat, g = G := ⟨g.toNat, by omega⟩
    have hF : F < 8 := by omega
    have hG : G < 8 := by omega
    rw [show ((F : Int)).toNat = F by omega, show ((G : Int)).toNat = G by omega] at HR2
    clear hc hdn hf hg hf' hg'
    by_cases hfg : F = G
    · subst hfg
      have HR3 : Hid (R = (1, s1)) := by show _ = _; rw [HR2.out, if_pos rfl]
      clear HR2
      go_enter Try.func54, Try.ntmps54
      go_wp2_with fail
      refine HE.out.mono ?_; rintro e w1 ⟨rfl, ho⟩
      have HO := Lib.hid (Op.pre HB0.out ho).loose
      clear ho
      go_wp2_with fail
      go_ret
      exact ⟨by rw [HR3.out]; rfl, by rw [HR3.out]; exact HO.out⟩
    · have hne : ¬ (F : Int) = (G : Int) := by omega
      have hne2 : ((F : Int) == (G : Int)) = false := by simp; omega
      rw [if_neg hne] at HR2
      go_enter Try.func54, Try.ntmps54
      go_wp2_with fail
      refine HE.out.mono ?_; rintro e w1 ⟨rfl, ho⟩
      have ho1 := (Op.pre HB0.out ho).loose
      have HP := Lib.hid (isPendingP ho1.at_ G)
      have HO := Lib.hid ho1
      clear ho ho1 HE
      rcases hp : s1.pending G
      · rw [hp] at HP
        have HR3 : Hid (R = (0, (s1.settle F (s1.d G)).settle G (bs []))) := by show _ = _; rw [HR2.out, hp, if_neg (by simp)]
        clear HR2 hp
        go_wp2_with fail
        refine HP.out.mono ?_; rintro e w2 ⟨rfl, hb2⟩
        have ho2 := HO.out.below hb2
        have cg := ho2.at_.cells.2.2.2.1 G hG
        have q1 : (0 : Int) ≤ (G : Int) := by omega
        have q2 : (G : Int) < 8 := by omega
        have HS := Lib.hid (settleP ho2.at_ F hF (s1.d G) (ho2.at_.ok.d_le G))
        have HO2 := Lib.hid ho2
        clear hb2 ho2 HP
        go_wp2_with fail
        refine HS.out.mono ?_; rintro e w3 ⟨rfl, ho3⟩
        have ho3' := HO2.out.trans ho3
        have HS2 := Lib.hid (settleP ho3'.at_ G hG (bs []) (by simp [bs_size]))
        rw [show (bs [] : ByteArray) = { data := #[] } from rfl] at HS2
        have HO3 := Lib.hid ho3'
        clear ho3 ho3' HS cg
        go_wp2_with fail
        refine HS2.out.mono ?_; rintro e w4 ⟨rfl, ho4⟩
        have HO4 := Lib.hid (HO3.out.trans ho4)
        clear ho4
        go_wp2_with fail
        go_ret
        exact ⟨by rw [HR3.out]; rfl, by rw [HR3.out]; exact HO4.out⟩
      · rw [hp] at HP
        have HR3 : Hid (R = (11, s1)) := by show _ = _; rw [HR2.out, hp, if_pos rfl]
        clear HR2 hp
        go_wp2_with fail
        refine HP.out.mono ?_; rintro e w2 ⟨rfl, hb2⟩
        have HO2 := Lib.hid (HO.out.below hb2)
        clear hb2
        go_wp2_with fail
        go_ret
        exact ⟨by rw [HR3.out]; rfl, by rw [HR3.out]; exact HO2.out⟩
end Go.Proofs.Ythdmcjiccbgknaa

namespace Go.Proofs.Ythdmcjiccbgknaa
set_option linter.unusedVariables false
set_option linter.unusedSimpArgs false
open Go.RowKit

structure WrAt (B : Nat → Prop) (w : World) (db : Nat) (s : Dk) (F a0 : Nat) (t0 : ByteArray) (a : Nat) (t : ByteArray) (P : List Pc) (wl : World) : Prop where
  op : Op B w wl db { s with pend := P }
  eq : P ++ pcs F t.size a t = s.pend ++ pcs F t0.size a0 t0
  sz : a + t.size = a0 + t0.size
  ln : P.length + t.size ≤ 1000000
def WrRel (B : Nat → Prop) (w : World) (db : Nat) (s : Dk) (F a0 : Nat) (t0 : ByteArray) (x y : Value) (wl : World) : Prop := ∃ (a : Nat) (t : ByteArray) (P : List Pc), x = .int .i64 a ∧ y = .string t ∧ WrAt B w db s F a0 t0 a t P wl
def strSize (v : Value) : Nat := match v with | .string t => t.size | _ => 0
theorem WrAt.next {B : Nat → Prop} {w : World} {db : Nat} {s : Dk} {F a0 : Nat} {t0 : ByteArray} {a : Nat} {t : ByteArray} {P : List Pc} {wl : World} (h : WrAt B w db s F a0 t0 a t P wl) (h0 : 0 < t.size) (n : Nat) (hn : n = min t.size (32 - a % 32)) (w2 : World)
    (ho : Op B w w2 db { s with pend := P ++ [⟨F, a, t.extract 0 n⟩] }) : WrAt B w db s F a0 t0 (a + n) (t.extract n t.size) (P ++ [⟨F, a, t.extract 0 n⟩]) w2 := by
  have h1 := h.sz
  have h2 := h.ln
  refine ⟨ho, ?_, ?_, ?_⟩
  · rw [← h.eq, pcs_step F a t h0, ← hn, List.append_assoc]; rfl
  · simp; omega
  · simp; omega

set_option maxRecDepth 100000 in
set_option maxHeartbeats 8000000 in
theorem rawP {B : Nat → Prop} {w : World} {db : Nat} {s : Dk} (h : DiskAt B w db s) (f a : Int) (t : ByteArray) (hn : s.pend.length + t.size ≤ 1000000) :
    Calls Try.prog 69 #[.pointer (some ⟨db, 0, none⟩), .int .i64 f, .int .i64 a, .string t] w fun e w' => e = .returned (.int .i64 (s.raw f a t).1) ∧ Op B w w' db (s.raw f a t).2 := by
  have hb0 := below_new w (.cells #[.int .i64 f] 3)
  have HK := Lib.hid (checkP (h.below hb0) (.slice (some ⟨w.heap.size, 0, none⟩) 1 1) [f] (irow_new1 w f) (by simp))
  rw [chk_one] at HK
  have HR : Hid (s.raw f a t = if s.down = true then (10, s) else if isF f = false then (1, s) else if a < 0 then (1, s) else if 16777216 - (t.size : Int) < a then (7, s) else (0, { s with pend := s.pend ++ pcs f.toNat t.size a.toNat t })) := rfl
  have HO0 : Hid (Op B w (w.alloc (.cells #[.int .i64 f] 3)) db s) := Op.below (Op.refl h) hb0
  generalize s.raw f a t = R at *
  have hcs := chk_cases s f
  have hcd : s.chk f = if s.down = true then 10 else if isF f = false then 1 else 0 := rfl
  clear hb0
  rcases hcs with hc | hc | ⟨hc, hdn, hf0, hf8⟩
  · have HR3 : Hid (R = (10, s)) := by
      show _ = _
      rw [HR.out]
      cases hd : s.down
      · rw [hc, hd] at hcd; cases hf : isF f <;> rw [hf] at hcd <;> simp at hcd
      · rfl
    rw [hc] at HK
    clear hc hcd HR h
    go_enter Try.func69, Try.ntmps69
    go_wp2_with fail
    refine HK.out.mono ?_; rintro e w1 ⟨rfl, rfl⟩
    go_wp2_with fail
    go_ret
    exact ⟨by rw [HR3.out]; rfl, by rw [HR3.out]; exact HO0.out⟩
  · have HR3 : Hid (R = (1, s)) := by
      show _ = _
      rw [HR.out]
      cases hd : s.down
      · cases hf : isF f
        · rfl
        · rw [hc, hd, hf] at hcd; simp at hcd
      · rw [hc, hd] at hcd; simp at hcd
    rw [hc] at HK
    clear hc hcd HR h
    go_enter Try.func69, Try.ntmps69
    go_wp2_with fail
    refine HK.out.mono ?_; rintro e w1 ⟨rfl, rfl⟩
    go_wp2_with fail
    go_ret
    exact ⟨by rw [HR3.out]; rfl, by rw [HR3.out]; exact HO0.out⟩
  · rw [hc] at HK
    rw [hdn, if_neg (by simp), if_neg (by simp [isF, hf0, hf8])] at HR
    clear hc hcd
    obtain ⟨F, rfl⟩ : ∃ F : Nat, f = F := ⟨f.toNat, by omega⟩
    have hF : F < 8 := by omega
    have htz : t.size ≤ 1000000 := by omega
    by_cases ha0 : a < 0
    · have HR3 : Hid (R = (1, s)) := by show _ = _; rw [HR.out, if_pos ha0]
      clear HR h
      go_enter Try.func69, Try.ntmps69
      go_wp2_with fail
      refine HK.out.mono ?_; rintro e w1 ⟨rfl, rfl⟩
      go_wp2_with fail
      go_ret
      exact ⟨by rw [HR3.out]; rfl, by rw [HR3.out]; exact HO0.out⟩
    · rw [if_neg ha0] at HR
      by_cases ha1 : 16777216 - (t.size : Int) < a
      · have HR3 : Hid (R = (7, s)) := by show _ = _; rw [HR.out, if_pos ha1]
        clear HR h
        go_enter Try.func69, Try.ntmps69
        go_wp2_with fail
        refine HK.out.mono ?_; rintro e w1 ⟨rfl, rfl⟩
        go_wp2_with fail
        go_ret
        exact ⟨by rw [HR3.out]; rfl, by rw [HR3.out]; exact HO0.out⟩
      · obtain ⟨a0, rfl⟩ : ∃ a0 : Nat, a = a0 := ⟨a.toNat, by omega⟩
        have HR3 : Hid (R = (0, { s with pend := s.pend ++ pcs F t.size a0 t })) := by
          show _ = _
          rw [HR.out, if_neg ha1, show ((F : Int)).toNat = F by omega, show ((a0 : Int)).toNat = a0 by omega, hdn]
        have hsz : a0 + t.size ≤ 16777216 := by omega
        have HW0 : Hid (WrAt B w db s F a0 t a0 t s.pend (w.alloc (.cells #[.int .i64 (F : Int)] 3))) := ⟨HO0.out, rfl, rfl, hn⟩
        have HOK := Lib.hid h.ok
        have dd1 : decide ((a0 : Int) < 0) = false := by rw [decide_eq_false_iff_not]; omega
        have dd2 : decide (16777216 - (t.size : Int) < (a0 : Int)) = false := by rw [decide_eq_false_iff_not]; omega
        clear HR h
        go_enter Try.func69, Try.ntmps69
        go_wp2_with fail
        refine HK.out.mono ?_; rintro e w1 ⟨rfl, rfl⟩
        clear HK
        go_wp2_with fail
        go_loopw [2, 3, 10] (fun x y _ wl => WrRel B w db s F a0 t x y wl) (fun _ y _ _ => strSize y)
        case atStart => exact ⟨a0, t, s.pend, rfl, rfl, HW0.out⟩
        case round =>
          obtain ⟨a, u, P, rfl, rfl, hW⟩ := hrel
          have hsz2 := hW.sz
          have hln := hW.ln
          by_cases hu0 : u.size = 0
          · have hu : u = bs [] := by
              rw [← bs_data u]
              congr 1
              exact List.eq_nil_of_length_eq_zero (by rw [dl_len]; omega)
            have e1 : u.toList = [] := by rw [hu, Lib.toList_data]; rfl
            have HF : Hid (Op B w wr db { s with pend := s.pend ++ pcs F t.size a0 t }) := by
              have h1 := hW.eq
              rw [pcs_zero F a u hu0, List.append_nil] at h1
              rw [← h1]; exact Lib.hid hW.op
            clear hW hu
            go_wp2_with fail
            go_ret
            exact ⟨by rw [HR3.out]; rfl, by rw [HR3.out]; exact HF.out⟩
          · have hu1 : 0 < u.size := by omega
            have e1 : ¬ u.toList = [] := fun e => hu0 (by rw [← dl_len, ← Lib.toList_data, e]; rfl)
            have e2 : u.toList.isEmpty = false := by
              cases h : u.toList with
              | nil => exact absurd h e1
              | cons a b => rfl
            have e3 : (!u.toList.isEmpty) = true := by rw [e2]; rfl
            obtain ⟨n, hnn⟩ : ∃ n, n = min u.size (32 - a % 32) := ⟨_, rfl⟩
            have hN : min (u.size : Int) (32 - (a : Int) % 32) = (n : Int) := by omega
            have hn1 : n ≤ u.size := by omega
            have hn2 : 0 < n := by omega
            have HNN := Lib.hid hnn
            have HW := Lib.hid hW
            have HNI := Lib.hid hN
            have a1 : (a : Int) ≤ 16777216 := by omega
            clear hW hnn hN
            go_wp2_with fail
            rw [HNI.out]
            obtain ⟨h0, v, uu, d, hv, huu⟩ := HW.out.op.at_
            have c8 := d.c_tail.1
            have f8 := d.free 8
            obtain ⟨i0, hi, hz0, hz1, hz2⟩ := info_parts infoP
            have c8d : wr.drew.cell? ⟨db, 8, none⟩ = some v := c8
            have c8a : (wr.alloc (.cells #[.int .i64 F, .int .i64 a, .string (u.extract 0 n)] 83)).drew.cell? ⟨db, 8, none⟩ = some v := keep_below (below_new wr _) c8
            have HOW : Hid (OwnP wr v P) := d.own
            have HL1 : Hid (P.length + 1 ≤ maxLen) := Lib.hid (by unfold maxLen; omega)
            have HL2 : Hid ((P.length + 1) * 32 ≤ 140737488355328) := Lib.hid (by omega)
            have HA : Hid (∀ (v' : Value) (w2 : World), w2.ownsRow 0 83 3 v' (P.length + 1) (pc P ++ [.int .i64 F, .int .i64 a, .string (u.extract 0 n)]) → (wr.alloc (.cells #[.int .i64 F, .int .i64 a, .string (u.extract 0 n)] 83)).drew.grownBy w2 v.ownBlock → (v'.ownBlock = v.ownBlock ∨ v'.ownBlock = some (wr.heap.size + 1)) → w2.cell? ⟨db, 8, none⟩ = some v ∧ w2.frozen? ⟨db, 8, none⟩ = false ∧ Op B w (w2.setCell ⟨db, 8, none⟩ v') db { s with pend := P ++ [⟨F, a, u.extract 0 n⟩] }) := fun v' w2 h1 h2 h3 => by
              have hg : wr.grownBy w2 v.ownBlock := grown_trans (grown_below (below_new wr _) _) ⟨h2.os, h2.tape, h2.output, h2.size, h2.block⟩
              have hown : OwnP w2 v' (P ++ [⟨F, a, u.extract 0 n⟩]) := by
                unfold OwnP
                rw [List.length_append, pc_append]; exact h1
              have hbl := hg.block db d.bx.lt (fun e => d.n1 e.symm)
              have hok : Dk.ok { s with pend := P ++ [⟨F, a, u.extract 0 n⟩] } := by
                have hk := d.ok
                refine ⟨hk.dl, hk.ds, fun p hp => ?_, ?_, hk.kn, hk.lo, hk.ca⟩
                · rcases List.mem_append.1 hp with hp | hp
                  · exact hk.ps p hp
                  · rw [List.mem_singleton] at hp
                    subst hp
                    have := HNN.out
                    refine ⟨hF, ?_, ?_, ?_⟩ <;> simp <;> omega
                · simp; omega
              have hbk : ∀ k, v'.ownBlock = some k → v.ownBlock = some k ∨ wr.heap.size ≤ k := fun k hk => by
                rcases h3 with h3 | h3
                · exact .inl (by rw [← h3]; exact hk)
                · rw [h3] at hk; injection hk with hk; exact .inr (by omega)
              have hrp := DAt.repend (s := { s with pend := P }) h0 d hv huu hg hown hbk hok
              refine ⟨?_, ?_, HW.out.op.trans hrp⟩
              · rw [← c8]; unfold World.cell?; rw [hbl]
              · rw [← f8]; unfold World.frozen?; rw [hbl]
            have s1 : (0 : Int) ≤ (n : Int) := by omega
            have s2 : (n : Int) ≤ (u.size : Int) := by omega
            have s3 : ((n : Int)).toNat = n := by omega
            clear d f8
            go_region_law ((refine step_append_lies _ (by rfl) _ _ _ (by rfl) 0 83 i0 (.agg #[.int .i64 0, .int .i64 0, .string (bs [])]) 3 32 Try.underlying66 hi hz0 hz1 hz2 rfl (by omega) _ _ _ (by rfl) ((HOW.out.alloc _).drew) ⟨wr.heap.size, 0, none⟩ 1 1 [.int .i64 F, .int .i64 a, .string (u.extract 0 n)] (by rfl) (by rfl) (World.news_of_block (cs := #[.int .i64 F, .int .i64 a, .string (u.extract 0 n)]) (t := 83) (fr := (0, 0)) (heap_alloc_new wr _)) (by simp [Value.oneCell']) (by omega) HL1.out HL2.out (Nat.zero_le _) (wr.heap.size + 1) (by simp) ?_; intro gg cap3 w3 hown3 hgrow3 hat3 hlt3; obtain ⟨hc3, hf3, hn3⟩ := HA.out _ w3 hown3 hgrow3 (by rcases hat3 with h8 | h8; exact .inl h8.symm; exact .inr (by rw [h8]; rfl)); replace hn3 := Lib.hid hn3; clear hown3 hgrow3 hat3 hlt3))
            all_goals
              have HNX := Lib.hid (HW.out.next hu1 n HNN.out _ hn3.out)
              obtain ⟨W5, hW5⟩ : ∃ W5, w3.setCell ⟨db, 8, none⟩ (.slice (some ⟨gg, 0, none⟩) (P.length + 1) cap3) = W5 := ⟨_, rfl⟩
              rw [hW5] at HNX ⊢
              have HSZ : Hid ((u.extract n u.size).size = u.size - n) := by show _ = _; simp
              clear c8 c8d c8a hc3 hf3 hn3 hW5
              have e5 : IntKind.i64.wrap ((a : Int) + (n : Int)) = (a : Int) + (n : Int) := IntWalk.i64_in _ (by omega)
              go_wp2_with fail
              go_quiet (fail)
              clear e5
              have HNY : Hid (WrAt B w db s F a0 t (a + n) (u.extract n u.size) (P ++ [⟨F, a, u.extract 0 n⟩]) (W5.drewN nq)) := ⟨HNX.out.op.below (below_drewN _ _), HNX.out.eq, HNX.out.sz, HNX.out.ln⟩
              go_wp2_with fail
              go_roundw
              case rel => exact ⟨a + n, u.extract n u.size, _, by go_num, rfl, HNY.out⟩
              case measure => simp only [strSize]; rw [HSZ.out]; omega
end Go.Proofs.Ythdmcjiccbgknaa

namespace Go.Proofs.Ythdmcjiccbgknaa
set_option linter.unusedVariables false
set_option linter.unusedSimpArgs false
open Go.RowKit

theorem raw_keep (s : Dk) (f a : Int) (t : ByteArray) : (s.raw f a t).2.keep = s.keep := by
  unfold Dk.raw
  split
  · rfl
  split
  · rfl
  split
  · rfl
  split <;> rfl
theorem tick_keep (s : Dk) : s.tick.keep = s.keep := by unfold Dk.tick; split <;> rfl

set_option maxRecDepth 100000 in
set_option maxHeartbeats 2000000 in
theorem writeP {B : Nat → Prop} {w : World} {db : Nat} {s : Dk} (h : DiskAt B w db s) (f a : Int) (t : ByteArray) (hn : s.pend.length + t.size ≤ 1000000) :
    Calls Try.prog 34 #[.pointer (some ⟨db, 0, none⟩), .int .i64 f, .int .i64 a, .string t] w fun e w' => e = .returned (.int .i64 (s.write f a t).1) ∧ Op B w w' db (s.write f a t).2 := by
  have HC := Lib.hid (countP h)
  have HR : Hid (s.write f a t = if s.due = true then (10, (s.tick.raw f a t).2.crash s.keep) else s.tick.raw f a t) := rfl
  have HKE : Hid ((s.tick.raw f a t).2.keep = s.keep) := by rw [raw_keep, tick_keep]; exact Lib.hid rfl
  have HKN := Lib.hid h.ok.kn
  have hn2 : s.tick.pend.length + t.size ≤ 1000000 := by rw [Dk.tick_pend]; exact hn
  generalize s.write f a t = R at *
  clear h hn
  rcases hd : s.due
  · rw [hd] at HC
    have HR2 : Hid (R = s.tick.raw f a t) := by show _ = _; rw [HR.out, hd, if_neg (by simp)]
    clear hd HR
    go_enter Try.func34, Try.ntmps34
    go_wp2_with fail
    refine HC.out.mono ?_; rintro e w1 ⟨rfl, ho⟩
    have HW := Lib.hid (rawP ho.at_ f a t hn2)
    have HO := Lib.hid ho
    clear ho HC
    go_wp2_with fail
    refine HW.out.mono ?_; rintro e w2 ⟨rfl, ho2⟩
    have HO2 := Lib.hid (HO.out.trans ho2)
    rw [← HR2.out] at HO2 ⊢
    clear ho2
    go_wp2_with fail
    go_ret
    exact ⟨rfl, HO2.out⟩
  · rw [hd] at HC
    have HR2 : Hid (R = (10, (s.tick.raw f a t).2.crash s.keep)) := by show _ = _; rw [HR.out, hd, if_pos rfl]
    clear hd HR
    go_enter Try.func34, Try.ntmps34
    go_wp2_with fail
    refine HC.out.mono ?_; rintro e w1 ⟨rfl, ho⟩
    have HW := Lib.hid (rawP ho.at_ f a t hn2)
    have HO := Lib.hid ho
    clear ho HC
    go_wp2_with fail
    refine HW.out.mono ?_; rintro e w2 ⟨rfl, ho2⟩
    have ho3 := HO.out.trans ho2
    obtain ⟨h0, v, u, d, _, _⟩ := ho3.at_
    have c12 := d.c_tail.2.2.2.2
    have hkr := d.kp
    rw [HKE.out] at hkr
    have HCR := Lib.hid (crashP ho3.at_ u s.keep hkr (Nat.le_trans HKN.out (by decide)))
    have HO3 := Lib.hid ho3
    clear ho2 ho3 d hkr
    go_wp2_with fail
    refine HCR.out.mono ?_; rintro e w4 ⟨rfl, ho4⟩
    have HO4 := Lib.hid (HO3.out.trans ho4)
    clear ho4
    go_wp2_with fail
    go_ret
    exact ⟨by rw [HR2.out]; rfl, by rw [HR2.out]; exact HO4.out⟩

/-- A new disk. -/
def NewPost (s : Dk) (w : World) (e : Ending) (w' : World) : Prop := ∃ c, e = .returned (.pointer (some ⟨c, 0, none⟩)) ∧ w.heap.size ≤ c ∧ DiskAt (fun k => w.heap.size ≤ k ∧ k < w'.heap.size) w' c s ∧ Below w.heap.size w w'
def zcells : Array Value := #[.string { data := #[] }, .string { data := #[] }, .string { data := #[] }, .string { data := #[] }, .string { data := #[] }, .string { data := #[] }, .string { data := #[] }, .string { data := #[] }, .slice none 0 0, .bool false, .int .i64 0, .int .i64 0, .slice none 0 0]
theorem zcells_eq : dcells dk0 (.slice none 0 0) (.slice none 0 0) = zcells := rfl
set_option maxRecDepth 100000 in
set_option maxHeartbeats 2000000 in
theorem newP (w : World) : Calls Try.prog 10 #[] w (NewPost dk0 w) := by
  have HF : Hid (NewPost dk0 w (.returned (.pointer (some ⟨w.heap.size, 0, none⟩))) (w.alloc (.cells zcells 68))) := by
    refine ⟨_, rfl, Nat.le_refl _, ⟨⟨Nat.le_refl _, by simp⟩, .slice none 0 0, .slice none 0 0, ⟨?_, OwnP.nil _, irow_nil _ _, (by simp [Value.ownBlock]), (by simp [Value.ownBlock]), (fun k hk => by simp [Value.ownBlock] at hk), (fun k hk => by simp [Value.ownBlock] at hk), dk0_ok⟩, (fun k hk => by simp [Value.ownBlock] at hk), (fun k hk => by simp [Value.ownBlock] at hk)⟩, below_new _ _⟩
    rw [zcells_eq]; exact Blk.new _ _ _
  unfold zcells at HF
  go_enter Try.func10, Try.ntmps10
  go_wp2_with fail
  go_ret
  exact HF.out

end Go.Proofs.Ythdmcjiccbgknaa
