/-
  Layer 6: Cut, Turn.
-/
import Derived.Test.YtlphblnnloigiaaDf9
namespace Go.Proofs.Ytlphblnnloigiaa
set_option linter.unusedVariables false
set_option linter.unusedSimpArgs false
open Go.RowKit

set_option maxRecDepth 100000 in
set_option maxHeartbeats 2000000 in
theorem cutPP {B : Nat → Prop} {w : World} {db : Nat} {s : Dk} (h : DiskAt B w db s) (f n : Int) :
    Calls Try.prog 21 #[.pointer (some ⟨db, 0, none⟩), .int .i64 f, .int .i64 n] w fun e w' => e = .returned (.int .i64 (s.cut f n).1) ∧ Op B w w' db (s.cut f n).2 := by
  have hb0 := below_new w (.cells #[.int .i64 f] 3)
  have HE := Lib.hid (enterP (h.tight.below hb0) (.slice (some ⟨w.heap.size, 0, none⟩) 1 1) [f] (irow_new1 w f) (fun k hk => by simp [Value.ownBlock] at hk; omega) (by simp))
  rw [chk_one] at HE
  have HB0 := Lib.hid hb0
  have HR : Hid (s.cut f n = s.enter.cut0 f n) := rfl
  generalize s.cut f n = R at *
  generalize s.enter = s1 at *
  have HR2 : Hid (R = if s1.chk f ≠ 0 then (s1.chk f, s1) else if n < 0 ∨ ((s1.bytes f.toNat).size : Int) < n then (1, s1) else (0, s1.settle f.toNat ((s1.bytes f.toNat).extract 0 n.toNat))) := HR.out
  have hcs := chk_cases s1 f
  clear HR h hb0
  rcases hcs with hc | hc | ⟨hc, hdn, hf0, hf8⟩
  · rw [hc] at HE HR2
    clear hc
    go_enter Try.func21, Try.ntmps21
    go_wp2_with fail
    refine HE.out.mono ?_; rintro e w1 ⟨rfl, ho⟩
    have HO := Lib.hid (Op.pre HB0.out ho).loose
    clear ho
    go_wp2_with fail
    go_ret
    exact ⟨by rw [HR2.out]; rfl, by rw [HR2.out]; exact HO.out⟩
  · rw [hc] at HE HR2
    clear hc
    go_enter Try.func21, Try.ntmps21
    go_wp2_with fail
    refine HE.out.mono ?_; rintro e w1 ⟨rfl, ho⟩
    have HO := Lib.hid (Op.pre HB0.out ho).loose
    clear ho
    go_wp2_with fail
    go_ret
    exact ⟨by rw [HR2.out]; rfl, by rw [HR2.out]; exact HO.out⟩
  · rw [hc] at HE HR2
    obtain ⟨F, rfl⟩ : ∃ F : Nat, f = F := ⟨f.toNat, by omega⟩
    have hF : F < 8 := by omega
    rw [if_neg (by simp), show ((F : Int)).toNat = F by omega] at HR2
    clear hc
    by_cases hn0 : n < 0
    · have HR3 : Hid (R = (1, s1)) := by show _ = _; rw [HR2.out, if_pos (.inl hn0)]
      have d0 : decide (n < 0) = true := decide_eq_true hn0
      clear HR2
      go_enter Try.func21, Try.ntmps21
      go_wp2_with fail
      refine HE.out.mono ?_; rintro e w1 ⟨rfl, ho⟩
      have HO := Lib.hid (Op.pre HB0.out ho).loose
      clear ho
      go_wp2_with fail
      go_ret
      exact ⟨by rw [HR3.out]; rfl, by rw [HR3.out]; exact HO.out⟩
    · have d0 : decide (n < 0) = false := decide_eq_false hn0
      have hsz : s1.size F = (s1.bytes F).size := by unfold Dk.size; rw [if_pos (by omega)]; rfl
      obtain ⟨z, hz⟩ : ∃ z, (s1.bytes F).size = z := ⟨_, rfl⟩
      rw [hz] at HR2 hsz
      have HSZ := Lib.hid hsz
      have HZ := Lib.hid hz
      clear hsz hz
      go_enter Try.func21, Try.ntmps21
      go_wp2_with fail
      refine HE.out.mono ?_; rintro e w1 ⟨rfl, ho⟩
      have ho1 := (Op.pre HB0.out ho).loose
      have HS := Lib.hid (sizeP ho1.at_ F)
      rw [HSZ.out] at HS
      have HO := Lib.hid ho1
      clear ho ho1 HE
      go_wp2_with fail
      refine HS.out.mono ?_; rintro e w2 ⟨rfl, hb2⟩
      have ho2 := HO.out.below hb2
      by_cases hn1 : (z : Int) < n
      · have HR3 : Hid (R = (1, s1)) := by show _ = _; rw [HR2.out, if_pos (.inr hn1)]
        have HO2 := Lib.hid ho2
        clear HR2 ho2 hb2 HS
        go_wp2_with fail
        go_ret
        exact ⟨by rw [HR3.out]; rfl, by rw [HR3.out]; exact HO2.out⟩
      · have HR3 : Hid (R = (0, s1.settle F ((s1.bytes F).extract 0 n.toNat))) := by show _ = _; rw [HR2.out, if_neg (by omega)]
        have HBY := Lib.hid (bytesP ho2.at_ F hF)
        have hbl := ho2.at_.ok.bytes_le F
        have HO2 := Lib.hid ho2
        have HBL := Lib.hid hbl
        rw [show BytPost w2 s1 F = fun e w' => e = .returned (.string (s1.bytes F)) ∧ Below w2.heap.size w2 w' from rfl] at HBY
        generalize s1.bytes F = b at *
        have hzb := HZ.out
        have q1 : (0 : Int) ≤ n := by omega
        have q2 : n ≤ (b.size : Int) := by omega
        clear HR2 ho2 hb2 HS hbl hzb
        go_wp2_with fail
        refine HBY.out.mono ?_; rintro e w3 ⟨rfl, hb3⟩
        have ho3 := HO2.out.below hb3
        have HS3 := Lib.hid (settleP ho3.at_ F hF (b.extract 0 n.toNat) (by have := HBL.out; simp; omega))
        have HO3 := Lib.hid ho3
        clear ho3 hb3 HBY
        go_wp2_with fail
        refine HS3.out.mono ?_; rintro e w4 ⟨rfl, ho4⟩
        have HO4 := Lib.hid (HO3.out.trans ho4)
        clear ho4
        go_wp2_with fail
        go_ret
        exact ⟨by rw [HR3.out]; rfl, by rw [HR3.out]; exact HO4.out⟩

theorem chkL_two (s : Dk) (f g : Int) : (s.chkL [f, g] = 10 ∧ s.down = true) ∨ (s.chkL [f, g] = 1 ∧ s.down = false ∧ (isF f = false ∨ isF g = false)) ∨ (s.chkL [f, g] = 0 ∧ s.down = false ∧ isF f = true ∧ isF g = true) := by
  unfold Dk.chkL
  cases hd : s.down <;> cases hf : isF f <;> cases hg : isF g <;> simp [hf, hg]
theorem settle_d (s : Dk) (f g : Nat) (b : ByteArray) (hne : f ≠ g) : (s.settle f b).d g = s.d g := by
  unfold Dk.d Dk.settle
  simp only [List.getD_eq_getElem?_getD]
  rw [List.getElem?_set_ne hne]

set_option maxRecDepth 100000 in
set_option maxHeartbeats 2000000 in
theorem turnP {B : Nat → Prop} {w : World} {db : Nat} {s : Dk} (h : DiskAt B w db s) (f g : Int) :
    Calls Try.prog 20 #[.pointer (some ⟨db, 0, none⟩), .int .i64 f, .int .i64 g] w fun e w' => e = .returned (.int .i64 (s.turn f g).1) ∧ Op B w w' db (s.turn f g).2 := by
  have hb0 := below_new w (.cells #[.int .i64 f, .int .i64 g] 3)
  have HE := Lib.hid (enterP (h.tight.below hb0) (.slice (some ⟨w.heap.size, 0, none⟩) 2 2) [f, g] (irow_new2 w f g) (fun k hk => by simp [Value.ownBlock] at hk; omega) (by simp))
  have HB0 := Lib.hid hb0
  have HR : Hid (s.turn f g = s.enter.turn0 f g) := rfl
  generalize s.turn f g = R at *
  generalize s.enter = s1 at *
  have HR2 : Hid (R = if s1.down = true then (10, s1) else if isF f = false ∨ isF g = false then (1, s1) else if f = g then (1, s1) else if s1.pending g.toNat = true then (11, s1) else (0, (s1.settle f.toNat (s1.d g.toNat)).settle g.toNat (bs []))) := HR.out
  have hcs := chkL_two s1 f g
  clear HR h hb0
  rcases hcs with ⟨hc, hdn⟩ | ⟨hc, hdn, hfg⟩ | ⟨hc, hdn, hf, hg⟩
  · rw [hc] at HE
    have HR3 : Hid (R = (10, s1)) := by show _ = _; rw [HR2.out, if_pos hdn]
    clear hc HR2 hdn
    go_enter Try.func20, Try.ntmps20
    go_wp2_with fail
    refine HE.out.mono ?_; rintro e w1 ⟨rfl, ho⟩
    have HO := Lib.hid (Op.pre HB0.out ho).loose
    clear ho
    go_wp2_with fail
    go_ret
    exact ⟨by rw [HR3.out]; rfl, by rw [HR3.out]; exact HO.out⟩
  · rw [hc] at HE
    have HR3 : Hid (R = (1, s1)) := by show _ = _; rw [HR2.out, hdn, if_neg (by simp), if_pos hfg]
    clear hc HR2 hdn hfg
    go_enter Try.func20, Try.ntmps20
    go_wp2_with fail
    refine HE.out.mono ?_; rintro e w1 ⟨rfl, ho⟩
    have HO := Lib.hid (Op.pre HB0.out ho).loose
    clear ho
    go_wp2_with fail
    go_ret
    exact ⟨by rw [HR3.out]; rfl, by rw [HR3.out]; exact HO.out⟩
  · rw [hc] at HE
    rw [hdn, if_neg (by simp), if_neg (by rw [hf, hg]; simp)] at HR2
    have hf' : 0 ≤ f ∧ f < 8 := by simpa [isF] using hf
    have hg' : 0 ≤ g ∧ g < 8 := by simpa [isF] using hg
    obtain ⟨F, rfl⟩ : ∃ F : Nat, f = F := ⟨f.toNat, by omega⟩
    obtain ⟨G, rfl⟩ : ∃ G : Nat, g = G := ⟨g.toNat, by omega⟩
    have hF : F < 8 := by omega
    have hG : G < 8 := by omega
    rw [show ((F : Int)).toNat = F by omega, show ((G : Int)).toNat = G by omega] at HR2
    clear hc hdn hf hg hf' hg'
    by_cases hfg : F = G
    · subst hfg
      have HR3 : Hid (R = (1, s1)) := by show _ = _; rw [HR2.out, if_pos rfl]
      clear HR2
      go_enter Try.func20, Try.ntmps20
      go_wp2_with fail
      refine HE.out.mono ?_; rintro e w1 ⟨rfl, ho⟩
      have HO := Lib.hid (Op.pre HB0.out ho).loose
      clear ho
      go_wp2_with fail
      go_ret
      exact ⟨by rw [HR3.out]; rfl, by rw [HR3.out]; exact HO.out⟩
    · have hne : ¬ (F : Int) = (G : Int) := by omega
      have hne2 : ((F : Int) == (G : Int)) = false := by simp; omega
      rw [if_neg hne] at HR2
      go_enter Try.func20, Try.ntmps20
      go_wp2_with fail
      refine HE.out.mono ?_; rintro e w1 ⟨rfl, ho⟩
      have ho1 := (Op.pre HB0.out ho).loose
      have HP := Lib.hid (isPendingP ho1.at_ G)
      have HO := Lib.hid ho1
      clear ho ho1 HE
      rcases hp : s1.pending G
      · rw [hp] at HP
        have HR3 : Hid (R = (0, (s1.settle F (s1.d G)).settle G (bs []))) := by show _ = _; rw [HR2.out, hp, if_neg (by simp)]
        clear HR2 hp
        go_wp2_with fail
        refine HP.out.mono ?_; rintro e w2 ⟨rfl, hb2⟩
        have ho2 := HO.out.below hb2
        have cg := ho2.at_.cells.2.2.2.1 G hG
        have q1 : (0 : Int) ≤ (G : Int) := by omega
        have q2 : (G : Int) < 8 := by omega
        have HS := Lib.hid (settleP ho2.at_ F hF (s1.d G) (ho2.at_.ok.d_le G))
        have HO2 := Lib.hid ho2
        clear hb2 ho2 HP
        go_wp2_with fail
        refine HS.out.mono ?_; rintro e w3 ⟨rfl, ho3⟩
        have ho3' := HO2.out.trans ho3
        have HS2 := Lib.hid (settleP ho3'.at_ G hG (bs []) (by simp [bs_size]))
        rw [show (bs [] : ByteArray) = { data := #[] } from rfl] at HS2
        have HO3 := Lib.hid ho3'
        clear ho3 ho3' HS cg
        go_wp2_with fail
        refine HS2.out.mono ?_; rintro e w4 ⟨rfl, ho4⟩
        have HO4 := Lib.hid (HO3.out.trans ho4)
        clear ho4
        go_wp2_with fail
        go_ret
        exact ⟨by rw [HR3.out]; rfl, by rw [HR3.out]; exact HO4.out⟩
      · rw [hp] at HP
        have HR3 : Hid (R = (11, s1)) := by show _ = _; rw [HR2.out, hp, if_pos rfl]
        clear HR2 hp
        go_wp2_with fail
        refine HP.out.mono ?_; rintro e w2 ⟨rfl, hb2⟩
        have HO2 := Lib.hid (HO.out.below hb2)
        clear hb2
        go_wp2_with fail
        go_ret
        exact ⟨by rw [HR3.out]; rfl, by rw [HR3.out]; exact HO2.out⟩
end Go.Proofs.Ytlphblnnloigiaa
