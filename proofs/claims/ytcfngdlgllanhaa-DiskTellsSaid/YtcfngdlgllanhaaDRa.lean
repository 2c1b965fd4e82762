/-
  The reference of layer 6: add.
-/
import Derived.Test.YtcfngdlgllanhaaDRc
namespace Go.Proofs.Ytcfngdlgllanhaa
set_option linter.unusedVariables false
set_option linter.unusedSimpArgs false
open Go.RowKit

theorem ext_ext (t : ByteArray) (i n k : Nat) (hn : i + n ≤ k) : (t.extract i k).extract 0 n = t.extract i (i + n) := by
  apply ByteArray.ext
  simp only [ByteArray.data_extract, Array.extract_extract]
  congr 1
  omega
theorem ext_ext2 (t : ByteArray) (i n : Nat) : (t.extract i t.size).extract n (t.extract i t.size).size = t.extract (i + n) t.size := by
  apply ByteArray.ext
  simp only [ByteArray.data_extract, Array.extract_extract]
  simp
  congr 1
  omega
theorem ext_snoc (t : ByteArray) (j k : Nat) (hj : j ≤ k) (hk : k < t.size) : t.extract j k ++ t.extract k (k + 1) = t.extract j (k + 1) := by
  apply ByteArray.ext
  simp only [ByteArray.data_append, ByteArray.data_extract]
  rw [Array.extract_append_extract]
  congr 1 <;> omega
theorem grown_alloc {w w3 : World} {o : Obj} {r : Option Nat} (h : (w.alloc o).grownBy w3 r) : w.grownBy w3 r :=
  ⟨h.os, h.tape, h.output, Nat.le_trans (by simp) h.size, fun k hk hne => (h.block k (by simp; omega) hne).trans (heap_alloc_old w o hk)⟩
/-- The pending writes that are left behind the first j bytes. -/
def restP (F a : Nat) (t : ByteArray) (j : Nat) : List Pc := pcs F (t.extract j t.size).size (a + j) (t.extract j t.size)
theorem restP_zero (F a : Nat) (t : ByteArray) : restP F a t 0 = pcs F t.size a t := by
  unfold restP
  have e : t.extract 0 t.size = t := by apply ByteArray.ext; simp
  rw [e]; rfl
theorem restP_end (F a : Nat) (t : ByteArray) : restP F a t t.size = [] := by
  unfold restP
  exact pcs_zero _ _ _ (by simp)
theorem restP_step (F a : Nat) (t : ByteArray) (j n : Nat) (hj : j < t.size) (hn : n = min (t.size - j) (32 - (a + j) % 32)) : restP F a t j = ⟨F, a + j, t.extract j (j + n)⟩ :: restP F a t (j + n) := by
  have hs : (t.extract j t.size).size = t.size - j := by simp
  unfold restP
  rw [pcs_step F (a + j) (t.extract j t.size) (by rw [hs]; omega), hs, ← hn, ext_ext t j n t.size (by omega)]
  have e := ext_ext2 t j n
  rw [hs] at e
  rw [e, Nat.add_assoc]
def AddR (B : Nat → Prop) (s : Dk) (F a : Nat) (t : ByteArray) (db : Nat) (w : World) (x fr i : Value) (wl : World) : Prop := ∃ (k j : Nat) (done : List Pc), i = .int .i64 k ∧ k ≤ t.size ∧ j ≤ k ∧ x = .string (t.extract j k) ∧ fr = .int .i64 ((a + j : Nat) : Int) ∧ done ++ restP F a t j = pcs F t.size a t ∧ (j < k → k - j < min (t.size - j) (32 - (a + j) % 32)) ∧ ROp B w wl db { s with pend := s.pend ++ done }
def AddPost (B : Nat → Prop) (w : World) (db : Nat) (s : Dk) (e : Ending) (w' : World) : Prop := e = .returned (.tuple #[]) ∧ ROp B w w' db s
set_option maxRecDepth 100000 in
set_option maxHeartbeats 8000000 in
theorem addR {B : Nat → Prop} {w : World} {db : Nat} {s : Dk} (h : RefAt B w db s) (F : Nat) (hF : F < 8) (a : Nat) (t : ByteArray) (hat : a + t.size ≤ 16777216) (hn : s.pend.length + t.size ≤ 1000000) :
    Calls Try.prog 55 #[.pointer (some ⟨db, 0, none⟩), .int .i64 F, .int .i64 a, .string t] w (AddPost B w db { s with pend := s.pend ++ pcs F t.size a t }) := by
  have hpl := pcs_length F t.size a t
  have HOK : Hid (∀ done r, done ++ r = pcs F t.size a t → Dk.ok { s with pend := s.pend ++ done }) := Lib.hid (fun done r hd => by
    have ho := h.ok
    refine ⟨ho.dl, ho.ds, fun p hp => ?_, ?_, ho.kn, ho.lo, ho.ca⟩
    · rcases List.mem_append.1 hp with hp | hp
      · exact ho.ps p hp
      · have := pcs_ok F t.size a t p (by rw [← hd]; exact List.mem_append_left _ hp)
        exact ⟨by omega, by omega, this.2.2.2.1, this.2.2.2.2⟩
    · have := congrArg List.length hd
      rw [List.length_append] at this
      rw [List.length_append]; omega)
  have HR0 := Lib.hid (restP_zero F a t)
  have H0 : Hid (ROp B w w db { s with pend := s.pend ++ [] }) := Lib.hid (by rw [List.append_nil]; exact ROp.refl h)
  have HE0 : Hid (t.extract 0 0 = { data := #[] }) := Lib.hid (by apply ByteArray.ext; simp)
  have hts : (t.size : Int) ≤ 16777216 := by omega
  clear h
  go_enter Try.func55, Try.ntmps55
  go_wp2_with fail
  go_loopw [8, 9, 10] (fun x fr i wl => AddR B s F a t db w x fr i wl) (fun _ _ i _ => t.size - (intOf i).toNat)
  case atStart => exact ⟨0, 0, [], rfl, Nat.zero_le _, Nat.le_refl _, by rw [HE0.out], rfl, by rw [List.nil_append]; exact HR0.out, fun h => by omega, H0.out⟩
  case round =>
    clear H0 HE0 HR0
    obtain ⟨k, j, done, rfl, hk, hjk, rfl, rfl, hdn, hpart, hop⟩ := hrel
    have HDN := Lib.hid hdn
    have HOP := Lib.hid hop
    by_cases hlt : k < t.size
    · have q1 : (k : Int) < t.size := by omega
      have q0 : (0 : Int) ≤ (k : Int) := by omega
      have q3 : (k : Int) + 1 ≤ t.size := by omega
      have q4 : (k : Int) ≤ (k : Int) + 1 := by omega
      have q5 : ((k : Int) + 1).toNat = k + 1 := by omega
      have hsn := ext_snoc t j k hjk hlt
      have hadd := fun w => run_string_add_sum (P := Try.prog) (w := w) (t.extract j k) (t.extract k (k + 1)) (by simp; omega)
      rw [hsn] at hadd
      have hmod : ((a : Int) + (k : Int) + 1).tmod 32 = (((a + k + 1) % 32 : Nat) : Int) := by
        rw [Int.tmod_eq_emod_of_nonneg (by omega)]; omega
      obtain ⟨R, hR⟩ : ∃ R, (a + k + 1) % 32 = R := ⟨_, rfl⟩
      have hmod2 : ((a : Int) + ((k : Int) + 1)) % 32 = (((a + k + 1) % 32 : Nat) : Int) := by omega
      have hmod3 : ((a : Int) + ((k : Int) + 1)).tmod 32 = (((a + k + 1) % 32 : Nat) : Int) := by
        rw [Int.tmod_eq_emod_of_nonneg (by omega)]; omega
      rw [hR] at hmod hmod2 hmod3
      have hR32 : R < 32 := by omega
      have hw1 : IntKind.i64.wrap ((R : Nat) : Int) = (R : Int) := IntWalk.i64_in _ (by omega)
      obtain ⟨lv, qv, kv, h, hb⟩ := hop.at_
      obtain ⟨_, c1, _, _, _, _, fz⟩ := h.cells
      have f1 := fz 1
      obtain ⟨aj, haj⟩ : ∃ aj, a + j = aj := ⟨_, rfl⟩
      rw [haj] at hpart ⊢
      have hkk : ((a : Int) + (k : Int) + 1) = ((a + (k + 1) : Nat) : Int) := by omega
      by_cases hend : R = 0 ∨ k + 1 = t.size
      · have hnn : k + 1 - j = min (t.size - j) (32 - (a + j) % 32) := by
          rw [haj]
          by_cases hj : j < k
          · have := hpart hj; omega
          · omega
        have hst := restP_step F a t j (k + 1 - j) (by omega) hnn
        rw [show j + (k + 1 - j) = k + 1 by omega, haj] at hst
        have HDD : Hid ((done ++ [⟨F, aj, t.extract j (k + 1)⟩]) ++ restP F a t (k + 1) = pcs F t.size a t) := Lib.hid (by rw [← HDN.out, hst]; simp)
        have HEE : Hid (t.extract (k + 1) (k + 1) = { data := #[] }) := Lib.hid (by apply ByteArray.ext; simp)
        obtain ⟨qA, qcap, rfl, _⟩ := own_pcs h.q
        obtain ⟨g', cap', w3, hrun, ho3, hg3, hob⟩ := pushQ wr 0 _ (s.pend ++ done) ⟨F, aj, t.extract j (k + 1)⟩ h.q (Nat.zero_le _) h.ok.pn
        have hg := grown_alloc hg3
        have hblk := (hg.block db h.bx.lt (fun e => own_blk h.q h.bx (by decide) e.symm)).trans h.bx
        have d1 : w3.cell? ⟨db, 1, none⟩ = some (.slice qA (s.pend ++ done).length qcap) := Blk.cell hblk 1
        have d2 : w3.frozen? ⟨db, 1, none⟩ = false := by simp [World.frozen?, hblk]
        have hfi := RAt.field (i := 1) (s' := { s with pend := s.pend ++ (done ++ [⟨F, aj, t.extract j (k + 1)⟩]) }) (x := .slice (some ⟨g', 0, none⟩) ((s.pend ++ done).length + 1) cap') (lv' := lv) (kv' := kv) (qv' := .slice (some ⟨g', 0, none⟩) ((s.pend ++ done).length + 1) cap') h hb hg (own_heap h.lst fun y hy hyl => hg.block y hyl (fun e => own_own h.lst h.q (by decide) y hy e.symm)) (by rw [← List.append_assoc]; exact ho3) (own_heap h.kp fun y hy hyl => hg.block y hyl (fun e => own_own h.kp h.q (by decide) y hy e.symm)) (fun y hy => .inl hy) (fun y hy => by
          simp [Value.ownBlock] at hy
          subst hy
          exact hob) (fun y hy => .inl hy) rfl (HOK.out _ _ HDD.out)
        have HFI := Lib.hid (HOP.out.trans hfi)
        have HRUN := Lib.hid hrun
        obtain ⟨ql, hql⟩ : ∃ n, (s.pend ++ done).length = n := ⟨_, rfl⟩
        rw [hql] at HFI HRUN c1 d1
        have hwk : IntKind.i64.wrap ((a : Int) + (k : Int) + 1) = (a : Int) + (k : Int) + 1 := IntWalk.i64_in _ (by omega)
        clear hst hrun ho3 hg3 hob hg hblk hfi h hb hdn hop hnn hpart HDN fz HOP hsn hR haj hql
        by_cases hr : R = 0
        · subst hr
          have hr0 : (((0 : Nat) : Int) == 0) = true := rfl
          have hm0 : ((a : Int) + ((k : Int) + 1)) % 32 = 0 := by omega
          have hm1 : ((a : Int) + ((k : Int) + 1)).tmod 32 = 0 := hmod3
          clear hend
          go_wp2_with (at_builtin; refine Lib.wpList_append_run_sl _ rfl _ _ 54 rfl _ _ rfl rfl HRUN.out ?_)
          go_roundw
          case rel => exact ⟨k + 1, k + 1, done ++ [⟨F, aj, t.extract j (k + 1)⟩], by go_num, by omega, Nat.le_refl _, by rw [HEE.out], by go_num, HDD.out, fun h => by omega, HFI.out⟩
          case measure => simp [intOf]; omega
        · have hr0 : ((R : Int) == 0) = false := by simp; exact hr
          have hm0 : ¬ ((a : Int) + ((k : Int) + 1)) % 32 = 0 := by omega
          have hke : ((k : Int) == (t.size : Int) - 1) = true := by
            have : k + 1 = t.size := by omega
            simp; omega
          clear hend
          go_wp2_with (at_builtin; refine Lib.wpList_append_run_sl _ rfl _ _ 54 rfl _ _ rfl rfl HRUN.out ?_)
          go_roundw
          case rel => exact ⟨k + 1, k + 1, done ++ [⟨F, aj, t.extract j (k + 1)⟩], by go_num, by omega, Nat.le_refl _, by rw [HEE.out], by go_num, HDD.out, fun h => by omega, HFI.out⟩
          case measure => simp [intOf]; omega
      · have hr0 : ((R : Int) == 0) = false := by simp; omega
        have hm0 : ¬ ((a : Int) + ((k : Int) + 1)) % 32 = 0 := by omega
        have hke2 : ¬ (k : Int) = (t.size : Int) - 1 := by omega
        have hke : ((k : Int) == (t.size : Int) - 1) = false := by simp; omega
        have HP2 : Hid (j < k + 1 → k + 1 - j < min (t.size - j) (32 - (a + j) % 32)) := Lib.hid (fun _ => by
          rw [haj]
          by_cases hj : j < k
          · have := hpart hj; omega
          · omega)
        rw [haj] at HP2
        have HAJ := Lib.hid haj
        clear h hb hdn hop hpart fz hsn hR haj hend c1 f1
        go_wp2_with fail
        go_roundw
        case rel => exact ⟨k + 1, j, done, by go_num, by omega, by omega, rfl, by rw [HAJ.out], HDN.out, by rw [HAJ.out]; exact HP2.out, HOP.out⟩
        case measure => simp [intOf]; omega
    · have hjj : j = t.size := by
        by_cases hj : j < k
        · have := hpart hj; omega
        · omega
      have HF : Hid (AddPost B w db { s with pend := s.pend ++ pcs F t.size a t } (.returned (.tuple #[])) wr) := Lib.hid ⟨rfl, by
        rw [hjj, restP_end, List.append_nil] at hdn
        rw [← hdn]; exact hop⟩
      clear hdn hop
      go_wp2_with fail
      go_end0
      exact HF.out
end Go.Proofs.Ytcfngdlgllanhaa
