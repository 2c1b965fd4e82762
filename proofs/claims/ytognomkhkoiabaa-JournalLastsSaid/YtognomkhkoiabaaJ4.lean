/-
  Package journal: what whole writes into its builder.
-/
import Derived.Test.YtognomkhkoiabaaJ1
import Derived.Test.YtognomkhkoiabaaShelf
import Derived.Lib.Builder
import Derived.Lib.AppendStr
namespace Go.Proofs.Ytognomkhkoiabaa
set_option linter.unusedVariables false
set_option linter.unusedSimpArgs false
open Go.RowKit

theorem infoU8 : (Try.prog.info? 5).map (fun i => (i.zero, i.size, i.bytes)) = some (some (.int .u8 0), 1, 1) := by kernel_rfl

/-- A builder that was grown or written. -/
abbrev BAt (B b : Nat) (L : List UInt8) (w : World) : Prop := Lib.BuilderAt 84 5 B b (.pointer (some ⟨b, 0, none⟩)) (Lib.byteCells L) w

set_option maxRecDepth 100000 in
theorem usedP (b : Nat) (w : World) (h0 : w.cell? ⟨b, 0, none⟩ = some (.pointer (some ⟨b, 0, none⟩))) :
    Calls Try.prog 63 #[.pointer (some ⟨b, 0, none⟩)] w fun e w' => e = .returned (.tuple #[]) ∧ w' = w := by
  obtain ⟨j, hj⟩ : ∃ j, Try.prog.info? 84 = some j := Option.isSome_iff_exists.1 (by kernel_rfl)
  go_enter Try.func63, Try.ntmps63
  go_wp2_with fail
  rw [Lib.run_neq_ptr_same w _ Try.underlying81 hj]
  go_wp2_with fail
  go_end0
  exact ⟨rfl, rfl⟩

set_option maxRecDepth 100000 in
theorem writeStrP (B b : Nat) (L : List UInt8) (s : ByteArray) (w : World) (h : BAt B b L w) (hlen : L.length + s.size ≤ 140737488355328) (hBw : B ≤ w.heap.size) :
    Calls Try.prog 54 #[.pointer (some ⟨b, 0, none⟩), .string s] w fun e w' => e = .returned (.tuple #[.int .i64 s.size, .nilIface]) ∧ BAt B b (L ++ s.data.toList) w' ∧ Below B w w' := by
  obtain ⟨i0, hi, hz0, hz1, hz2⟩ := info_parts infoU8
  have h' := h
  obtain ⟨hB, v, hbk, hown, hne⟩ := h'
  have c0 : w.cell? ⟨b, 0, none⟩ = some (.pointer (some ⟨b, 0, none⟩)) := by rw [Lib.cell_of_heap hbk]; rfl
  have c1 : w.cell? ⟨b, 1, none⟩ = some v := by rw [Lib.cell_of_heap hbk]; rfl
  have hlt : b < w.heap.size := Lib.BuilderAt.lt h
  have HU := Lib.hid (usedP b w c0)
  have HN := Lib.hid hne
  have HO := Lib.hid hown
  have HK := Lib.hid hbk
  have hbl : (Lib.byteCells L).length = L.length := by simp [Lib.byteCells]
  clear h hne hown hbk
  go_enter Try.func54, Try.ntmps54
  go_wp2_with fail
  refine HU.out.mono ?_; rintro e w1 ⟨rfl, rfl⟩
  go_wp2_with (at_builtin; refine Lib.wpList_append_own_string _ rfl _ _ 82 9 rfl B 5 i0 Try.underlying82 Try.underlying9 hi hz0 hz1 hz2 _ _ _ rfl HO.out s rfl ?c3 ?c4 ?c5 ?_)
  case c3 => unfold maxLen; omega
  case c4 => omega
  case c5 => omega
  intro v' w2 hown' hgrow _
  have hb2 : w2.heap[b]? = some (.cells #[.pointer (some ⟨b, 0, none⟩), v] 84 (0, 0)) := by
    rw [hgrow.block b hlt (fun e => HN.out e.symm)]
    exact HK.out
  have d0 : w2.cell? ⟨b, 0, none⟩ = some (.pointer (some ⟨b, 0, none⟩)) := by rw [Lib.cell_of_heap hb2]; rfl
  have d1 : w2.cell? ⟨b, 1, none⟩ = some v := by rw [Lib.cell_of_heap hb2]; rfl
  have f1 : w2.frozen? ⟨b, 1, none⟩ = false := Lib.frozen_of_heap hb2 1
  have H2 := Lib.hid hb2
  have HO2 := Lib.hid hown'
  have HG := Lib.hid hgrow
  obtain ⟨ao, n', cap, rfl⟩ : ∃ ao n' cap, v' = .slice ao n' cap := by
    rcases hown'.2 with ⟨hv, _⟩ | ⟨g, cap, cur, hv, _⟩
    · exact ⟨_, _, _, hv⟩
    · exact ⟨_, _, _, hv⟩
  clear hb2 hown' hgrow
  go_wp2_with fail
  go_ret2
  refine ⟨rfl, ?_, ?_⟩
  · have e : Lib.byteCells (L ++ s.data.toList) = Lib.byteCells L ++ Lib.strCells s := by simp [Lib.byteCells, Lib.strCells]
    rw [BAt, e]
    exact Lib.BuilderAt.put (T := 84) (e := 5) hB H2.out (bs' := Lib.byteCells L ++ Lib.strCells s) (by simpa [Lib.strCells_length, Lib.byteCells_length] using HO2.out) (by decide)
  · exact (((Below.refl B _).grown HG.out hBw (fun k hk => (World.ownsRow.lt HO.out k hk).1))).setCell (p := ⟨b, 1, none⟩) hB _

def flat (l : List ByteArray) : List UInt8 := l.flatMap fun s => (frm s).data.toList
theorem flat_snoc (l : List ByteArray) (k : Nat) (h : k < l.length) : flat (l.take (k + 1)) = flat (l.take k) ++ (frm l[k]).data.toList := by
  unfold flat
  rw [List.take_succ_eq_append_getElem h, List.flatMap_append]
  simp
theorem flat_length : ∀ (l : List ByteArray), 16 + (flat l).length = ext l
  | [] => rfl
  | a :: l => by
    have := flat_length l
    unfold flat ext at *
    simp only [List.flatMap_cons, List.length_append, List.map_cons, List.sum_cons, Array.length_toList]
    rw [show (frm a).data.size = 8 + a.size from frm_size a]
    omega
/-- The header for rows, and their forms. -/
def whl (l : List ByteArray) : ByteArray := bs ((hdr (ext l) l.length).data.toList ++ flat l)
theorem whl_size (l : List ByteArray) : (whl l).size = ext l := by
  unfold whl
  rw [bs_size, List.length_append, Array.length_toList]
  rw [show (hdr (ext l) l.length).data.size = 16 from hdr_size _ _]
  exact flat_length l

theorem BAt.below {B b : Nat} {L : List UInt8} {w w' : World} (h : BAt B b L w) (hb : Below w.heap.size w w') : BAt B b L w' := by
  have hlt := Lib.BuilderAt.lt h
  obtain ⟨hB, v, hbk, hown, hne⟩ := h
  refine ⟨hB, v, (hb.block b hlt).trans hbk, ?_, hne⟩
  exact World.ownsRow.kept hown (grown_below hb none) (by cases v.ownBlock <;> simp)

def WhRel (B : Nat) (l : List ByteArray) (w0 : World) (i : Value) (wl : World) : Prop := ∃ k : Nat, i = .int .i64 k ∧ k ≤ l.length ∧ BAt B B ((hdr (ext l) l.length).data.toList ++ flat (l.take k)) wl ∧ Below B w0 wl
set_option maxRecDepth 100000 in
theorem wholeP (v : Value) (l : List ByteArray) (w : World) (hr : Row w w.heap.size v (sv l)) (hl : ext l ≤ 1000000000000) :
    Calls Try.prog 34 #[v] w fun e w' => e = .returned (.string (whl l)) ∧ Below w.heap.size w w' := by
  have hll := ext_len l
  have hrl : ∀ w', Below w.heap.size w w' → Row w' w.heap.size v (sv l) := fun w' hb => hr.below hb
  have HRL := Lib.hid hrl
  obtain ⟨A, cap, rfl, hA⟩ := hr
  rw [sv_length] at hA HRL ⊢
  clear hA hrl
  have HL := Lib.hid hl
  have HLL := Lib.hid hll
  have hll2 : l.length ≤ 1000000000000 := Nat.le_trans hll hl
  clear hl hll
  go_enter Try.func34, Try.ntmps34
  go_wp2_with fail
  refine (extentP _ l _ _ (HRL.out _ (below_new w _)) HL.out).mono ?_; rintro e w2 ⟨rfl, rfl⟩
  go_wp2_with fail
  refine (Try.Builder_Grow_fresh w.heap.size w.heap.size (ext l) _ (Nat.le_refl _) (heap_alloc_new w _) (by simp) (by have := HL.out; omega)).mono ?_
  rintro e w3 ⟨rfl, hba, hb⟩
  have HBA : Hid (BAt w.heap.size w.heap.size [] w3) := Lib.hid hba
  have HB : Hid (Below w.heap.size w w3) := Lib.hid ((below_new w _).trans hb)
  clear hba hb
  go_wp2_with fail
  refine (headerP _ _ _ (by omega) (by have := HL.out; omega) (by omega) (by omega)).mono ?_; rintro e w4 ⟨rfl, hb4⟩
  have HBA4 := Lib.hid (HBA.out.below hb4)
  have HB4 : Hid (Below w.heap.size w w4) := Lib.hid (HB.out.trans (hb4.mono HB.out.size))
  clear hb4
  go_wp2_with fail
  refine (writeStrP _ _ _ _ _ HBA4.out (by rw [hdr_size]; simp) HB4.out.size).mono ?_; rintro e w5 ⟨rfl, hba, hb5⟩
  have HBA5 := Lib.hid hba
  have HB5 : Hid (Below w.heap.size w w5) := Lib.hid (HB4.out.trans hb5)
  clear hba hb5
  go_wp2_with fail
  go_loopw [6, 18] (fun _ i wl => WhRel w.heap.size l w i wl) (fun _ i _ => l.length - (intOf i).toNat)
  case atStart => exact ⟨0, rfl, Nat.zero_le _, HBA5.out, HB5.out⟩
  case round =>
    obtain ⟨k, rfl, hk, hba, hb⟩ := hrel
    have HBA6 := Lib.hid hba
    have HB6 := Lib.hid hb
    clear hba hb
    by_cases hlt : k < l.length
    · have q1 : (k : Int) < l.length := by omega
      obtain ⟨A', cap', he, hA⟩ := HRL.out _ HB6.out
      rw [sv_length] at he hA
      injection he with he1 he3 he2
      subst he1; subst he2
      clear he3
      obtain ⟨b, off, rfl, hb, hc⟩ := hA (by omega)
      have c0 := hc k hlt
      rw [sv_get l k hlt] at c0
      have e1 := flat_snoc l k hlt
      have e2 := ext_snoc l k hlt
      have e3 := ext_le l (k + 1)
      have e4 := flat_length (l.take k)
      have e5 := HL.out
      clear hc hA
      obtain ⟨s, hs⟩ : ∃ s, l[k] = s := ⟨_, rfl⟩
      rw [hs] at c0 e1 e2
      have HE := Lib.hid e1
      have HS : Hid (s.size ≤ 1000000000000) := Lib.hid (by omega)
      have HZ : Hid (((hdr (ext l) l.length).data.toList ++ flat (l.take k)).length + (frm s).size ≤ 140737488355328) := Lib.hid (by
        rw [List.length_append, Array.length_toList, show (hdr (ext l) l.length).data.size = 16 from hdr_size _ _, frm_size]; omega)
      clear hs e1 e2 e3 e4 e5
      go_wp2_with fail
      refine (formP _ _ HS.out).mono ?_; rintro e w7 ⟨rfl, hb7⟩
      have HBA7 := Lib.hid (HBA6.out.below hb7)
      have HB7 : Hid (Below w.heap.size w w7) := Lib.hid (HB6.out.trans (hb7.mono HB6.out.size))
      clear hb7
      go_wp2_with fail
      refine (writeStrP _ _ _ _ _ HBA7.out HZ.out HB7.out.size).mono ?_; rintro e w8 ⟨rfl, hba, hb8⟩
      have HBA8 : Hid (BAt w.heap.size w.heap.size ((hdr (ext l) l.length).data.toList ++ flat (l.take (k + 1))) w8) := Lib.hid (by rw [HE.out, ← List.append_assoc]; exact hba)
      have HB8 : Hid (Below w.heap.size w w8) := Lib.hid (HB7.out.trans hb8)
      clear hba hb8
      go_wp2_with fail
      go_roundw
      case rel => exact ⟨k + 1, by go_num, by omega, HBA8.out, HB8.out⟩
      case measure => simp [intOf]; omega
    · obtain rfl : k = l.length := by omega
      have hba := HBA6.out
      rw [List.take_length] at hba
      have HC := Lib.hid (Try.Builder_String_any _ _ _ _ (.inr hba) HB6.out.size)
      clear hba
      go_wp2_with fail
      refine HC.out.mono ?_; rintro e w7 ⟨rfl, hb7⟩
      have HB7 : Hid (Below w.heap.size w w7) := Lib.hid (HB6.out.trans hb7)
      clear hb7
      go_wp2_with fail
      go_ret
      exact ⟨rfl, HB7.out⟩
end Go.Proofs.Ytognomkhkoiabaa
