/-
  The program's Reach and Way.
-/
import Derived.Test.YtcljgpgdbjpemaaSrch
import Derived.Test.YtcljgpgdbjpemaaSucc
import Derived.Test.YtcljgpgdbjpemaaMathA
namespace Go.Proofs.Ytcljgpgdbjpemaa
set_option linter.unusedVariables false
set_option linter.unusedSimpArgs false
open Go.RowKit

theorem nest_lrow {w w' : World} {n g : Nat} {vs : List Value} {N : List (List Nat)} (hN : Succ n N) (h : Nest w' w.heap.size g vs (N.map zi)) (hn : n ≤ 1000) (hl : ∀ v, (N.getD v []).length ≤ 1000000) : LRow w' w'.heap.size (.slice (some ⟨g, 0, none⟩) n n) (N.map zi) := by
  have e : (N.map zi).length = n := by rw [List.length_map, hN.len]
  have := h.lrow (cap := n) (by rw [e]; omega) (fun l hl2 => by
    obtain ⟨x, hx, rfl⟩ := List.mem_map.1 hl2
    rw [zi_length]
    obtain ⟨i, hi, rfl⟩ := List.getElem_of_mem hx
    have := hl i
    rw [List.getD_eq_getElem?_getD, List.getElem?_eq_getElem hi] at this
    exact this)
  rw [e] at this
  exact this
theorem nextOf_len (n : Nat) (A : List (Nat × Nat)) (v : Nat) : ((nextOf n A).getD v []).length ≤ A.length := by
  rw [nextOf_get, srt_len]; exact addA_len n A v
theorem nextOf_asc (n : Nat) (A : List (Nat × Nat)) (v : Nat) : ((nextOf n A).getD v []).Pairwise (· ≤ ·) := by
  rw [nextOf_get]; exact srt_asc _
/-- A graph's search, from its arcs. -/
theorem searchA (l : List Sp) (rv : Value) (rs : List Int) (n g : Nat) (vs : List Value) (w0 w : World) (hri : rightB n l = true) (hn : n ≤ 900) (hl : l.length ≤ 1000) (h : Nest w w0.heap.size g vs ((nextOf n (toA l)).map zi)) (hrr : IRow w w.heap.size rv rs) :
    Calls Try.prog 40 #[.slice (some ⟨g, 0, none⟩) n n, rv] w (SrchPost (toA l) n rs w) := by
  have hA := right_toA hri
  have hLen : ∀ v, ((nextOf n (toA l)).getD v []).length ≤ 1000000 := fun v => by
    have h1 := nextOf_len n (toA l) v
    have h2 : (toA l).length = l.length := by simp [toA]
    omega
  exact searchP _ rv (nextOf n (toA l)) (toA l) rs n w (succ_nextOf hA) (fun v hv x => mem_nextOf hv) (nextOf_asc n _) hLen hn (nest_lrow (succ_nextOf hA) h (by omega) hLen) hrr

def NilPost (w : World) (e : Ending) (w' : World) : Prop := e = .returned (.slice none 0 0) ∧ Below w.heap.size w w'
def IPost (l : List Int) (w : World) (e : Ending) (w' : World) : Prop := ∃ u, e = .returned u ∧ OwnI w' w.heap.size u l ∧ Below w.heap.size w w'
theorem IPost.mk {l : List Int} {w w' : World} {e : Ending} (u : Value) (h1 : e = .returned u) (h2 : OwnI w' w.heap.size u l) (h3 : Below w.heap.size w w') : IPost l w e w' := ⟨u, h1, h2, h3⟩
set_option maxHeartbeats 2000000 in
theorem reach_bad (n : Int) (v rv : Value) (l : List Sp) (w : World) (hri : rightB n l = false) (hr : SRow w w.heap.size v l) :
    Calls Try.prog 17 #[.int .i64 n, v, rv] w (NilPost w) := by
  have HC := rightP n v l w hr
  rw [hri] at HC
  have HC2 := Lib.hid HC
  clear HC hr hri
  go_enter Try.func17, Try.ntmps17
  go_wp2_with fail
  refine HC2.out.mono ?_; rintro e w1 ⟨rfl, hb⟩
  have HB := Lib.hid hb
  clear hb
  go_wp2_with fail
  go_ret
  exact ⟨rfl, HB.out⟩
def selTo (B : List Int) (k : Nat) : List Nat := (List.range k).filter fun v => !(B.getD v 0 == -1)
theorem selTo_yes (B : List Int) (k : Nat) (h : B.getD k 0 ≠ -1) : selTo B (k + 1) = selTo B k ++ [k] := by
  unfold selTo
  rw [List.range_succ, List.filter_append]
  congr 1
  rw [List.filter_cons]
  rw [if_pos (by rw [Bool.not_eq_true', beq_eq_false_iff_ne]; exact h)]; rfl
theorem selTo_no (B : List Int) (k : Nat) (h : B.getD k 0 = -1) : selTo B (k + 1) = selTo B k := by
  unfold selTo
  rw [List.range_succ, List.filter_append]
  rw [List.filter_cons, if_neg (by rw [h]; decide)]; simp
theorem selTo_len (B : List Int) (k : Nat) : (selTo B k).length ≤ k := by
  have := List.length_filter_le (fun v => !(B.getD v 0 == -1)) (List.range k)
  rw [List.length_range] at this; exact this
def ReachRel (B : List Int) (n : Nat) (w0 : World) (s i : Value) (wl : World) : Prop := ∃ k : Nat, i = .int .i64 k ∧ k ≤ n ∧ OwnI wl w0.heap.size s (zi (selTo B k)) ∧ Below w0.heap.size w0 wl
set_option maxRecDepth 100000 in
set_option maxHeartbeats 4000000 in
theorem reach_ok (n : Nat) (v rv : Value) (l : List Sp) (rs : List Int) (w : World) (hri : rightB n l = true) (hn : n ≤ 900) (hl : l.length ≤ 1000) (hr : SRow w w.heap.size v l) (hrr : IRow w w.heap.size rv rs) :
    Calls Try.prog 17 #[.int .i64 n, v, rv] w (IPost (zi (reachOf (toA l) n (rootsN n rs))) w) := by
  obtain ⟨i0, hi, hz0, hz1, hz2⟩ := info_parts infoI
  have HC := rightP n v l w hr
  have HRI : Hid (rightB (n : Int) l = true) := hri
  rw [hri] at HC
  have HC2 := Lib.hid HC
  have HR := Lib.hid hr
  have HRR := Lib.hid hrr
  clear HC hri hr hrr
  go_enter Try.func17, Try.ntmps17
  go_wp2_with fail
  refine HC2.out.mono ?_; rintro e w1 ⟨rfl, hb⟩
  have HSU := Lib.hid (succP v l n w1 HRI.out (by omega) hl (HR.out.keep hb))
  have HB1 := Lib.hid hb
  clear hb HC2
  go_wp2_with fail
  refine HSU.out.mono ?_; rintro e w2 ⟨g, vs, rfl, hne, hb2⟩
  have HB2 := Lib.hid (HB1.out.trans (hb2.mono HB1.out.size))
  have HSR := Lib.hid (searchA l rv rs n g vs w1 w2 HRI.out hn hl hne (HRR.out.keep HB2.out))
  clear hne hb2 HSU
  go_wp2_with fail
  refine HSR.out.mono ?_; rintro e w3 ⟨gb, B, P, rfl, hown, hF, hb3⟩
  have HB3 := Lib.hid (HB2.out.trans (hb3.mono HB2.out.size))
  have HF := Lib.hid hF
  have hBl : B.length = n := hF.bef.len
  have HCELL : Hid (∀ k (h : k < n), w3.cell? ⟨gb, k, none⟩ = some (.int .i64 (B.getD k 0))) := fun k hk => by
    rw [hown.cell k (by omega), List.getD_eq_getElem?_getD, List.getElem?_eq_getElem (by omega)]; rfl
  have hgl := (World.ownsRow.lt hown gb rfl).2
  have hbs3 := HB3.out.size
  clear hb3 hF hown hBl HSR HB1 HB2
  go_wp2_with fail
  go_loopw [7, 20] (fun s i wl => ReachRel B n w3 s i wl) (fun _ i _ => n - (intOf i).toNat)
  case atStart => exact ⟨0, rfl, by omega, by simp [selTo, zi]; exact OwnI.nil _ _, Below.refl _ _⟩
  case round =>
    obtain ⟨k, rfl, hk, hs, hB⟩ := hrel
    obtain ⟨SA, scap, hsv⟩ := own_slice hs
    subst hsv
    rw [zi_length] at *
    by_cases hlt : k < n
    · have c1 := (hB.cell (p := ⟨gb, k, none⟩) hgl).trans (HCELL.out k hlt)
      have hlen := selTo_len B k
      obtain ⟨z, hz⟩ : ∃ z, B.getD k 0 = z := ⟨_, rfl⟩
      rw [hz] at c1
      by_cases hz1 : z = -1
      · have hzb : (z == -1) = true := by simpa using hz1
        have hzc : (z != -1) = false := by simp [hz1]
        have HS2 : Hid (OwnI wr w3.heap.size (.slice SA (selTo B k).length scap) (zi (selTo B (k + 1)))) := Lib.hid (by rw [selTo_no B k (by rw [hz, hz1])]; exact hs)
        have HB4 := Lib.hid hB
        clear hs hB hz hz1
        go_wp2_with fail
        go_roundw
        case rel => exact ⟨k + 1, by go_num, by omega, HS2.out, HB4.out⟩
        case measure => simp [intOf]; omega
      · have hzb : (z == -1) = false := by simpa using hz1
        have hzc : (z != -1) = true := by simp [hz1]
        have HS2 := Lib.hid (selTo_yes B k (by rw [hz]; exact hz1))
        have hown : wr.ownsRow w3.heap.size 3 1 (.slice SA (selTo B k).length scap) (selTo B k).length (iv (zi (selTo B k))) := by
          have := hs; unfold OwnI at this; rw [zi_length] at this; exact this
        have HOW := Lib.hid hown
        have HB4 := Lib.hid hB
        have hbs := hB.size
        have HL1 : Hid ((selTo B k).length + 1 ≤ maxLen) := Lib.hid (by unfold maxLen; omega)
        have HL2 : Hid (((selTo B k).length + 1) * 8 ≤ 140737488355328) := Lib.hid (by omega)
        have HL3 : Hid (w3.heap.size ≤ (wr.alloc (.cells #[.int .i64 (k : Int)] 3)).heap.size) := Lib.hid (by simp; omega)
        have HBG : Hid (∀ w2 : World, (wr.alloc (.cells #[.int .i64 (k : Int)] 3)).grownBy w2 (Value.slice SA (selTo B k).length scap).ownBlock → Below w3.heap.size w3 w2) := fun w2 hg =>
          (hB.alloc hbs _).grown hg (by simp; omega) (fun j hj => (hown.lt j hj).1)
        clear hs hB hz hz1 hown
        go_wp2_with (at_builtin; refine wpList_append_own _ rfl _ _ 23 rfl w3.heap.size 3 i0 (.int .i64 0) 1 8 Try.underlying23 hi hz0 hz1 hz2 rfl (by decide) _ _ _ rfl (World.ownsRow.alloc HOW.out _) ⟨wr.heap.size, 0, none⟩ 1 1 [.int .i64 (k : Int)] rfl rfl (cell_one_new _ _ _) (by simp [Value.oneCell']) HL1.out HL2.out HL3.out ?_; intro v' w4 hown' hgrow _; replace hown' := Lib.hid hown'; have HB5 := Lib.hid (HBG.out w4 hgrow); clear hgrow)
        go_roundw
        case rel => exact ⟨k + 1, by go_num, by omega, by rw [HS2.out, zi_append]; unfold OwnI; rw [List.length_append, zi_length, iv_append]; exact hown'.out, HB5.out⟩
        case measure => simp [intOf]; omega
    · have hkn : k = n := by omega
      have HRES : Hid (OwnI wr w.heap.size (.slice SA (selTo B k).length scap) (zi (reachOf (toA l) n (rootsN n rs)))) := Lib.hid (by
        rw [← HF.out.reach]
        rw [hkn] at hs ⊢
        exact hs.base hbs3)
      have HB4 := Lib.hid (HB3.out.trans (hB.mono hbs3))
      have hge : ¬ ((k : Int) < n) := by omega
      clear hkn hs hB
      go_wp2_with fail
      go_ret
      exact IPost.mk _ rfl HRES.out HB4.out
end Go.Proofs.Ytcljgpgdbjpemaa
