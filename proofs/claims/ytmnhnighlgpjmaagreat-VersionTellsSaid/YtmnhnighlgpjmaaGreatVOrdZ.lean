/-
  The program's namesOf, different, isName and named.
  The program's different.
  The program's isName.
  The program's named and closed.
  The program's closed.
  The program's arcsOf.
  The program's arcsOf: the walk.
  Layer 8: serving and the graph of the declarations.
  The program's Right.
  The program's Order.
-/
import Derived.Test.YtmnhnighlgpjmaaGreatVLineZ
import Derived.Test.YtmnhnighlgpjmaaGreatOwnA
namespace Go.Proofs.YtmnhnighlgpjmaaGreat
set_option linter.unusedVariables false
set_option linter.unusedSimpArgs false
open Go.RowKit

def names (l : VL) : List Str := l.map (·.nm)
def NmPost (l : VL) (w : World) (e : Ending) (w' : World) : Prop := ∃ u, e = .returned u ∧ OwnS w' w.heap.size u (srtS (names l)) ∧ Below w.heap.size w w'
def NsRel (l : VL) (w : World) (u i : Value) (wl : World) : Prop := ∃ k : Nat, i = .int .i64 k ∧ k ≤ l.length ∧ OwnS wl w.heap.size u (names (l.take k)) ∧ Below w.heap.size w wl
set_option maxRecDepth 100000 in
set_option maxHeartbeats 4000000 in
theorem namesP (v : Value) (l : VL) (w : World) (hl : l.length ≤ 1000) (hr : VRow w w.heap.size v l) :
    Calls Tryz.prog 28 #[v] w (NmPost l w) := by
  obtain ⟨A, cap, rfl, h1, h2, h3, hA⟩ := hr
  obtain ⟨i0, hi, hz0, hz1, hz2⟩ := info_parts infoS
  have HA := Lib.hid hA
  clear hA h1 h2 h3
  go_enter Tryz.func28, Tryz.ntmps28
  go_wp2_with fail
  go_loopw [3, 8] (fun u i wl => NsRel l w u i wl) (fun _ i _ => l.length - (intOf i).toNat)
  case atStart => exact ⟨0, rfl, by omega, OwnS.nil _ _, Below.refl _ _⟩
  case round =>
    obtain ⟨k, rfl, hk, ho, hB⟩ := hrel
    by_cases hlt : k < l.length
    · obtain ⟨b, off, rfl, hb1, hc⟩ := HA.out (by omega)
      obtain ⟨u, c1, c2, hu⟩ := hc k hlt
      have c1' := (hB.cell (p := ⟨b, off + k * 2, none⟩) hb1).trans c1
      have c2' := (hB.cell (p := ⟨b, off + k * 2 + 1, none⟩) hb1).trans c2
      have hTk : names (l.take (k + 1)) = names (l.take k) ++ [l[k].nm] := by
        unfold names; rw [List.take_succ_eq_append_getElem hlt, List.map_append]; rfl
      obtain ⟨d, hd⟩ : ∃ d, l[k] = d := ⟨_, rfl⟩
      rw [hd] at c1' hu hTk
      obtain ⟨uA, ucap, hu1, _⟩ := id hu
      subst hu1
      have hln : (names (l.take k)).length = k := by simp [names]; omega
      have ho1 := ho.below (below_new wr (.cells #[.string (bs d.nm), .slice uA d.ps.length ucap] 32))
      have hB1 := hB.alloc hB.size (.cells #[.string (bs d.nm), .slice uA d.ps.length ucap] 32)
      obtain ⟨W, hW⟩ : ∃ W, wr.alloc (.cells #[.string (bs d.nm), .slice uA d.ps.length ucap] 32) = W := ⟨_, rfl⟩
      rw [hW] at ho1 hB1
      have ho2 := ho1.below (below_new W (.cells #[.string (bs d.nm)] 9))
      have hB2 := hB1.alloc hB1.size (.cells #[.string (bs d.nm)] 9)
      obtain ⟨v', w3, hrun, ho3, hg3, _, _⟩ := run_append_own_at (P := Tryz.prog) (W.alloc (.cells #[.string (bs d.nm)] 9)) w.heap.size 27 27 9 i0 (.string (bs [])) 1 16 Tryz.underlying27 hi hz0 hz1 hz2 rfl (by decide) _ _ _ ho2 ⟨W.heap.size, 0, none⟩ 1 1 [.string (bs d.nm)] rfl (fun j u hu => by
        cases j with
        | zero =>
          simp at hu
          subst hu
          exact (Blk.new W _ _).cell 0
        | succ j => simp at hu) (fun u hu => by rw [List.mem_singleton.1 hu]; rfl) (by unfold maxLen; omega) (by omega) hB2.size
      obtain ⟨g', cap', rfl⟩ := own_succ ho3
      have HO3 : Hid (OwnS w3 w.heap.size (.slice (some ⟨g', 0, none⟩) ((names (l.take k)).length + 1) cap') (names (l.take (k + 1)))) := Lib.hid (by
        unfold OwnS
        rw [hTk, sv_append, List.length_append]
        exact ho3)
      have HB3 := Lib.hid (hB2.grown hg3 hB2.size (fun j hj => (ho2.lt j hj).1))
      rw [hln] at hrun
      rw [hln] at HO3
      have hsW : W.heap.size = wr.heap.size + 1 := by rw [← hW]; simp
      rw [hsW] at hrun
      have HRUN := Lib.hid hrun
      subst hW
      clear ho hB hc c1 c2 hu hTk hd hln ho1 hB1 ho2 hB2 hrun ho3 hg3 hsW
      go_wp2_with (at_builtin; refine Lib.wpList_append_run_sl _ rfl _ _ 27 rfl _ _ rfl rfl HRUN.out ?_)
      go_roundw
      case rel => exact ⟨k + 1, by go_num, by omega, HO3.out, HB3.out⟩
      case measure => simp [intOf]; omega
    · rw [List.take_of_length_le (by omega)] at ho
      have HST := Lib.hid (sortAll ho (by simp [names]; omega))
      have HO := Lib.hid ho
      have HB := Lib.hid hB
      clear ho hB
      go_wp2_with fail
      refine HST.out.mono ?_; rintro e w5 ⟨rfl, ho5, hg5⟩
      have HF : Hid (NmPost l w (.returned u3) w5) := Lib.hid ⟨u3, rfl, ho5, HB.out.grown hg5 HB.out.size (fun j hj => (HO.out.lt j hj).1)⟩
      clear ho5 hg5 HST
      go_wp2_with fail
      go_ret
      exact HF.out
end Go.Proofs.YtmnhnighlgpjmaaGreat

namespace Go.Proofs.YtmnhnighlgpjmaaGreat
set_option linter.unusedVariables false
set_option linter.unusedSimpArgs false
open Go.RowKit

/-- different. -/
def DfRel (l : List Str) (w : World) (i : Value) (wl : World) : Prop := ∃ k n : Nat, i = .int .i64 k ∧ k ≤ l.length ∧ n ≤ k ∧ MapIs 9 wl w.heap.size n (seenF (l.take k)) ∧ (l.take k).Nodup ∧ Below w.heap.size w wl
set_option maxRecDepth 100000 in
set_option maxHeartbeats 4000000 in
theorem differentP (v : Value) (l : List Str) (w : World) (hl : l.length ≤ 1000) (hs : ∀ s ∈ l, s.length ≤ 1000) (hr : StrRow w w.heap.size v l) :
    Calls Tryz.prog 30 #[v] w fun e w' => e = .returned (.bool (decide l.Nodup)) ∧ Below w.heap.size w w' := by
  obtain ⟨A, cap, rfl, h1, h2, h3, hA⟩ := hr
  have HA := Lib.hid hA
  have HS := Lib.hid hs
  have hmm := @run_makeMap Tryz.prog
  have HM : Hid (MapIs 9 (w.alloc (.map #[] 0)) w.heap.size 0 (seenF (l.take 0))) := Lib.hid (by rw [List.take_zero, seenF_nil]; exact MapIs.new _ _)
  have HB : Hid (Below w.heap.size w (w.alloc (.map #[] 0))) := Lib.hid ((Below.refl _ _).alloc (Nat.le_refl _) _)
  obtain ⟨nb, hnb⟩ : ∃ nb, decide l.Nodup = nb := ⟨_, rfl⟩
  have HNB := Lib.hid hnb
  rw [hnb]
  clear hA hs h1 h2 h3 hnb
  go_enter Tryz.func30, Tryz.ntmps30
  go_wp2_with fail
  clear hmm
  go_loopw [9] (fun i wl => DfRel l w i wl) (fun i _ => l.length - (intOf i).toNat)
  case atStart => exact ⟨0, 0, rfl, by omega, by omega, HM.out, by simp, HB.out⟩
  case round =>
    clear HM HB
    obtain ⟨k, n, rfl, hk, hn, hM, hnd, hB⟩ := hrel
    by_cases hlt : k < l.length
    · obtain ⟨b, off, rfl, hb1, hc⟩ := HA.out (by omega)
      have c1 := (hB.cell (p := ⟨b, off + k, none⟩) hb1).trans (hc k hlt)
      have hTk : l.take (k + 1) = l.take k ++ [l[k]] := List.take_succ_eq_append_getElem hlt
      have hsz := HS.out _ (List.getElem_mem hlt)
      obtain ⟨s, hs⟩ : ∃ s, l[k] = s := ⟨_, rfl⟩
      rw [hs] at c1 hTk hsz
      have hbz : (bs s).size ≤ maxLen := by rw [bs_size]; unfold maxLen; omega
      have hlk := hM.look (t := 42) Tryz.underlying9 Tryz.underlying42 (zeroBool wr) (bs s) hbz
      by_cases hm : s ∈ l.take k
      · rw [seenF_yes hm, Option.getD_some] at hlk
        have hF : nb = false := by
          rw [← HNB.out, decide_eq_false_iff_not]
          intro hN
          have h2 : (l.take (k + 1)).Nodup := List.Nodup.sublist (List.take_sublist _ _) hN
          rw [hTk, List.nodup_append] at h2
          exact h2.2.2 s hm s (by simp) rfl
        have HB2 := Lib.hid hB
        subst hF
        clear hM hnd hB hc hTk hs hm
        go_wp2_with fail
        go_ret
        exact ⟨rfl, HB2.out⟩
      · rw [seenF_no hm, Option.getD_none] at hlk
        obtain ⟨w2, hput, hM2, hg2, hsz2⟩ := hM.put (t := 42) Tryz.underlying9 Tryz.underlying42 (by unfold maxLen; omega) (bs s) hbz (.bool true)
        rw [seenF_upd, ← hTk] at hM2
        have hnd2 : (l.take (k + 1)).Nodup := by
          rw [hTk, List.nodup_append]
          exact ⟨hnd, by simp, fun a ha c hc => by rw [List.mem_singleton] at hc; subst hc; exact fun e => hm (e ▸ ha)⟩
        have HM2 := Lib.hid hM2
        have HND := Lib.hid hnd2
        have HB2 : Hid (Below w.heap.size w w2) := Lib.hid (hB.trans (Below.of_grown hg2 hB.size (Nat.le_refl _)))
        have HPUT := Lib.hid hput
        clear hM hnd hB hc hTk hs hm hM2 hnd2 hg2 hput hsz2
        go_wp2_with (at_mapUpdate; refine wpList_mapput rfl _ _ _ _ rfl HPUT.out rfl rfl rfl ?_)
        go_roundw
        case rel => exact ⟨k + 1, n + 1, by go_num, by omega, by omega, HM2.out, HND.out, HB2.out⟩
        case measure => simp [intOf]; omega
    · rw [List.take_of_length_le (by omega)] at hnd
      have hF : nb = true := by rw [← HNB.out]; exact decide_eq_true hnd
      subst hF
      have HB2 := Lib.hid hB
      clear hM hnd hB
      go_wp2_with fail
      go_ret
      exact ⟨rfl, HB2.out⟩
end Go.Proofs.YtmnhnighlgpjmaaGreat

namespace Go.Proofs.YtmnhnighlgpjmaaGreat
set_option linter.unusedVariables false
set_option linter.unusedSimpArgs false
open Go.RowKit

/-- isName. -/
def byteOk (b : UInt8) : Bool := decide (33 ≤ b.toNat) && decide (b.toNat ≤ 126)
def nameB (s : Str) : Bool := s.all byteOk && decide (1 ≤ s.length) && decide (s.length ≤ 64)
def NmRel (s : Str) (i : Value) : Prop := ∃ k : Nat, i = .int .i64 k ∧ k ≤ s.length ∧ ∀ j (h : j < s.length), j < k → byteOk s[j] = true
set_option maxRecDepth 100000 in
set_option maxHeartbeats 4000000 in
theorem isNameP (s : Str) (w : World) (hs : s.length ≤ 1000000) :
    Calls Tryz.prog 33 #[.string (bs s)] w fun e w' => e = .returned (.bool (nameB s)) ∧ w = w' := by
  have hsz : (bs s).size = s.length := bs_size s
  obtain ⟨nb, hnb⟩ : ∃ nb, nameB s = nb := ⟨_, rfl⟩
  have HNB := Lib.hid hnb
  have HSZ := Lib.hid hsz
  rw [hnb]
  have hs1 : (bs s).size ≤ 1000000 := by omega
  clear hnb hsz
  go_enter Tryz.func33, Tryz.ntmps33
  go_wp2_with fail
  go_loop [6] (fun i => NmRel s i) (fun i => s.length - (intOf i).toNat)
  case atStart => exact ⟨0, rfl, by omega, fun j _ h => by omega⟩
  case round =>
    obtain ⟨k, rfl, hk, hok⟩ := hrel
    by_cases hlt : k < s.length
    · have hlt2 : k < (bs s).size := by rw [HSZ.out]; exact hlt
      have hgt : (bs s)[k] = s[k] := bs_get s k hlt2
      have hstep : byteOk s[k] = true → ∀ j (h : j < s.length), j < k + 1 → byteOk s[j] = true := fun h j hj hjk => by
        by_cases e : j = k
        · subst e; exact h
        · exact hok j hj (by omega)
      have hbad : byteOk s[k] = false → nb = false := fun h => by
        rw [← HNB.out]
        unfold nameB
        have : s.all byteOk = false := List.all_eq_false.2 ⟨s[k], List.getElem_mem hlt, by simp [h]⟩
        rw [this]; rfl
      obtain ⟨b, hb⟩ : ∃ b, s[k] = b := ⟨_, rfl⟩
      rw [hb] at hgt hstep hbad
      have HOK := Lib.hid hok
      have HST := Lib.hid hstep
      have HBD := Lib.hid hbad
      clear hok hstep hbad hb
      by_cases h33 : 33 ≤ b.toNat
      · by_cases h126 : b.toNat ≤ 126
        · have HN := Lib.hid (HST.out (by unfold byteOk; rw [decide_eq_true h33, decide_eq_true h126]; rfl))
          go_wp2_with fail
          go_round
          case rel => exact ⟨k + 1, by go_num, by omega, HN.out⟩
          case measure => simp [intOf]; omega
        · have hF := HBD.out (by unfold byteOk; rw [decide_eq_false h126]; simp)
          subst hF
          go_wp2_with fail
          go_ret
          exact ⟨rfl, rfl⟩
      · have hF := HBD.out (by unfold byteOk; rw [decide_eq_false h33]; simp)
        subst hF
        go_wp2_with fail
        go_ret
        exact ⟨rfl, rfl⟩
    · have hall : s.all byteOk = true := List.all_eq_true.2 (fun x hx => by
        obtain ⟨j, hj, rfl⟩ := List.getElem_of_mem hx
        exact hok j hj (by omega))
      have hnb2 : nb = (decide (1 ≤ s.length) && decide (s.length ≤ 64)) := by rw [← HNB.out]; unfold nameB; rw [hall]; rfl
      rw [← HSZ.out] at hnb2
      clear hok hall
      have hgt : ¬ k < (bs s).size := by rw [HSZ.out]; exact hlt
      by_cases h1 : 1 ≤ (bs s).size
      · by_cases h2 : (bs s).size ≤ 64
        · have hF : nb = true := by rw [hnb2, decide_eq_true h1, decide_eq_true h2]; rfl
          have hi : decide (((bs s).size : Int) ≤ 64) = true := decide_eq_true (by omega)
          subst hF
          clear hnb2
          go_wp2_with fail
          go_ret
          exact ⟨rfl, rfl⟩
        · have hF : nb = false := by rw [hnb2, decide_eq_false h2]; simp
          have hi : decide (((bs s).size : Int) ≤ 64) = false := decide_eq_false (by omega)
          subst hF
          clear hnb2
          go_wp2_with fail
          go_ret
          exact ⟨rfl, rfl⟩
      · have hF : nb = false := by rw [hnb2, decide_eq_false h1]; simp
        subst hF
        clear hnb2
        go_wp2_with fail
        go_ret
        exact ⟨rfl, rfl⟩
end Go.Proofs.YtmnhnighlgpjmaaGreat

namespace Go.Proofs.YtmnhnighlgpjmaaGreat
set_option linter.unusedVariables false
set_option linter.unusedSimpArgs false
open Go.RowKit

set_option maxRecDepth 100000 in
theorem notNameP (s : Str) (w : World) (hs : s.length ≤ 1000000) :
    Calls Tryz.prog 32 #[.string (bs s)] w fun e w' => e = .returned (.bool !nameB s) ∧ w = w' := by
  have H := Lib.hid (isNameP s w hs)
  obtain ⟨nb, hnb⟩ : ∃ nb, nameB s = nb := ⟨_, rfl⟩
  rw [hnb] at H ⊢
  clear hnb
  go_enter Tryz.func32, Tryz.ntmps32
  go_wp2_with fail
  refine H.out.mono ?_; rintro e w1 ⟨rfl, rfl⟩
  go_wp2_with fail
  go_ret
  exact ⟨rfl, rfl⟩
def IxPost (l : List Str) (w : World) (e : Ending) (w' : World) : Prop := ∃ z : Int, e = .returned (.int .i64 z) ∧ -1 ≤ z ∧ z ≤ 1000000 ∧ (0 ≤ z ↔ l.all nameB = false) ∧ w = w'
def IxRel (l : List Str) (i : Value) : Prop := ∃ k : Nat, i = .int .i64 k ∧ k ≤ l.length ∧ ∀ j (h : j < l.length), j < k → nameB l[j] = true
set_option maxRecDepth 100000 in
set_option maxHeartbeats 4000000 in
theorem indexNP (v : Value) (l : List Str) (w : World) (B : Nat) (hl : l.length ≤ 1000) (hs : ∀ s ∈ l, s.length ≤ 1000) (hr : StrRow w B v l) :
    Calls Tryz.prog 46 #[v, .func (.func 32) #[] #[]] w (IxPost l w) := by
  obtain ⟨A, cap, rfl, h1, h2, h3, hA⟩ := hr
  have HA := Lib.hid hA
  have HS := Lib.hid hs
  clear hA hs h1 h2 h3
  go_enter Tryz.func46, Tryz.ntmps46
  go_wp2_with fail
  go_loop [8] (fun i => IxRel l i) (fun i => l.length - (intOf i).toNat)
  case atStart => exact ⟨0, rfl, by omega, fun j _ h => by omega⟩
  case round =>
    obtain ⟨k, rfl, hk, hok⟩ := hrel
    by_cases hlt : k < l.length
    · obtain ⟨b, off, rfl, hb1, hc⟩ := HA.out (by omega)
      have c1 := hc k hlt
      have hN := notNameP l[k] w (by have := HS.out _ (List.getElem_mem hlt); omega)
      have hst : nameB l[k] = true → ∀ j (h : j < l.length), j < k + 1 → nameB l[j] = true := fun h j hj hjk => by
        by_cases e : j = k
        · subst e; exact h
        · exact hok j hj (by omega)
      have hbd : nameB l[k] = false → l.all nameB = false := fun h => List.all_eq_false.2 ⟨l[k], List.getElem_mem hlt, by simp [h]⟩
      obtain ⟨s, hs⟩ : ∃ s, l[k] = s := ⟨_, rfl⟩
      rw [hs] at c1 hN hst hbd
      cases hnb : nameB s with
      | true =>
        rw [hnb] at hN
        have HN := Lib.hid hN
        have HST := Lib.hid (hst hnb)
        clear hc hs hst hbd hok hnb hN
        go_wp2_with fail
        refine HN.out.mono ?_; rintro e w1 ⟨rfl, rfl⟩
        go_wp2_with fail
        go_round
        case rel => exact ⟨k + 1, by go_num, by omega, HST.out⟩
        case measure => simp [intOf]; omega
      | false =>
        rw [hnb] at hN
        have HN := Lib.hid hN
        have HF : Hid (IxPost l w (.returned (.int .i64 k)) w) := Lib.hid ⟨k, rfl, by omega, by omega, ⟨fun _ => hbd hnb, fun _ => by omega⟩, rfl⟩
        clear hc hs hst hbd hok hnb hN
        go_wp2_with fail
        refine HN.out.mono ?_; rintro e w1 ⟨rfl, rfl⟩
        go_wp2_with fail
        go_ret
        exact HF.out
    · have HF : Hid (IxPost l w (.returned (.int .i64 (-1))) w) := Lib.hid ⟨-1, rfl, by omega, by omega, ⟨fun h => by omega, fun h => by
        have : l.all nameB = true := List.all_eq_true.2 (fun x hx => by
          obtain ⟨j, hj, rfl⟩ := List.getElem_of_mem hx
          exact hok j hj (by omega))
        rw [this] at h; cases h⟩, rfl⟩
      clear hok
      go_wp2_with fail
      go_ret
      exact HF.out
set_option maxRecDepth 100000 in
theorem anyNP (v : Value) (l : List Str) (w : World) (B : Nat) (hl : l.length ≤ 1000) (hs : ∀ s ∈ l, s.length ≤ 1000) (hr : StrRow w B v l) :
    Calls Tryz.prog 31 #[v, .func (.func 32) #[] #[]] w fun e w' => e = .returned (.bool !l.all nameB) ∧ w = w' := by
  have H := Lib.hid (indexNP v l w B hl hs hr)
  clear hs hr
  obtain ⟨nb, hnb⟩ : ∃ nb, l.all nameB = nb := ⟨_, rfl⟩
  have HNB := Lib.hid hnb
  rw [hnb]
  clear hnb
  go_enter Tryz.func31, Tryz.ntmps31
  go_wp2_with fail
  refine H.out.mono ?_; rintro e w1 ⟨z, rfl, hz1, hz2, hz, rfl⟩
  rw [HNB.out] at hz
  cases nb with
  | true =>
    have h0 : decide (0 ≤ z) = false := decide_eq_false (fun h => by have := hz.1 h; cases this)
    clear hz
    go_wp2_with fail
    go_ret
    exact ⟨rfl, rfl⟩
  | false =>
    have h0 : decide (0 ≤ z) = true := decide_eq_true (hz.2 rfl)
    clear hz
    go_wp2_with fail
    go_ret
    exact ⟨rfl, rfl⟩
def namedB (l : VL) : Bool := decide (names l).Nodup && (names l).all nameB
theorem srtS_perm (l : List Str) : (srtS l).Perm l := List.mergeSort_perm _ _
theorem srtS_nodup (l : List Str) : decide (srtS l).Nodup = decide l.Nodup := by
  rw [Bool.eq_iff_iff, decide_eq_true_iff, decide_eq_true_iff]; exact (srtS_perm l).nodup_iff
theorem srtS_all (l : List Str) : (srtS l).all nameB = l.all nameB := by
  rw [Bool.eq_iff_iff, List.all_eq_true, List.all_eq_true]
  exact ⟨fun h x hx => h x ((srtS_perm l).mem_iff.2 hx), fun h x hx => h x ((srtS_perm l).mem_iff.1 hx)⟩
set_option maxRecDepth 100000 in
set_option maxHeartbeats 4000000 in
theorem namedP (v : Value) (l : VL) (w : World) (hl : l.length ≤ 1000) (hs : ∀ d ∈ l, d.nm.length ≤ 1000) (hr : VRow w w.heap.size v l) :
    Calls Tryz.prog 16 #[v] w fun e w' => e = .returned (.bool (namedB l)) ∧ Below w.heap.size w w' := by
  have H := Lib.hid (namesP v l w hl hr)
  have hns : ∀ s ∈ srtS (names l), s.length ≤ 1000 := fun s hs2 => by
    obtain ⟨d, hd, rfl⟩ := List.mem_map.1 ((srtS_perm _).mem_iff.1 hs2)
    exact hs d hd
  have hnl : (srtS (names l)).length ≤ 1000 := by rw [srtS_len]; simp [names]; omega
  have HNS := Lib.hid hns
  obtain ⟨b1, hb1⟩ : ∃ b, decide (names l).Nodup = b := ⟨_, rfl⟩
  obtain ⟨b2, hb2⟩ : ∃ b, (names l).all nameB = b := ⟨_, rfl⟩
  unfold namedB
  rw [hb1, hb2]
  have HB1 := Lib.hid hb1
  have HB2 := Lib.hid hb2
  clear hns hb1 hb2 hs hr
  go_enter Tryz.func16, Tryz.ntmps16
  go_wp2_with fail
  refine H.out.mono ?_; rintro e w1 ⟨u, rfl, ho, hB⟩
  have hD := differentP u _ w1 hnl HNS.out ho.srow
  rw [srtS_nodup, HB1.out] at hD
  have HD := Lib.hid hD
  have HO := Lib.hid ho
  have HB := Lib.hid hB
  clear hD ho hB H
  cases b1 with
  | false =>
    go_wp2_with fail
    refine HD.out.mono ?_; rintro e w2 ⟨rfl, hB2⟩
    have HBB := Lib.hid (HB.out.trans (hB2.mono HB.out.size))
    clear hB2 HD
    go_wp2_with fail
    go_ret
    exact ⟨rfl, HBB.out⟩
  | true =>
    go_wp2_with fail
    refine HD.out.mono ?_; rintro e w2 ⟨rfl, hB2⟩
    have HBB := Lib.hid (HB.out.trans (hB2.mono HB.out.size))
    have hC := anyNP u _ w2 _ hnl HNS.out (HO.out.srow.keep hB2)
    rw [srtS_all, HB2.out] at hC
    have HC := Lib.hid hC
    clear hB2 hC HD
    go_wp2_with fail
    refine HC.out.mono ?_; rintro e w3 ⟨rfl, rfl⟩
    go_wp2_with fail
    go_ret
    exact ⟨by simp, HBB.out⟩
end Go.Proofs.YtmnhnighlgpjmaaGreat

namespace Go.Proofs.YtmnhnighlgpjmaaGreat
set_option linter.unusedVariables false
set_option linter.unusedSimpArgs false
open Go.RowKit

def okD (l : VL) (d : Vd) : Bool := d.ps.all (fun p => (parOf l p).isSome) && decide d.ps.Nodup
def closedB (l : VL) : Bool := l.all (okD l)
def C1Rel (l : VL) (w : World) (mp np : Nat) (pf : ByteArray → Option Value) (i : Value) (wl : World) : Prop := ∃ k : Nat, i = .int .i64 k ∧ k ≤ l.length ∧ (∀ j (h : j < l.length), j < k → okD l l[j] = true) ∧ MapIs 9 wl mp np pf ∧ Below w.heap.size w wl
def C2Rel (l : VL) (ps : List Str) (i : Value) : Prop := ∃ j : Nat, i = .int .i64 j ∧ j ≤ ps.length ∧ ∀ m (h : m < ps.length), m < j → (parOf l ps[m]).isSome = true
theorem ParF.some {w : World} {B : Nat} {l : VL} {f : ByteArray → Option Value} (h : ParF w B l f) (s : Str) : (f (bs s)).isSome = (parOf l s).isSome := by
  rcases h s with ⟨h1, h2⟩ | ⟨u, ps, h1, h2, _⟩ <;> rw [h1, h2] <;> rfl
set_option maxRecDepth 100000 in
set_option maxHeartbeats 8000000 in
theorem closedP (v : Value) (l : VL) (w : World) (hl : l.length ≤ 1000) (hs : ∀ d ∈ l, d.nm.length ≤ 1000 ∧ d.ps.length ≤ 1000 ∧ ∀ p ∈ d.ps, p.length ≤ 1000) (hr : VRow w w.heap.size v l) :
    Calls Tryz.prog 17 #[v] w fun e w' => e = .returned (.bool (closedB l)) ∧ Below w.heap.size w w' := by
  have HP := Lib.hid (parentsP v l w hl (fun d hd => (hs d hd).1) hr)
  obtain ⟨A, cap, rfl, h1, h2, h3, hA⟩ := hr
  have HA := Lib.hid hA
  have HS := Lib.hid hs
  obtain ⟨cb, hcb⟩ : ∃ cb, closedB l = cb := ⟨_, rfl⟩
  have HCB := Lib.hid hcb
  rw [hcb]
  clear hA hs h1 h2 h3 hcb
  go_enter Tryz.func17, Tryz.ntmps17
  go_wp2_with fail
  refine HP.out.mono ?_; rintro e w1 ⟨mp, np, pf, rfl, hM, hF, hB, hmp, hnp⟩
  have HM := Lib.hid hM
  have HF := Lib.hid hF
  have HB := Lib.hid hB
  clear hM hF hB HP
  go_wp2_with fail
  go_loopw [14] (fun i wl => C1Rel l w mp np pf i wl) (fun i _ => l.length - (intOf i).toNat)
  case atStart => exact ⟨0, rfl, by omega, (fun j _ h => by omega), HM.out, HB.out⟩
  case round =>
    clear HM HB
    obtain ⟨k, rfl, hk, hok, hM, hB⟩ := hrel
    by_cases hlt : k < l.length
    · obtain ⟨b, off, rfl, hb1, hc⟩ := HA.out (by omega)
      obtain ⟨u, c1, c2, hu⟩ := hc k hlt
      have c1' := (hB.cell (p := ⟨b, off + k * 2, none⟩) hb1).trans c1
      have c2' := (hB.cell (p := ⟨b, off + k * 2 + 1, none⟩) hb1).trans c2
      obtain ⟨hs1, hs2, hs3⟩ := HS.out _ (List.getElem_mem hlt)
      have hst : okD l l[k] = true → ∀ j (h : j < l.length), j < k + 1 → okD l l[j] = true := fun h j hj hjk => by
        by_cases e : j = k
        · subst e; exact h
        · exact hok j hj (by omega)
      have hbd : okD l l[k] = false → cb = false := fun h => by
        rw [← HCB.out]; exact List.all_eq_false.2 ⟨l[k], List.getElem_mem hlt, by simp [h]⟩
      obtain ⟨d, hd⟩ : ∃ d, l[k] = d := ⟨_, rfl⟩
      rw [hd] at c1' hu hs1 hs2 hs3 hst hbd
      obtain ⟨uA, ucap, hu1, hu2, hu3, hu4, hur⟩ := id hu
      subst hu1
      have hMW := hM.below (below_new wr (.cells #[.string (bs d.nm), .slice uA d.ps.length ucap] 32))
      have hBW := hB.alloc hB.size (.cells #[.string (bs d.nm), .slice uA d.ps.length ucap] 32)
      have hDF := differentP (.slice uA d.ps.length ucap) d.ps (wr.alloc (.cells #[.string (bs d.nm), .slice uA d.ps.length ucap] 32)) hs2 hs3 ((hu.below hBW).mono hBW.size)
      have HDF := Lib.hid hDF
      have HMW := Lib.hid hMW
      have HBW := Lib.hid hBW
      have HUR := Lib.hid hur
      have HST := Lib.hid hst
      have HBD := Lib.hid hbd
      have HS3 := Lib.hid hs3
      clear hok hM hB hc c1 c2 hd hst hbd hu hur hMW hBW hDF hs3 hu2 hu3 hu4
      go_wp2_with fail
      go_loop [21] (fun i => C2Rel l d.ps i) (fun i => d.ps.length - (intOf i).toNat)
      case atStart => exact ⟨0, rfl, by omega, fun j _ h => by omega⟩
      case round =>
        obtain ⟨j, rfl, hj, hall⟩ := hrel
        by_cases hjl : j < d.ps.length
        · obtain ⟨b2, off2, rfl, hb2, hc2⟩ := HUR.out (by omega)
          have q := (HBW.out.cell (p := ⟨b2, off2 + j, none⟩) hb2).trans (hc2 j hjl)
          have hpl := HS3.out _ (List.getElem_mem hjl)
          have hst2 : (parOf l d.ps[j]).isSome = true → ∀ m (h : m < d.ps.length), m < j + 1 → (parOf l d.ps[m]).isSome = true := fun h m hm hmj => by
            by_cases e : m = j
            · subst e; exact h
            · exact hall m hm (by omega)
          have hbd2 : (parOf l d.ps[j]).isSome = false → okD l d = false := fun h => by
            unfold okD
            have : d.ps.all (fun p => (parOf l p).isSome) = false := List.all_eq_false.2 ⟨d.ps[j], List.getElem_mem hjl, by simp [h]⟩
            rw [this]; rfl
          obtain ⟨p, hp⟩ : ∃ p, d.ps[j] = p := ⟨_, rfl⟩
          rw [hp] at q hpl hst2 hbd2
          have hlk := HMW.out.look_ok (t := 40) Tryz.underlying9 Tryz.underlying40 (zeroStrs _) (bs p) (by rw [bs_size]; unfold maxLen; omega)
          rw [HF.out.some p] at hlk
          cases hps : (parOf l p).isSome with
          | true =>
            rw [hps] at hlk
            have HN := Lib.hid (hst2 hps)
            clear hc2 hst2 hbd2 hall hp hps
            go_wp2_with fail
            go_round
            case rel => exact ⟨j + 1, by go_num, by omega, HN.out⟩
            case measure => simp [intOf]; omega
          | false =>
            rw [hps] at hlk
            have hF := HBD.out (hbd2 hps)
            subst hF
            clear hc2 hst2 hbd2 hall hp hps
            go_wp2_with fail
            go_ret
            exact ⟨rfl, HBW.out⟩
        · have hall2 : d.ps.all (fun p => (parOf l p).isSome) = true := List.all_eq_true.2 (fun x hx => by
            obtain ⟨m, hm, rfl⟩ := List.getElem_of_mem hx
            exact hall m hm (by omega))
          have hokd : okD l d = decide d.ps.Nodup := by unfold okD; rw [hall2]; rfl
          obtain ⟨nb, hnb⟩ : ∃ nb, decide d.ps.Nodup = nb := ⟨_, rfl⟩
          rw [hnb] at hokd HDF
          have HOKD := Lib.hid hokd
          clear hall hall2 hokd hnb
          go_wp2_with fail
          refine HDF.out.mono ?_; rintro e w5 ⟨rfl, hB5⟩
          have HM5 := Lib.hid (HMW.out.below hB5)
          have HB5 := Lib.hid (HBW.out.trans (hB5.mono HBW.out.size))
          clear hB5
          cases nb with
          | true =>
            have HN := Lib.hid (HST.out HOKD.out)
            go_wp2_with fail
            go_roundw
            case rel => exact ⟨k + 1, by go_num, by omega, HN.out, HM5.out, HB5.out⟩
            case measure => simp [intOf]; omega
          | false =>
            have hF := HBD.out HOKD.out
            subst hF
            go_wp2_with fail
            go_ret
            exact ⟨rfl, HB5.out⟩
    · have hF : cb = true := by
        rw [← HCB.out]
        exact List.all_eq_true.2 (fun x hx => by
          obtain ⟨j, hj, rfl⟩ := List.getElem_of_mem hx
          exact hok j hj (by omega))
      subst hF
      have HB := Lib.hid hB
      clear hok hM hB
      go_wp2_with fail
      go_ret
      exact ⟨rfl, HB.out⟩
end Go.Proofs.YtmnhnighlgpjmaaGreat

namespace Go.Proofs.YtmnhnighlgpjmaaGreat
set_option linter.unusedVariables false
set_option linter.unusedSimpArgs false
open Go.RowKit

def nodeOf : List Str → Str → Nat
  | [], _ => 0
  | a :: l, s => if a = s then 0 else nodeOf l s + 1
theorem nodeOf_lt : ∀ {N : List Str} {s : Str}, s ∈ N → nodeOf N s < N.length
  | [], s, h => by cases h
  | a :: l, s, h => by
    unfold nodeOf
    by_cases e : a = s
    · rw [if_pos e]; simp
    · rw [if_neg e, List.length_cons]
      have := nodeOf_lt (N := l) (s := s) ((List.mem_cons.1 h).resolve_left (fun h => e h.symm))
      omega
theorem nodeOf_at : ∀ {N : List Str} {s : Str}, s ∈ N → N[nodeOf N s]? = some s
  | [], s, h => by cases h
  | a :: l, s, h => by
    unfold nodeOf
    by_cases e : a = s
    · rw [if_pos e, e]; rfl
    · rw [if_neg e, List.getElem?_cons_succ]
      exact nodeOf_at ((List.mem_cons.1 h).resolve_left (fun h => e h.symm))
theorem nodeOf_get : ∀ {N : List Str} (hn : N.Nodup) (k : Nat) (hk : k < N.length), nodeOf N N[k] = k
  | [], _, k, hk => by simp at hk
  | a :: l, hn, 0, hk => by show (if a = a then 0 else _) = 0; rw [if_pos rfl]
  | a :: l, hn, k + 1, hk => by
    have hk2 : k < l.length := by simpa using hk
    have h : a ≠ l[k] := fun e => (List.nodup_cons.1 hn).1 (by rw [e]; exact List.getElem_mem hk2)
    show (if a = l[k] then 0 else nodeOf l l[k] + 1) = k + 1
    rw [if_neg h, nodeOf_get (List.nodup_cons.1 hn).2 k hk2]
theorem nodeOf_inj {N : List Str} {a b : Str} (ha : a ∈ N) (hb : b ∈ N) (h : nodeOf N a = nodeOf N b) : a = b := by
  have h1 := nodeOf_at ha
  rw [h, nodeOf_at hb] at h1
  injection h1 with h1
  exact h1.symm
def nodeF (N : List Str) (k : Nat) (x : ByteArray) : Option Value := if x.data.toList ∈ N.take k then some (.int .i64 (nodeOf N x.data.toList : Nat)) else none
theorem nodeF_zero (N : List Str) : nodeF N 0 = fun _ => none := by funext x; simp [nodeF]
theorem nodeF_upd {N : List Str} (hn : N.Nodup) (k : Nat) (hk : k < N.length) : upd (nodeF N k) (bs N[k]) (.int .i64 (k : Nat)) = nodeF N (k + 1) := by
  funext x
  unfold upd nodeF
  have e : x = bs N[k] ↔ x.data.toList = N[k] := ⟨fun h => by rw [h]; simp [bs], fun h => by rw [← h, bs_data]⟩
  rw [List.take_succ_eq_append_getElem hk]
  by_cases h : x = bs N[k]
  · rw [if_pos h, if_pos (by rw [e.1 h]; exact List.mem_append.2 (.inr (List.mem_singleton.2 rfl))), e.1 h, nodeOf_get hn]
  · rw [if_neg h]
    by_cases h2 : x.data.toList ∈ N.take k
    · rw [if_pos h2, if_pos (List.mem_append_left _ h2)]
    · rw [if_neg h2, if_neg (fun h3 => by
        rcases List.mem_append.1 h3 with h3 | h3
        · exact h2 h3
        · exact h (e.2 (List.mem_singleton.1 h3)))]
theorem nodeF_all {N : List Str} {s : Str} (h : s ∈ N) : nodeF N N.length (bs s) = some (.int .i64 (nodeOf N s : Nat)) := by
  unfold nodeF
  rw [List.take_length, show (bs s).data.toList = s by simp [bs], if_pos h]
def arcD (N : List Str) (d : Vd) : List Sp := d.ps.map fun p => ⟨(nodeOf N d.nm : Nat), (nodeOf N p : Nat)⟩
def arcsV (N : List Str) (l : VL) : List Sp := l.flatMap (arcD N)
theorem arcD_len (N : List Str) (d : Vd) : (arcD N d).length = d.ps.length := by simp [arcD]
theorem arcD_take (N : List Str) (d : Vd) (j : Nat) (hj : j < d.ps.length) : (arcD N d).take (j + 1) = (arcD N d).take j ++ [⟨(nodeOf N d.nm : Nat), (nodeOf N d.ps[j] : Nat)⟩] := by
  rw [List.take_succ_eq_append_getElem (by rw [arcD_len]; exact hj)]
  simp [arcD]
theorem arcsV_take (N : List Str) (l : VL) (k : Nat) (hk : k < l.length) : arcsV N (l.take (k + 1)) = arcsV N (l.take k) ++ arcD N l[k] := by
  unfold arcsV
  rw [List.take_succ_eq_append_getElem hk, List.flatMap_append]; simp
theorem arcsV_len (N : List Str) (l : VL) : (arcsV N l).length = (l.flatMap (·.ps)).length := by
  unfold arcsV
  induction l with
  | nil => rfl
  | cons d l ih => rw [List.flatMap_cons, List.flatMap_cons, List.length_append, List.length_append, ih, arcD_len]
theorem flat_take (l : VL) (k : Nat) (hk : k < l.length) : ((l.take k).flatMap (·.ps)).length + l[k].ps.length ≤ (l.flatMap (·.ps)).length := by
  have h : l = l.take k ++ l[k] :: l.drop (k + 1) := by rw [List.getElem_cons_drop, List.take_append_drop]
  have h2 : (l.flatMap (·.ps)).length = ((l.take k ++ l[k] :: l.drop (k + 1)).flatMap (·.ps)).length := by rw [← h]
  rw [h2, List.flatMap_append, List.flatMap_cons, List.length_append, List.length_append]
  omega
theorem OwnS.at {w : World} {base n cap : Nat} {A : Option Addr} {l : List Str} (h : OwnS w base (.slice A n cap) l) (i : Nat) (hi : i < l.length) : ∃ b off, A = some ⟨b, off, none⟩ ∧ w.cell? ⟨b, off + i, none⟩ = some (.string (bs l[i])) := by
  obtain ⟨A2, cap2, he, _, _, _, hr⟩ := h.srow
  injection he with e1 e2 e3
  subst e1
  obtain ⟨b, off, ha, _, hc⟩ := hr (by omega)
  exact ⟨b, off, ha, hc i hi⟩
theorem OwnS.base_le' {w : World} {base base' : Nat} {v : Value} {l : List Str} (h : OwnS w base v l) (hb : base' ≤ base) : OwnS w base' v l := by
  refine ⟨h.1, ?_⟩
  rcases h.2 with h | ⟨g, cap, cur, h1, h2, r⟩
  · exact .inl h
  · exact .inr ⟨g, cap, cur, h1, Nat.le_trans hb h2, r⟩
def A1Rel (N : List Str) (ms : Nat) (u : Value) (w : World) (i : Value) (wl : World) : Prop := ∃ k : Nat, i = .int .i64 k ∧ k ≤ N.length ∧ MapIs 9 wl ms k (nodeF N k) ∧ OwnS wl w.heap.size u N ∧ Below w.heap.size w wl
structure ArSt (w wl : World) (ms : Nat) (N : List Str) (s : Value) (L : List Sp) : Prop where
  m : MapIs 9 wl ms N.length (nodeF N N.length)
  o : Own wl w.heap.size s L
  b : Below w.heap.size w wl
theorem zeroInt (w : World) : (zeroValue 3).run Tryz.prog w = .ok (.int .i64 0) w := by kernel_rfl
theorem ArSt.look {w wl : World} {ms : Nat} {N : List Str} {s : Value} {L : List Sp} (h : ArSt w wl ms N s L) (x : Str) (hx : x ∈ N) (hl : x.length ≤ 1000) : (Instr.lookup 55 (.map (some ms)) (.string (bs x)) false).run Tryz.prog wl = .ok (.int .i64 (nodeOf N x : Nat)) wl := by
  have := h.m.look (t := 55) Tryz.underlying9 Tryz.underlying55 (zeroInt wl) (bs x) (by rw [bs_size]; unfold maxLen; omega)
  rw [nodeF_all hx] at this
  exact this
theorem ArSt.below {w wl w' : World} {ms : Nat} {N : List Str} {s : Value} {L : List Sp} (h : ArSt w wl ms N s L) (hb : Below wl.heap.size wl w') : ArSt w w' ms N s L :=
  ⟨h.m.below hb, h.o.below hb, h.b.trans (hb.mono h.b.size)⟩
theorem not_blk2 {w : World} {base sz : Nat} {e t : TypeId} {v : Value} {n b : Nat} {xs : List Value} {cs : Array Value} (h : w.ownsRow base e sz v n xs) (hb : Blk w b t cs) (hne : t ≠ e) : some b ≠ v.ownBlock := by
  intro hv
  rcases h.2 with ⟨rfl, _⟩ | ⟨g, cap, cur, rfl, _, hg, _⟩
  · simp [Value.ownBlock] at hv
  · simp [Value.ownBlock] at hv
    subst hv
    unfold Blk at hb
    rw [hb] at hg
    injection hg with hg
    injection hg with _ h2
    exact hne h2
theorem ArSt.push {w wl : World} {ms : Nat} {N : List Str} {s : Value} {L : List Sp} (h : ArSt w wl ms N s L) (a b : Nat) (hL : L.length ≤ 900) (ha : a ≤ 1000) (hb : b ≤ 1000) {bx : Nat} {cs : Array Value} (hbx : Blk wl bx 32 cs) :
    ∃ g cap w3, (Builtin.append_ #[35, 35] 35 #[s, .slice (some ⟨wl.heap.size, 0, none⟩) 1 1]).run Tryz.prog (wl.alloc (.cells #[.int .i64 (a : Nat), .int .i64 (b : Nat)] 53)) = .ok (.slice (some ⟨g, 0, none⟩) (L.length + 1) cap) w3 ∧ ArSt w w3 ms N (.slice (some ⟨g, 0, none⟩) (L.length + 1) cap) (L ++ [⟨a, b⟩]) ∧ Blk w3 bx 32 cs := by
  obtain ⟨i0, hi, hz0, hz1, hz2⟩ := info_parts infoSp
  have h1 := h.below (below_new wl (.cells #[.int .i64 (a : Nat), .int .i64 (b : Nat)] 53))
  have hbx1 := hbx.below (below_new wl (.cells #[.int .i64 (a : Nat), .int .i64 (b : Nat)] 53)) hbx.lt
  obtain ⟨v', w3, hrun, ho3, hg3, _, _⟩ := run_append_own_at (P := Tryz.prog) (wl.alloc (.cells #[.int .i64 (a : Nat), .int .i64 (b : Nat)] 53)) w.heap.size 35 35 53 i0 (.agg #[.int .i64 0, .int .i64 0]) 2 16 Tryz.underlying35 hi hz0 hz1 hz2 rfl (by decide) _ _ _ h1.o.row ⟨wl.heap.size, 0, none⟩ 1 1 [.int .i64 (a : Nat), .int .i64 (b : Nat)] rfl (fun j u hu => by
    match j with
    | 0 =>
      simp at hu
      subst hu
      exact (Blk.new wl _ _).cell 0
    | 1 =>
      simp at hu
      subst hu
      exact (Blk.new wl _ _).cell 1
    | j + 2 => simp at hu) (fun u hu => by
      rcases List.mem_cons.1 hu with rfl | hu
      · rfl
      · rw [List.mem_singleton.1 hu]; rfl) (by unfold maxLen; omega) (by omega) h1.b.size
  obtain ⟨g, cap, cur, hv, _⟩ : ∃ g cap cur, v' = .slice (some ⟨g, 0, none⟩) (L.length + 1) cap ∧ w3.heap[g]? = some (.cells cur 53 (0, 0)) := by
    rcases ho3.2 with ⟨_, h0⟩ | ⟨g, cap, cur, hv, _, hg, _⟩
    · omega
    · exact ⟨g, cap, cur, hv, hg⟩
  subst hv
  refine ⟨g, cap, w3, hrun, ⟨h1.m.kept hg3 (h1.m.ne_own h1.o.row), ⟨?_, ?_, ?_⟩, h1.b.grown hg3 h1.b.size (fun k hk => (World.ownsRow.lt h1.o.row k hk).1)⟩, hbx1.grown hg3 (not_blk2 h1.o.row hbx1 (by decide))⟩
  · rw [sc_append, List.length_append]
    exact ho3
  · intro x hx
    rcases List.mem_append.1 hx with hx | hx
    · exact h.o.wf x hx
    · rw [List.mem_singleton.1 hx]
      exact ⟨by show (-9223372036854775808 : Int) ≤ (a : Int); omega, by show (a : Int) ≤ _; omega, by show (-9223372036854775808 : Int) ≤ (b : Int); omega, by show (b : Int) ≤ _; omega⟩
  · simp; omega
def ArPost (N : List Str) (l : VL) (w : World) (e : Ending) (w' : World) : Prop := ∃ s, e = .returned s ∧ Own w' w.heap.size s (arcsV N l) ∧ Below w.heap.size w w'
def A2Rel (l : VL) (N : List Str) (ms : Nat) (w : World) (s i : Value) (wl : World) : Prop := ∃ k : Nat, i = .int .i64 k ∧ k ≤ l.length ∧ ArSt w wl ms N s (arcsV N (l.take k))
def A3Rel (l : VL) (N : List Str) (ms k bx : Nat) (d : Vd) (cs : Array Value) (w : World) (s i : Value) (wl : World) : Prop := ∃ j : Nat, i = .int .i64 j ∧ j ≤ d.ps.length ∧ ArSt w wl ms N s (arcsV N (l.take k) ++ (arcD N d).take j) ∧ Blk wl bx 32 cs
theorem Own.nil (w : World) (base : Nat) : Own w base (.slice none 0 0) [] := ⟨World.ownsRow_nil _ _ _ _, (fun s h => by cases h), by simp⟩
end Go.Proofs.YtmnhnighlgpjmaaGreat

namespace Go.Proofs.YtmnhnighlgpjmaaGreat
set_option linter.unusedVariables false
set_option linter.unusedSimpArgs false
open Go.RowKit

set_option maxRecDepth 100000 in
set_option maxHeartbeats 8000000 in
theorem arcsP (v : Value) (l : VL) (w : World) (hl : l.length ≤ 900) (hs : ∀ d ∈ l, d.nm.length ≤ 1000 ∧ ∀ p ∈ d.ps, p.length ≤ 1000) (hnd : (names l).Nodup) (hcl : ∀ d ∈ l, ∀ p ∈ d.ps, p ∈ names l) (hfl : (l.flatMap (·.ps)).length ≤ 900) (hr : VRow w w.heap.size v l) :
    Calls Tryz.prog 19 #[v] w (ArPost (srtS (names l)) l w) := by
  obtain ⟨N, hN⟩ : ∃ N, srtS (names l) = N := ⟨_, rfl⟩
  rw [hN]
  have hperm := srtS_perm (names l)
  rw [hN] at hperm
  have hNl : N.length = l.length := by rw [hperm.length_eq]; simp [names]
  have hNn : N.Nodup := hperm.nodup_iff.2 hnd
  have hNs : ∀ s ∈ N, s.length ≤ 1000 := fun s h => by
    obtain ⟨d, hd, rfl⟩ := List.mem_map.1 (hperm.mem_iff.1 h)
    exact (hs d hd).1
  have hNm : ∀ d ∈ l, d.nm ∈ N ∧ ∀ p ∈ d.ps, p ∈ N := fun d hd => ⟨hperm.mem_iff.2 (List.mem_map.2 ⟨d, hd, rfl⟩), fun p hp => hperm.mem_iff.2 (hcl d hd p hp)⟩
  have hmm := @run_makeMap Tryz.prog
  have hB0 : Below w.heap.size w (w.alloc (.map #[] 0)) := (Below.refl _ _).alloc (Nat.le_refl _) _
  have hNP := namesP v l (w.alloc (.map #[] 0)) (by omega) (hr.keep hB0)
  unfold NmPost at hNP
  rw [hN] at hNP
  have HNP := Lib.hid hNP
  have HM0 : Hid (MapIs 9 (w.alloc (.map #[] 0)) w.heap.size 0 (fun _ => none)) := Lib.hid (MapIs.new _ _)
  obtain ⟨A, cap, rfl, h1, h2, h3, hA⟩ := hr
  have HA := Lib.hid hA
  have HS := Lib.hid hs
  have HNN := Lib.hid hNn
  have HNS := Lib.hid hNs
  have HNM := Lib.hid hNm
  have HNL := Lib.hid hNl
  have hNle : N.length ≤ 900 := by omega
  have HFL : Hid (∀ k (h : k < l.length), ((l.take k).flatMap (·.ps)).length + l[k].ps.length ≤ 900) := Lib.hid (fun k h => by have := flat_take l k h; omega)
  have HB0 := Lib.hid hB0
  clear hperm hNl hNn hNs hNm hB0 hNP hA hs hnd hcl hfl h1 h2 h3 hN
  go_enter Tryz.func19, Tryz.ntmps19
  go_wp2_with fail
  clear hmm
  refine HNP.out.mono ?_; rintro e w1 ⟨u, rfl, ho, hB⟩
  have ho2 := ho.base_le' (show w.heap.size ≤ (w.alloc (.map #[] 0)).heap.size by simp)
  obtain ⟨uA, ucap, rfl, _⟩ := id ho2.srow
  have HO := Lib.hid ho2
  have HM1 : Hid (MapIs 9 w1 w.heap.size 0 (nodeF N 0)) := Lib.hid (by rw [nodeF_zero]; exact HM0.out.below hB)
  have HB1 := Lib.hid (HB0.out.trans (hB.mono HB0.out.size))
  clear ho ho2 hB HNP HM0 HB0
  go_wp2_with fail
  go_loopw [15] (fun i wl => A1Rel N w.heap.size (.slice uA N.length ucap) w i wl) (fun i _ => N.length - (intOf i).toNat)
  case atStart => exact ⟨0, rfl, by omega, HM1.out, HO.out, HB1.out⟩
  case round =>
    clear HM1 HO HB1
    obtain ⟨k, rfl, hk, hM, ho, hB⟩ := hrel
    by_cases hlt : k < N.length
    · obtain ⟨b, off, rfl, c1⟩ := ho.at k hlt
      have hsz := HNS.out _ (List.getElem_mem hlt)
      obtain ⟨w2, hput, hM2, hg2, hsz2⟩ := hM.put (t := 55) Tryz.underlying9 Tryz.underlying55 (by unfold maxLen; omega) (bs N[k]) (by rw [bs_size]; unfold maxLen; omega) (.int .i64 (k : Nat))
      rw [nodeF_upd HNN.out k hlt] at hM2
      obtain ⟨s, hs⟩ : ∃ s, N[k] = s := ⟨_, rfl⟩
      rw [hs] at c1 hput
      have HM2 := Lib.hid hM2
      have HO2 : Hid (OwnS w2 w.heap.size (.slice (some ⟨b, off, none⟩) N.length ucap) N) := Lib.hid (World.ownsRow.kept ho hg2 (own_or (hM.ne_own ho)))
      have HB2 := Lib.hid (hB.trans (Below.of_grown hg2 hB.size (Nat.le_refl _)))
      have HPUT := Lib.hid hput
      clear hM ho hB hs hput hM2 hg2 hsz2
      go_wp2_with (at_mapUpdate; refine wpList_mapput rfl _ _ _ _ rfl HPUT.out rfl rfl rfl ?_)
      go_roundw
      case rel => exact ⟨k + 1, by go_num, by omega, HM2.out, HO2.out, HB2.out⟩
      case measure => simp [intOf]; omega
    · obtain rfl : N.length = k := by omega
      have HA0 : Hid (ArSt w wr w.heap.size N (.slice none 0 0) (arcsV N (l.take 0))) := Lib.hid ⟨hM, by rw [List.take_zero]; exact Own.nil _ _, hB⟩
      clear hM ho hB
      go_wp2_with fail
      go_loopw [6, 26] (fun s i wl => A2Rel l N w.heap.size w s i wl) (fun _ i _ => l.length - (intOf i).toNat)
      case atStart => exact ⟨0, rfl, by omega, HA0.out⟩
      case round =>
        clear HA0
        obtain ⟨k, rfl, hk2, hSt⟩ := hrel
        by_cases hlt2 : k < l.length
        · obtain ⟨b, off, rfl, hb1, hc⟩ := HA.out (by omega)
          obtain ⟨u, c1, c2, hu⟩ := hc k hlt2
          have c1' := (hSt.b.cell (p := ⟨b, off + k * 2, none⟩) hb1).trans c1
          have c2' := (hSt.b.cell (p := ⟨b, off + k * 2 + 1, none⟩) hb1).trans c2
          obtain ⟨hs1, hs3⟩ := HS.out _ (List.getElem_mem hlt2)
          obtain ⟨hm1, hm3⟩ := HNM.out _ (List.getElem_mem hlt2)
          have hfl := HFL.out k hlt2
          have hvt := arcsV_take N l k hlt2
          have hvl := arcsV_len N (l.take k)
          obtain ⟨d, hd⟩ : ∃ d, l[k] = d := ⟨_, rfl⟩
          rw [hd] at c1' hu hs1 hs3 hm1 hm3 hfl hvt
          obtain ⟨pA, pcap, hu1, hu2, hu3, hu4, hur⟩ := id hu
          subst hu1
          have hSt2 := hSt.below (below_new wr (.cells #[.string (bs d.nm), .slice pA d.ps.length pcap] 32))
          have hbk := Blk.new wr 32 #[.string (bs d.nm), .slice pA d.ps.length pcap]
          obtain ⟨wo, hwo⟩ : ∃ wo : World, wo = wr := ⟨_, rfl⟩
          subst hwo
          have HST : Hid (ArSt w (wo.alloc (.cells #[.string (bs d.nm), .slice pA d.ps.length pcap] 32)) w.heap.size N u6 (arcsV N (l.take k) ++ (arcD N d).take 0)) := Lib.hid (by rw [List.take_zero, List.append_nil]; exact hSt2)
          have HBK := Lib.hid hbk
          have HUR := Lib.hid hur
          have HS3 := Lib.hid hs3
          have HM3 := Lib.hid hm3
          have HVT := Lib.hid hvt
          have HVL : Hid (∀ j, j ≤ d.ps.length → (arcsV N (l.take k) ++ (arcD N d).take j).length ≤ 900) := Lib.hid (fun j hj => by
            rw [List.length_append, hvl, List.length_take, arcD_len]; omega)
          have hps9 : d.ps.length ≤ 900 := by omega
          clear hSt hc c1 c2 hs3 hm3 hfl hvt hvl hd hu hur hSt2 hbk hu2 hu3 hu4
          go_wp2_with fail
          go_loopw [6, 33] (fun s i wl => A3Rel l N w.heap.size k wo.heap.size d #[.string (bs d.nm), .slice pA d.ps.length pcap] w s i wl) (fun _ i _ => d.ps.length - (intOf i).toNat)
          case atStart => exact ⟨0, rfl, by omega, HST.out, HBK.out⟩
          case round =>
            clear HST HBK
            obtain ⟨j, rfl, hj, hSt, hbk⟩ := hrel
            by_cases hjl : j < d.ps.length
            · obtain ⟨b2, off2, rfl, hb2, hc2⟩ := HUR.out (by omega)
              have q := (hSt.b.cell (p := ⟨b2, off2 + j, none⟩) hb2).trans (hc2 j hjl)
              have q0 : wr.cell? ⟨wo.heap.size, 0, none⟩ = some (.string (bs d.nm)) := hbk.cell 0
              have hl1 := hSt.look d.nm hm1 hs1
              have hpm := HM3.out _ (List.getElem_mem hjl)
              have hpz := HS3.out _ (List.getElem_mem hjl)
              have hl2 := hSt.look d.ps[j] hpm hpz
              have hat := arcD_take N d j hjl
              obtain ⟨p, hp⟩ : ∃ p, d.ps[j] = p := ⟨_, rfl⟩
              rw [hp] at q hl2 hat hpm
              have hn1 := nodeOf_lt hm1
              have hn2 := nodeOf_lt hpm
              obtain ⟨x, hx⟩ : ∃ x, nodeOf N d.nm = x := ⟨_, rfl⟩
              obtain ⟨y, hy⟩ : ∃ y, nodeOf N p = y := ⟨_, rfl⟩
              rw [hx] at hl1 hn1 hat
              rw [hy] at hl2 hn2 hat
              obtain ⟨g, gcap, w3, hrun, hSt3, hbk3⟩ := hSt.push x y (HVL.out j (by omega)) (by omega) (by omega) hbk
              rw [List.append_assoc, ← hat] at hSt3
              obtain ⟨q9, hq9⟩ : ∃ q9, (arcsV N (l.take k) ++ (arcD N d).take j).length + 1 = q9 := ⟨_, rfl⟩
              rw [hq9] at hrun hSt3
              have HRUN := Lib.hid hrun
              have HST3 := Lib.hid hSt3
              have HBK3 := Lib.hid hbk3
              clear hSt hbk hc2 hat hp hx hy hrun hSt3 hbk3 hq9 hpm hn1 hn2
              go_wp2_with (at_builtin; refine Lib.wpList_append_run_sl _ rfl _ _ 35 rfl _ _ rfl rfl HRUN.out ?_)
              go_roundw
              case rel => exact ⟨j + 1, by go_num, by omega, HST3.out, HBK3.out⟩
              case measure => simp [intOf]; omega
            · have hSt4 : ArSt w wr w.heap.size N u6 (arcsV N (l.take (k + 1))) := by
                rw [HVT.out]
                rw [List.take_of_length_le (l := arcD N d) (by rw [arcD_len]; omega)] at hSt
                exact hSt
              have HST4 := Lib.hid hSt4
              clear hSt hSt4 hbk
              go_wp2_with fail
              go_roundw
              case rel => exact ⟨k + 1, by go_num, by omega, HST4.out⟩
              case measure => simp [intOf]; omega
        · rw [List.take_of_length_le (by omega)] at hSt
          have HF : Hid (ArPost N l w (.returned u6) wr) := Lib.hid ⟨_, rfl, hSt.o, hSt.b⟩
          clear hSt
          go_wp2_with fail
          go_ret
          exact HF.out
end Go.Proofs.YtmnhnighlgpjmaaGreat

namespace Go.Proofs.YtmnhnighlgpjmaaGreat
set_option linter.unusedVariables false
set_option linter.unusedSimpArgs false

/-- What is known of a list whose names are different and whose parents are names. -/
structure Gr (l : VL) : Prop where
  nd : (names l).Nodup
  cl : ∀ d ∈ l, ∀ p ∈ d.ps, p ∈ names l
  len : l.length ≤ 900
def nn (l : VL) : List Str := srtS (names l)
theorem nn_mem {l : VL} {s : Str} : s ∈ nn l ↔ s ∈ names l := (srtS_perm _).mem_iff
theorem nn_nodup {l : VL} (h : (names l).Nodup) : (nn l).Nodup := (srtS_perm _).nodup_iff.2 h
theorem nn_len (l : VL) : (nn l).length = l.length := by unfold nn; rw [srtS_len]; simp [names]
def gA (l : VL) : Arcs := toA (arcsV (nn l) l)
theorem mem_gA {l : VL} {a b : Nat} : (a, b) ∈ gA l ↔ ∃ d ∈ l, ∃ p ∈ d.ps, a = nodeOf (nn l) d.nm ∧ b = nodeOf (nn l) p := by
  unfold gA toA arcsV arcD
  simp only [List.mem_map, List.mem_flatMap]
  constructor
  · rintro ⟨s, ⟨d, hd, p, hp, rfl⟩, he⟩
    injection he with e1 e2
    simp at e1 e2
    exact ⟨d, hd, p, hp, e1.symm, e2.symm⟩
  · rintro ⟨d, hd, p, hp, rfl, rfl⟩
    exact ⟨_, ⟨d, hd, p, hp, rfl⟩, by simp⟩
theorem Gr.lt {l : VL} (h : Gr l) : ∀ a ∈ gA l, a.1 < l.length ∧ a.2 < l.length := by
  rintro ⟨a, b⟩ hab
  obtain ⟨d, hd, p, hp, rfl, rfl⟩ := mem_gA.1 hab
  have h1 := nodeOf_lt (nn_mem.2 (List.mem_map.2 ⟨d, hd, rfl⟩) : d.nm ∈ nn l)
  have h2 := nodeOf_lt (nn_mem.2 (h.cl d hd p hp) : p ∈ nn l)
  rw [nn_len] at h1 h2
  exact ⟨h1, h2⟩
theorem Gr.right {l : VL} (h : Gr l) : rightB (l.length : Nat) (arcsV (nn l) l) = true := by
  unfold rightB
  have hl := h.len
  rw [decide_eq_true (by omega), decide_eq_true (by omega)]
  simp only [Bool.and_self, Bool.true_and, Bool.not_eq_true', List.any_eq_false]
  intro s hs
  unfold arcsV arcD at hs
  obtain ⟨d, hd, hs⟩ := List.mem_flatMap.1 hs
  obtain ⟨p, hp, rfl⟩ := List.mem_map.1 hs
  have h1 := nodeOf_lt (nn_mem.2 (List.mem_map.2 ⟨d, hd, rfl⟩) : d.nm ∈ nn l)
  have h2 := nodeOf_lt (nn_mem.2 (h.cl d hd p hp) : p ∈ nn l)
  rw [nn_len] at h1 h2
  unfold badB
  have e1 : nodeB (l.length : Nat) (nodeOf (nn l) d.nm : Nat) = true := nodeB_iff.2 ⟨by omega, by omega⟩
  have e2 : nodeB (l.length : Nat) (nodeOf (nn l) p : Nat) = true := nodeB_iff.2 ⟨by omega, by omega⟩
  simp [e1, e2]
theorem parOf_mem : ∀ {l : VL} (hn : (names l).Nodup) {d : Vd} (hd : d ∈ l), parOf l d.nm = some d.ps
  | e :: l, hn, d, hd => by
    unfold parOf
    rcases List.mem_cons.1 hd with rfl | h
    · rw [if_pos rfl]
    · have h1 := List.nodup_cons.1 (show (e.nm :: names l).Nodup from hn)
      rw [if_neg (fun x : e.nm = d.nm => h1.1 (by rw [x]; exact List.mem_map.2 ⟨d, h, rfl⟩))]
      exact parOf_mem h1.2 h
theorem pars_mem {l : VL} (hn : (names l).Nodup) {d : Vd} (hd : d ∈ l) : pars l d.nm = d.ps := by unfold pars; rw [parOf_mem hn hd]; rfl
theorem Gr.sv_in {l : VL} (h : Gr l) {x y : Str} (hx : x ∈ nn l) (hs : Sv l x y) : y ∈ nn l :=
  hs.closed (S := fun z => z ∈ nn l) hx (fun z _ p hp => by
    obtain ⟨d, hd, _, hp2, _⟩ := mem_pars hp
    exact nn_mem.2 (h.cl d hd p hp2))
theorem Gr.rt {l : VL} (h : Gr l) {x y : Str} (hx : x ∈ nn l) (hs : Sv l x y) : RT (gA l) (nodeOf (nn l) x) (nodeOf (nn l) y) := by
  induction hs with
  | refl => exact .refl
  | step h1 h2 ih =>
    obtain ⟨d, hd, hnm, hp, _⟩ := mem_pars h1
    have := ih (nn_mem.2 (h.cl d hd _ hp))
    exact (RT.one (mem_gA.2 ⟨d, hd, _, hp, by rw [hnm], rfl⟩)).trans this
theorem Gr.sv_of {l : VL} (h : Gr l) {x : Str} (hx : x ∈ nn l) {w : Nat} (hr : RT (gA l) (nodeOf (nn l) x) w) : ∃ y, y ∈ nn l ∧ nodeOf (nn l) y = w ∧ Sv l x y := by
  induction hr with
  | refl => exact ⟨x, hx, rfl, .refl _⟩
  | step _ h2 ih =>
    obtain ⟨y, hy, rfl, hs⟩ := ih
    obtain ⟨d, hd, p, hp, e1, rfl⟩ := mem_gA.1 h2
    have hdn : d.nm ∈ nn l := nn_mem.2 (List.mem_map.2 ⟨d, hd, rfl⟩)
    have e := nodeOf_inj hy hdn e1
    subst e
    exact ⟨p, nn_mem.2 (h.cl d hd p hp), rfl, hs.trans (.one (by rw [pars_mem h.nd hd]; exact hp))⟩
theorem Gr.sv_iff {l : VL} (h : Gr l) {x y : Str} (hx : x ∈ nn l) (hy : y ∈ nn l) : Sv l x y ↔ RT (gA l) (nodeOf (nn l) x) (nodeOf (nn l) y) := by
  refine ⟨h.rt hx, fun hr => ?_⟩
  obtain ⟨z, hz, he, hs⟩ := h.sv_of hx hr
  rw [← nodeOf_inj hz hy he]; exact hs
/-- No declaration serves itself by way of a parent. -/
def Acy (l : VL) : Prop := ∀ d ∈ l, ∀ p ∈ d.ps, ¬ Sv l p d.nm
theorem Gr.loop {l : VL} (h : Gr l) : (∀ v, v < l.length → ¬ onLoop (gA l) l.length v) ↔ Acy l := by
  constructor
  · intro hno d hd p hp hs
    have hdn : d.nm ∈ nn l := nn_mem.2 (List.mem_map.2 ⟨d, hd, rfl⟩)
    have hpn : p ∈ nn l := nn_mem.2 (h.cl d hd p hp)
    have hl := nodeOf_lt hdn
    have hl2 := nodeOf_lt hpn
    rw [nn_len] at hl hl2
    have ha : (nodeOf (nn l) d.nm, nodeOf (nn l) p) ∈ gA l := mem_gA.2 ⟨d, hd, p, hp, rfl, rfl⟩
    refine hno _ hl ?_
    by_cases e : nodeOf (nn l) p = nodeOf (nn l) d.nm
    · exact .inl (by rw [e] at ha; exact ha)
    · exact .inr ⟨_, hl2, e, .one ha, h.rt hpn hs⟩
  · intro hac v hv ho
    have key : ∃ u, (u, v) ∈ gA l ∧ RT (gA l) v u := by
      rcases ho with h1 | ⟨w, _, hwv, h1, h2⟩
      · exact ⟨v, h1, .refl⟩
      · rcases h2.last with e | ⟨u, h3, h4⟩
        · exact absurd e hwv
        · exact ⟨u, h4, h1.trans h3⟩
    obtain ⟨u, h1, h2⟩ := key
    obtain ⟨d, hd, p, hp, rfl, rfl⟩ := mem_gA.1 h1
    have hdn : d.nm ∈ nn l := nn_mem.2 (List.mem_map.2 ⟨d, hd, rfl⟩)
    have hpn : p ∈ nn l := nn_mem.2 (h.cl d hd p hp)
    exact hac d hd p hp ((h.sv_iff hpn hdn).2 h2)
theorem Gr.loopIs {l : VL} (h : Gr l) {p : List Nat} (hp : LoopIs (l.length : Nat) (arcsV (nn l) l) p) : p = [] ↔ Acy l := by
  rw [← h.loop]
  rcases hp with ⟨_, hp⟩ | ⟨hp, _⟩
  · rw [Int.toNat_natCast] at hp
    obtain ⟨m, hm, ⟨rfl, rfl⟩ | ⟨hlt, q, _, _, rfl⟩⟩ := hp
    · exact ⟨fun _ v hv ho => by have := hm.min v hv ho; omega, fun _ => rfl⟩
    · exact ⟨(fun e => by cases e), fun hno => absurd (hm.on hlt) (hno m hlt)⟩
  · rw [h.right] at hp; cases hp
/-- Right. -/
noncomputable def acyB (l : VL) : Bool := @decide (Acy l) (Classical.propDecidable _)
theorem acyB_iff {l : VL} : acyB l = true ↔ Acy l := by unfold acyB; exact @decide_eq_true_iff _ (Classical.propDecidable _)
noncomputable def rightV (l : VL) : Bool := namedB l && closedB l && acyB l
theorem gr_of {l : VL} (hl : l.length ≤ 900) (h1 : namedB l = true) (h2 : closedB l = true) : Gr l := by
  unfold namedB at h1
  rw [Bool.and_eq_true, decide_eq_true_iff] at h1
  refine ⟨h1.1, fun d hd p hp => ?_, hl⟩
  have h3 := List.all_eq_true.1 h2 d hd
  unfold okD at h3
  rw [Bool.and_eq_true] at h3
  have h4 := List.all_eq_true.1 h3.1 p hp
  cases e : parOf l p with
  | none => rw [e] at h4; cases h4
  | some ps =>
    obtain ⟨i, hi, h5, _⟩ := parOf_some e
    exact List.mem_map.2 ⟨l[i], List.getElem_mem hi, h5⟩
theorem rightV_gr {l : VL} (hl : l.length ≤ 900) (h : rightV l = true) : Gr l ∧ Acy l := by
  unfold rightV at h
  rw [Bool.and_eq_true, Bool.and_eq_true] at h
  exact ⟨gr_of hl h.1.1 h.1.2, acyB_iff.1 h.2⟩
end Go.Proofs.YtmnhnighlgpjmaaGreat

namespace Go.Proofs.YtmnhnighlgpjmaaGreat
set_option linter.unusedVariables false
set_option linter.unusedSimpArgs false
open Go.RowKit

/-- Bounds within which the list can be walked. -/
structure Bd (l : VL) : Prop where
  len : l.length ≤ 900
  sz : ∀ d ∈ l, d.nm.length ≤ 1000 ∧ d.ps.length ≤ 900 ∧ ∀ p ∈ d.ps, p.length ≤ 1000
  fl : (l.flatMap (·.ps)).length ≤ 900
set_option maxRecDepth 100000 in
set_option maxHeartbeats 8000000 in
theorem vrightP (v : Value) (l : VL) (w : World) (hb : Bd l) (hr : VRow w w.heap.size v l) :
    Calls Tryz.prog 6 #[v] w fun e w' => e = .returned (.bool (rightV l)) ∧ Below w.heap.size w w' := by
  have hlen := hb.len
  have HNM := namedP v l w (by omega) (fun d hd => (hb.sz d hd).1) hr
  obtain ⟨rb, hrb⟩ : ∃ rb, rightV l = rb := ⟨_, rfl⟩
  have HRB := Lib.hid hrb
  rw [hrb]
  clear hrb
  obtain ⟨A, cap, rfl, _⟩ := id hr
  have hl4 : decide (l.length ≤ 4096) = true := decide_eq_true (by omega)
  have HR := Lib.hid hr
  cases h1 : namedB l with
  | false =>
    have hF : rb = false := by rw [← HRB.out]; unfold rightV; rw [h1]; rfl
    subst hF
    rw [h1] at HNM
    have HNM := Lib.hid HNM
    clear hr h1
    go_enter Tryz.func6, Tryz.ntmps6
    go_wp2_with fail
    refine HNM.out.mono ?_; rintro e w1 ⟨rfl, hB⟩
    have HB := Lib.hid hB
    clear hB
    go_wp2_with fail
    go_ret
    exact ⟨rfl, HB.out⟩
  | true =>
    rw [h1] at HNM
    have HNM := Lib.hid HNM
    cases h2 : closedB l with
    | false =>
      have hF : rb = false := by rw [← HRB.out]; unfold rightV; rw [h1, h2]; rfl
      subst hF
      have HBD := Lib.hid hb
      clear hr h1
      have HC2 := Lib.hid h2
      clear h2
      go_enter Tryz.func6, Tryz.ntmps6
      go_wp2_with fail
      refine HNM.out.mono ?_; rintro e w1 ⟨rfl, hB⟩
      have hC := closedP _ l w1 (by omega) (fun d hd => ⟨(HBD.out.sz d hd).1, by have := (HBD.out.sz d hd).2.1; omega, (HBD.out.sz d hd).2.2⟩) (HR.out.keep hB)
      rw [HC2.out] at hC
      have HC := Lib.hid hC
      have HB := Lib.hid hB
      clear hB hC HNM
      go_wp2_with fail
      refine HC.out.mono ?_; rintro e w2 ⟨rfl, hB2⟩
      have HB2 := Lib.hid (HB.out.trans (hB2.mono HB.out.size))
      clear hB2 HC
      go_wp2_with fail
      go_ret
      exact ⟨rfl, HB2.out⟩
    | true =>
      have hg := gr_of hlen h1 h2
      have hF : rb = acyB l := by rw [← HRB.out]; unfold rightV; rw [h1, h2]; rfl
      have HG := Lib.hid hg
      have HF := Lib.hid hF
      have HBD := Lib.hid hb
      have HC2 := Lib.hid h2
      clear hr h1 h2 hg hF
      go_enter Tryz.func6, Tryz.ntmps6
      go_wp2_with fail
      refine HNM.out.mono ?_; rintro e w1 ⟨rfl, hB⟩
      have hC := closedP _ l w1 (by omega) (fun d hd => ⟨(HBD.out.sz d hd).1, by have := (HBD.out.sz d hd).2.1; omega, (HBD.out.sz d hd).2.2⟩) (HR.out.keep hB)
      rw [HC2.out] at hC
      have HC := Lib.hid hC
      have HB := Lib.hid hB
      clear hB hC HNM
      go_wp2_with fail
      refine HC.out.mono ?_; rintro e w2 ⟨rfl, hB2⟩
      have HB2 := Lib.hid (HB.out.trans (hB2.mono HB.out.size))
      have HA := Lib.hid (arcsP _ l w2 hlen (fun d hd => ⟨(HBD.out.sz d hd).1, (HBD.out.sz d hd).2.2⟩) HG.out.nd HG.out.cl HBD.out.fl (HR.out.keep HB2.out))
      clear hB2 HC HB
      go_wp2_with fail
      refine HA.out.mono ?_; rintro e w3 ⟨s, rfl, ho, hB3⟩
      have HB3 := Lib.hid (HB2.out.trans (hB3.mono HB2.out.size))
      have HL := Lib.hid (loop_all (l.length : Nat) s (arcsV (nn l) l) w3 (by omega) ho.len ho.srow)
      clear hB3 ho HA HB2
      go_wp2_with fail
      refine HL.out.mono ?_; rintro e w4 ⟨u, p, rfl, hI, hq, hB4⟩
      have hp := HG.out.loopIs hq
      have HB4 := Lib.hid (HB3.out.trans (hB4.mono HB3.out.size))
      obtain ⟨_, PA, pcap, rfl, _⟩ := hI
      rw [zi_length]
      clear hB4 HB3 hq HL
      cases hrb : rb with
      | true =>
        have hac := hp.2 (acyB_iff.1 (by rw [← HF.out, hrb]))
        subst hac
        clear hp
        go_wp2_with fail
        go_ret
        exact ⟨by rw [hrb]; rfl, HB4.out⟩
      | false =>
        have hpn : p ≠ [] := fun e => by
          have := acyB_iff.2 (hp.1 e)
          rw [← HF.out, hrb] at this; cases this
        have hp0 := List.length_pos_iff.2 hpn
        have hpl : ((p.length : Int) == 0) = false := by
          have : (p.length : Int) ≠ 0 := by omega
          simpa using this
        clear hp hpn
        go_wp2_with fail
        go_ret
        exact ⟨by rw [hrb]; rfl, HB4.out⟩
end Go.Proofs.YtmnhnighlgpjmaaGreat

namespace Go.Proofs.YtmnhnighlgpjmaaGreat
set_option linter.unusedVariables false
set_option linter.unusedSimpArgs false
open Go.RowKit

theorem irow_form' {w : World} {B : Nat} {v : Value} {l : List Nat} (h : IRow w B v (zi l)) (h0 : 0 < l.length) : ∃ b off c, v = .slice (some ⟨b, off, none⟩) l.length c ∧ b < B ∧ ∀ j (hj : j < l.length), w.cell? ⟨b, off + j, none⟩ = some (.int .i64 (l[j] : Nat)) := by
  obtain ⟨hl, A, c, hv, _, _, _, hA⟩ := h
  rw [zi_length] at hv
  obtain ⟨b, off, rfl, hB, hc⟩ := hA (by rw [zi_length]; exact h0)
  refine ⟨b, off, c, hv, hB, fun j hj => ?_⟩
  rw [hc j (by rw [zi_length]; exact hj)]
  simp [zi]
def vparts (l : VL) : List (List Nat) := partsOf (gA l) l.length
def vord (l : VL) (P : List (List Nat)) : List Str := P.map fun p => (nn l).getD (p.headD 0) []
def orderOf (l : VL) : List Str := vord l (vparts l)
theorem vparts_len (l : VL) : (vparts l).length ≤ l.length := partsGo_len (gA l) l.length l.length []
theorem vparts_head {l : VL} {p : List Nat} (hp : p ∈ vparts l) : 0 < p.length ∧ p.headD 0 < l.length := by
  obtain ⟨v, hv, rfl⟩ := (partsOf_ok (gA l) l.length).each p hp
  have hm : v ∈ partOf (gA l) l.length v := mem_partOf.2 ⟨hv, eqv.refl _ _⟩
  have hh := (asc_head (partOf_asc (gA l) l.length v) hm (d := 0)).2
  exact ⟨List.length_pos_of_mem hm, (mem_partOf.1 hh).1⟩
def OrPost (l : VL) (w : World) (e : Ending) (w' : World) : Prop := ∃ u, e = .returned u ∧ StrRow w' w'.heap.size u (if rightV l = true then orderOf l else []) ∧ Below w.heap.size w w'
def OrRel (l : VL) (w : World) (s i : Value) (wl : World) : Prop := ∃ k : Nat, i = .int .i64 k ∧ k ≤ (vparts l).length ∧ OwnS wl w.heap.size s (vord l ((vparts l).take k)) ∧ Below w.heap.size w wl
set_option maxRecDepth 100000 in
set_option maxHeartbeats 8000000 in
theorem orderP (v : Value) (l : VL) (w : World) (hb : Bd l) (hr : VRow w w.heap.size v l) :
    Calls Tryz.prog 13 #[v] w (OrPost l w) := by
  have hlen := hb.len
  have HRT := vrightP v l w hb hr
  obtain ⟨A, cap, rfl, _⟩ := id hr
  have HR := Lib.hid hr
  cases h1 : rightV l with
  | false =>
    rw [h1] at HRT
    have HRT := Lib.hid HRT
    have HF : Hid (∀ w', Below w.heap.size w w' → OrPost l w (.returned (.slice none 0 0)) w') := Lib.hid (fun w' h => ⟨_, rfl, by rw [h1, if_neg (by simp)]; exact srow_nil' _ _, h⟩)
    clear hr h1
    go_enter Tryz.func13, Tryz.ntmps13
    go_wp2_with fail
    refine HRT.out.mono ?_; rintro e w1 ⟨rfl, hB⟩
    have HB := Lib.hid hB
    clear hB
    go_wp2_with fail
    go_ret
    exact HF.out _ HB.out
  | true =>
    obtain ⟨i0, hi, hz0, hz1, hz2⟩ := info_parts infoS
    obtain ⟨hg, hac⟩ := rightV_gr hlen h1
    rw [h1] at HRT
    have HRT := Lib.hid HRT
    have HBD := Lib.hid hb
    have HG := Lib.hid hg
    have HF : Hid (∀ w' u, OwnS w' w.heap.size u (orderOf l) → Below w.heap.size w w' → OrPost l w (.returned u) w') := Lib.hid (fun w' u h h2 => ⟨_, rfl, by rw [h1, if_pos rfl]; exact h.srow, h2⟩)
    have hpl : (vparts l).length ≤ 900 := by have := vparts_len l; omega
    clear hr h1 hg hac
    go_enter Tryz.func13, Tryz.ntmps13
    go_wp2_with fail
    refine HRT.out.mono ?_; rintro e w1 ⟨rfl, hB⟩
    have HB := Lib.hid hB
    have HN := Lib.hid (namesP _ l w1 (by omega) (HR.out.keep hB))
    clear hB HRT
    go_wp2_with fail
    refine HN.out.mono ?_; rintro e w2 ⟨un, rfl, hon, hB2⟩
    have HB2 := Lib.hid (HB.out.trans (hB2.mono HB.out.size))
    have HON := Lib.hid (show StrRow w2 w2.heap.size un (nn l) from hon.srow)
    have HA := Lib.hid (arcsP _ l w2 hlen (fun d hd => ⟨(HBD.out.sz d hd).1, (HBD.out.sz d hd).2.2⟩) HG.out.nd HG.out.cl HBD.out.fl (HR.out.keep HB2.out))
    clear hB2 hon HN HB
    go_wp2_with fail
    refine HA.out.mono ?_; rintro e w3 ⟨s, rfl, ho, hB3⟩
    have HB3 := Lib.hid (HB2.out.trans (hB3.mono HB2.out.size))
    have HON3 := Lib.hid (HON.out.keep hB3)
    have HP := Lib.hid (parts_any (l.length : Nat) s (arcsV (nn l) l) w3 (by omega) ho.len ho.srow)
    clear hB3 ho HA HB2 HON
    go_wp2_with fail
    refine HP.out.mono ?_; rintro e w4 ⟨u, rfl, hL, hB4⟩
    have hpe : partsAny (l.length : Nat) (arcsV (nn l) l) = vparts l := by
      unfold partsAny
      rw [if_pos HG.out.right, Int.toNat_natCast]; rfl
    rw [hpe] at hL
    have HB4 := Lib.hid (HB3.out.trans (hB4.mono HB3.out.size))
    obtain ⟨nA, ncap, rfl, _, _, _, hnr⟩ := HON3.out.keep hB4
    obtain ⟨_, PA, pcap, rfl, hpr⟩ := hL
    rw [List.length_map]
    have HPR := Lib.hid hpr
    have HNR := Lib.hid hnr
    clear hB4 HB3 HON3 HP hpe hpr hnr
    go_wp2_with fail
    go_loopw [4, 18] (fun s i wl => OrRel l w4 s i wl) (fun _ i _ => (vparts l).length - (intOf i).toNat)
    case atStart => exact ⟨0, rfl, by omega, by rw [List.take_zero]; exact OwnS.nil _ _, Below.refl _ _⟩
    case round =>
      obtain ⟨k, rfl, hk, ho, hB⟩ := hrel
      by_cases hlt : k < (vparts l).length
      · obtain ⟨b, off, rfl, hb1, hc⟩ := HPR.out (by rw [List.length_map]; omega)
        obtain ⟨x, cx, hI⟩ := hc k (by rw [List.length_map]; exact hlt)
        rw [List.getElem_map] at hI
        obtain ⟨hp0, hph⟩ := vparts_head (List.getElem_mem hlt)
        have hTk : vord l ((vparts l).take (k + 1)) = vord l ((vparts l).take k) ++ [(nn l).getD ((vparts l)[k].headD 0) []] := by
          unfold vord; rw [List.take_succ_eq_append_getElem hlt, List.map_append]; rfl
        obtain ⟨p, hp⟩ : ∃ p, (vparts l)[k] = p := ⟨_, rfl⟩
        rw [hp] at hI hp0 hph hTk
        obtain ⟨b3, off3, c3, rfl, hb3, hc3⟩ := irow_form' hI hp0
        have hc30 := hc3 0 hp0
        have hhd : p[0] = p.headD 0 := by cases p with | nil => simp at hp0 | cons a t => rfl
        rw [hhd, Nat.add_zero] at hc30
        obtain ⟨m, hm⟩ : ∃ m, p.headD 0 = m := ⟨_, rfl⟩
        rw [hm] at hc30 hph hTk
        have hmn : m < (nn l).length := by rw [nn_len]; exact hph
        obtain ⟨b4, off4, rfl, hb4, hc4⟩ := HNR.out (by omega)
        have d1 := (hB.cell (p := ⟨b, off + k, none⟩) hb1).trans cx
        have d2 := (hB.cell (p := ⟨b3, off3, none⟩) hb3).trans hc30
        have d3 := (hB.cell (p := ⟨b4, off4 + m, none⟩) hb4).trans (hc4 m hmn)
        have hgd : (nn l).getD m [] = (nn l)[m] := by rw [List.getD_eq_getElem?_getD, List.getElem?_eq_getElem hmn]; rfl
        rw [hgd] at hTk
        obtain ⟨sm, hsm⟩ : ∃ sm, (nn l)[m] = sm := ⟨_, rfl⟩
        rw [hsm] at hTk d3
        have hln : (vord l ((vparts l).take k)).length = k := by unfold vord; rw [List.length_map, List.length_take]; omega
        have ho2 := ho.below (below_new wr (.cells #[.string (bs sm)] 9))
        have hB2 := hB.alloc hB.size (.cells #[.string (bs sm)] 9)
        obtain ⟨v', w5, hrun, ho3, hg3, _, _⟩ := run_append_own_at (P := Tryz.prog) (wr.alloc (.cells #[.string (bs sm)] 9)) w4.heap.size 27 27 9 i0 (.string (bs [])) 1 16 Tryz.underlying27 hi hz0 hz1 hz2 rfl (by decide) _ _ _ ho2 ⟨wr.heap.size, 0, none⟩ 1 1 [.string (bs sm)] rfl (fun j u hu => by
          cases j with
          | zero =>
            simp at hu
            subst hu
            exact (Blk.new wr _ _).cell 0
          | succ j => simp at hu) (fun u hu => by rw [List.mem_singleton.1 hu]; rfl) (by unfold maxLen; omega) (by omega) hB2.size
        obtain ⟨g', cap', rfl⟩ := own_succ ho3
        have HO3 : Hid (OwnS w5 w4.heap.size (.slice (some ⟨g', 0, none⟩) ((vord l ((vparts l).take k)).length + 1) cap') (vord l ((vparts l).take (k + 1)))) := Lib.hid (by
          unfold OwnS
          rw [hTk, sv_append, List.length_append]
          exact ho3)
        have HB3 := Lib.hid (hB2.grown hg3 hB2.size (fun j hj => (ho2.lt j hj).1))
        rw [hln] at hrun
        rw [hln] at HO3
        have HRUN := Lib.hid hrun
        clear ho hB hc cx hI hTk hp hc3 hc30 hhd hm hc4 hgd hsm hln ho2 hB2 hrun ho3 hg3
        have hpp : 0 < p.length := hp0
        go_wp2_with (at_builtin; refine Lib.wpList_append_run_sl _ rfl _ _ 27 rfl _ _ rfl rfl HRUN.out ?_)
        go_roundw
        case rel => exact ⟨k + 1, by go_num, by omega, HO3.out, HB3.out⟩
        case measure => simp [intOf]; omega
      · rw [List.take_of_length_le (by omega)] at ho
        have HFF := Lib.hid (HF.out wr u4 (ho.base_le' HB4.out.size) (HB4.out.trans (hB.mono HB4.out.size)))
        clear ho hB
        go_wp2_with fail
        go_ret
        exact HFF.out
end Go.Proofs.YtmnhnighlgpjmaaGreat
