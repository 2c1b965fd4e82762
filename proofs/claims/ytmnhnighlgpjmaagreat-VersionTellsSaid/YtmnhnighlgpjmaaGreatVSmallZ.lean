/-
  The laws' few and the reference's Same.
  The laws' examples: the mathematics.
  The laws' examples: the walk.
-/
import Derived.Test.YtmnhnighlgpjmaaGreatVLineZ
import Derived.Deep.QuietTactic
import Derived.BigQuiet
import Derived.Test.YtmnhnighlgpjmaaGreatVOrdZ
namespace Go.Proofs.YtmnhnighlgpjmaaGreat
set_option linter.unusedVariables false
set_option linter.unusedSimpArgs false
open Go.RowKit

def dOk (d : Vd) : Bool := decide (d.ps.length ≤ 6) && decide (d.nm.length ≤ 100) && d.ps.all (fun p => decide (p.length ≤ 100))
def fewV (l : VL) : Bool := decide (l.length ≤ 12) && l.all dOk
theorem fewV_fw {l : VL} (h : fewV l = true) : Fw l := by
  unfold fewV at h
  rw [Bool.and_eq_true, decide_eq_true_iff, List.all_eq_true] at h
  refine ⟨h.1, fun d hd => ?_⟩
  have h2 := h.2 d hd
  unfold dOk at h2
  rw [Bool.and_eq_true, Bool.and_eq_true, decide_eq_true_iff, decide_eq_true_iff, List.all_eq_true] at h2
  exact ⟨h2.1.1, h2.1.2, fun p hp => by simpa using h2.2 p hp⟩
def FwRel (l : VL) (i : Value) : Prop := ∃ k : Nat, i = .int .i64 k ∧ k ≤ l.length ∧ ∀ j (h : j < l.length), j < k → dOk l[j] = true
def Fw2Rel (ps : List Str) (i : Value) : Prop := ∃ j : Nat, i = .int .i64 j ∧ j ≤ ps.length ∧ ∀ m (h : m < ps.length), m < j → ps[m].length ≤ 100
set_option maxRecDepth 100000 in
set_option maxHeartbeats 8000000 in
theorem fewVP (v : Value) (l : VL) (w : World) (B : Nat) (hr : VRow w B v l) :
    Calls Tryz.prog 5 #[v] w fun e w' => e = .returned (.bool (fewV l)) ∧ w = w' := by
  obtain ⟨A, cap, rfl, h1, h2, h3, hA⟩ := hr
  have HA := Lib.hid hA
  obtain ⟨fb, hfb⟩ : ∃ fb, fewV l = fb := ⟨_, rfl⟩
  have HFB := Lib.hid hfb
  rw [hfb]
  have hlm : l.length ≤ 9223372036854775807 := Nat.le_trans h1 h2
  clear hA h1 h2 h3 hfb
  by_cases h12 : l.length ≤ 12
  · go_enter Tryz.func5, Tryz.ntmps5
    go_wp2_with fail
    go_loop [3] (fun i => FwRel l i) (fun i => l.length - (intOf i).toNat)
    case atStart => exact ⟨0, rfl, by omega, fun j _ h => by omega⟩
    case round =>
      obtain ⟨k, rfl, hk, hok⟩ := hrel
      by_cases hlt : k < l.length
      · obtain ⟨b, off, rfl, hb1, hc⟩ := HA.out (by omega)
        obtain ⟨u, c1, c2, hu⟩ := hc k hlt
        have hst : dOk l[k] = true → ∀ j (h : j < l.length), j < k + 1 → dOk l[j] = true := fun h j hj hjk => by
          by_cases e : j = k
          · subst e; exact h
          · exact hok j hj (by omega)
        have hbd : dOk l[k] = false → fb = false := fun h => by
          rw [← HFB.out]; unfold fewV
          rw [List.all_eq_false.2 ⟨l[k], List.getElem_mem hlt, by simp [h]⟩]; simp
        obtain ⟨d, hd⟩ : ∃ d, l[k] = d := ⟨_, rfl⟩
        rw [hd] at c1 hu hst hbd
        obtain ⟨uA, ucap, hu1, hu2, hu3, hu4, hur⟩ := id hu
        subst hu1
        have hpm : d.ps.length ≤ 9223372036854775807 := Nat.le_trans hu2 hu3
        have hsz : (bs d.nm).size = d.nm.length := bs_size _
        have HST := Lib.hid hst
        have HBD := Lib.hid hbd
        have HUR := Lib.hid hur
        have HSZ := Lib.hid hsz
        clear hok hc hst hbd hd hu hur hu2 hu3 hu4 hsz
        by_cases h6 : d.ps.length ≤ 6
        · by_cases h100 : (bs d.nm).size ≤ 100
          · have h100' : d.nm.length ≤ 100 := by rw [← HSZ.out]; exact h100
            go_wp2_with fail
            go_loop [4] (fun i => Fw2Rel d.ps i) (fun i => d.ps.length - (intOf i).toNat)
            case atStart => exact ⟨0, rfl, by omega, fun j _ h => by omega⟩
            case round =>
              obtain ⟨j, rfl, hj, hall⟩ := hrel
              by_cases hjl : j < d.ps.length
              · obtain ⟨b2, off2, rfl, hb2, hc2⟩ := HUR.out (by omega)
                have q := hc2 j hjl
                have hst2 : d.ps[j].length ≤ 100 → ∀ m (h : m < d.ps.length), m < j + 1 → d.ps[m].length ≤ 100 := fun h m hm hmj => by
                  by_cases e : m = j
                  · subst e; exact h
                  · exact hall m hm (by omega)
                have hbd2 : ¬ d.ps[j].length ≤ 100 → dOk d = false := fun h => by
                  unfold dOk
                  rw [List.all_eq_false.2 ⟨d.ps[j], List.getElem_mem hjl, by simpa using h⟩]; simp
                obtain ⟨p, hp⟩ : ∃ p, d.ps[j] = p := ⟨_, rfl⟩
                rw [hp] at q hst2 hbd2
                have HP := Lib.hid (bs_size p)
                by_cases hp100 : (bs p).size ≤ 100
                · have HN := Lib.hid (hst2 (by rw [← HP.out]; exact hp100))
                  clear hc2 hst2 hbd2 hall hp
                  go_wp2_with fail
                  go_round
                  case rel => exact ⟨j + 1, by go_num, by omega, HN.out⟩
                  case measure => simp [intOf]; omega
                · have hF := HBD.out (hbd2 (by rw [← HP.out]; exact hp100))
                  subst hF
                  clear hc2 hst2 hbd2 hall hp
                  go_wp2_with fail
                  go_ret
                  exact ⟨rfl, rfl⟩
              · have hdk : dOk d = true := by
                  unfold dOk
                  rw [decide_eq_true h6, decide_eq_true h100', List.all_eq_true.2 (fun x hx => by
                    obtain ⟨m, hm, rfl⟩ := List.getElem_of_mem hx
                    exact decide_eq_true (hall m hm (by omega)))]
                  rfl
                have HN := Lib.hid (HST.out hdk)
                clear hall hdk
                go_wp2_with fail
                go_round
                case rel => exact ⟨k + 1, by go_num, by omega, HN.out⟩
                case measure => simp [intOf]; omega
          · have hF := HBD.out (by unfold dOk; rw [decide_eq_false (p := d.nm.length ≤ 100) (by rw [← HSZ.out]; exact h100)]; simp)
            subst hF
            go_wp2_with fail
            go_ret
            exact ⟨rfl, rfl⟩
        · have hF := HBD.out (by unfold dOk; rw [decide_eq_false h6]; simp)
          subst hF
          go_wp2_with fail
          go_ret
          exact ⟨rfl, rfl⟩
      · have hF : fb = true := by
          rw [← HFB.out]; unfold fewV
          rw [decide_eq_true h12, List.all_eq_true.2 (fun x hx => by
            obtain ⟨j, hj, rfl⟩ := List.getElem_of_mem hx
            exact hok j hj (by omega))]
          rfl
        subst hF
        clear hok
        go_wp2_with fail
        go_ret
        exact ⟨rfl, rfl⟩
  · have hF : fb = false := by rw [← HFB.out]; unfold fewV; rw [decide_eq_false h12]; simp
    subst hF
    go_enter Tryz.func5, Tryz.ntmps5
    go_wp2_with fail
    go_ret
    exact ⟨rfl, rfl⟩
/-- Same. -/
def SmRel (a b : List Str) (w : World) (i : Value) (wl : World) : Prop := ∃ k q : Nat, i = .int .i64 k ∧ k ≤ a.length ∧ (∀ j, j < k → a[j]? = b[j]?) ∧ wl = w.drewN q
theorem below_drewV (w : World) (q : Nat) (B : Nat) : Below B w (w.drewN q) := ⟨rfl, rfl, rfl, Nat.le_refl _, fun _ _ => rfl⟩
def SamePost (sb : Bool) (w : World) (e : Ending) (w' : World) : Prop := e = .returned (.bool sb) ∧ Below w.heap.size w w'
theorem SamePost.mk {sb : Bool} {w w' : World} {e : Ending} (h1 : e = .returned (.bool sb)) (h2 : Below w.heap.size w w') : SamePost sb w e w' := ⟨h1, h2⟩
set_option maxRecDepth 100000 in
set_option maxHeartbeats 8000000 in
theorem sameSP (u v : Value) (a b : List Str) (w : World) (ha : StrRow w w.heap.size u a) (hb : StrRow w w.heap.size v b) :
    Calls Tryz.prog 10 #[u, v] w (SamePost (decide (a = b)) w) := by
  obtain ⟨A, cap, rfl, h1, h2, h3, hA⟩ := ha
  obtain ⟨A2, cap2, rfl, g1, g2, g3, gA⟩ := hb
  have HA := Lib.hid hA
  have GA := Lib.hid gA
  obtain ⟨sb, hsb⟩ : ∃ sb, decide (a = b) = sb := ⟨_, rfl⟩
  have HSB := Lib.hid hsb
  rw [hsb]
  have hm1 : a.length ≤ 9223372036854775807 := Nat.le_trans h1 h2
  have hm2 : b.length ≤ 9223372036854775807 := Nat.le_trans g1 g2
  clear hA h1 h2 h3 gA g1 g2 g3 hsb
  by_cases hl : a.length = b.length
  · have HL := Lib.hid hl
    have hne : ((a.length : Int) != b.length) = false := by simp [hl]
    clear hl
    go_enter Tryz.func10, Tryz.ntmps10
    go_wp2_with fail
    go_loopw [5] (fun i wl => SmRel a b w i wl) (fun i _ => a.length - (intOf i).toNat)
    case atStart => exact ⟨0, 0, rfl, by omega, (fun j h => by omega), rfl⟩
    case round =>
      obtain ⟨k, q, rfl, hk, hok, hw⟩ := hrel
      by_cases hlt : k < a.length
      · have hltb : k < b.length := by rw [← HL.out]; exact hlt
        obtain ⟨b1, off1, rfl, hb1, hc1⟩ := HA.out (by omega)
        obtain ⟨b2, off2, rfl, hb2, hc2⟩ := GA.out (by omega)
        have c1 : wr.cell? ⟨b1, off1 + k, none⟩ = some (.string (bs a[k])) := by rw [hw]; exact hc1 k hlt
        have c2 : wr.cell? ⟨b2, off2 + k, none⟩ = some (.string (bs b[k])) := by rw [hw]; exact hc2 k hltb
        have HW := Lib.hid hw
        have hst : a[k] = b[k] → ∀ j, j < k + 1 → a[j]? = b[j]? := fun h j hj => by
          by_cases e : j = k
          · subst e; rw [List.getElem?_eq_getElem hlt, List.getElem?_eq_getElem hltb, h]
          · exact hok j (by omega)
        have hbd : a[k] ≠ b[k] → sb = false := fun h => by
          rw [← HSB.out, decide_eq_false_iff_not]
          intro e; exact h (by simp [e])
        obtain ⟨x, hx⟩ : ∃ x, a[k] = x := ⟨_, rfl⟩
        obtain ⟨y, hy⟩ : ∃ y, b[k] = y := ⟨_, rfl⟩
        rw [hx] at c1 hst hbd
        rw [hy] at c2 hst hbd
        have HST := Lib.hid hst
        have HBD := Lib.hid hbd
        clear hok hw hc1 hc2 hst hbd hx hy
        by_cases hxy : x = y
        · have HN := Lib.hid (HST.out hxy)
          have hbb : ((bs x).toList == (bs y).toList) = true := bytes_beq.2 (by rw [hxy])
          have HXY := Lib.hid hxy
          clear hxy
          go_wp2_with fail
          go_quiet (fail)
          go_wp2_with fail
          go_roundw
          case rel => exact ⟨k + 1, q + nq, by go_num, by omega, HN.out, by rw [HW.out, World.drewN_drewN]⟩
          case measure => simp [intOf]; omega
        · have hF := HBD.out hxy
          subst hF
          have hbb : ((bs x).toList == (bs y).toList) = false := by
            cases h : ((bs x).toList == (bs y).toList) with
            | false => rfl
            | true => exact absurd (bs_inj (bytes_beq.1 h)) hxy
          have HB : Hid (∀ n, Below w.heap.size w (wr.drewN n)) := Lib.hid (fun n => by rw [HW.out, World.drewN_drewN]; exact below_drewV _ _ _)
          clear hxy
          go_wp2_with fail
          go_quiet (fail)
          go_wp2_with fail
          go_ret
          exact SamePost.mk rfl (HB.out _)
      · have hF : sb = true := by
          rw [← HSB.out, decide_eq_true_iff]
          apply List.ext_getElem?
          intro j
          by_cases hj : j < k
          · exact hok j hj
          · rw [List.getElem?_eq_none (by omega), List.getElem?_eq_none (by rw [← HL.out]; omega)]
        subst hF
        have HB : Hid (Below w.heap.size w wr) := Lib.hid (by rw [hw]; exact below_drewV _ _ _)
        clear hok hw
        go_wp2_with fail
        go_ret
        exact SamePost.mk rfl HB.out
  · have hF : sb = false := by
      rw [← HSB.out, decide_eq_false_iff_not]
      intro e; exact hl (by rw [e])
    subst hF
    have hne : ((a.length : Int) != b.length) = true := by
      have : (a.length : Int) ≠ b.length := by omega
      simpa using this
    clear hl
    go_enter Tryz.func10, Tryz.ntmps10
    go_wp2_with fail
    go_ret
    exact SamePost.mk rfl (Below.refl _ _)
end Go.Proofs.YtmnhnighlgpjmaaGreat

namespace Go.Proofs.YtmnhnighlgpjmaaGreat
set_option linter.unusedVariables false
set_option linter.unusedSimpArgs false

abbrev sa : Str := [97]
abbrev sb : Str := [98]
abbrev sc' : Str := [99]
def fam : VL := [⟨sb, [sa]⟩, ⟨sa, []⟩, ⟨sc', [sb]⟩]
theorem fam_a : pars fam sa = [] := by decide
theorem fam_b : pars fam sb = [sa] := by decide
theorem fam_c : pars fam sc' = [sb] := by decide
theorem sv_a {x : Str} (h : Sv fam sa x) : x = sa :=
  h.closed (S := fun z => z = sa) rfl (fun z hz p hp => by subst hz; rw [fam_a] at hp; cases hp)
theorem sv_b {x : Str} (h : Sv fam sb x) : x = sb ∨ x = sa :=
  h.closed (S := fun z => z = sb ∨ z = sa) (.inl rfl) (fun z hz p hp => by
    rcases hz with rfl | rfl
    · rw [fam_b] at hp; exact .inr (List.mem_singleton.1 hp)
    · rw [fam_a] at hp; cases hp)
theorem sv_c {x : Str} : Sv fam sc' x ↔ x = sc' ∨ x = sa ∨ x = sb := by
  constructor
  · intro h
    exact h.closed (S := fun z => z = sc' ∨ z = sa ∨ z = sb) (.inl rfl) (fun z hz p hp => by
      rcases hz with rfl | rfl | rfl
      · rw [fam_c] at hp; exact .inr (.inr (List.mem_singleton.1 hp))
      · rw [fam_a] at hp; cases hp
      · rw [fam_b] at hp; exact .inr (.inl (List.mem_singleton.1 hp)))
  · have h1 : Sv fam sc' sb := .one (by rw [fam_c]; simp)
    have h2 : Sv fam sb sa := .one (by rw [fam_b]; simp)
    rintro (rfl | rfl | rfl)
    · exact .refl _
    · exact h1.trans h2
    · exact h1
theorem fam_named : namedB fam = true := by decide
theorem fam_closed : closedB fam = true := by decide
theorem fam_acy : Acy fam := by
  intro d hd p hp hs
  simp only [fam, List.mem_cons, List.not_mem_nil, or_false] at hd
  rcases hd with rfl | rfl | rfl
  · have e := List.mem_singleton.1 hp
    subst e
    exact absurd (sv_a hs) (by decide)
  · cases hp
  · have e := List.mem_singleton.1 hp
    subst e
    rcases sv_b hs with h | h
    · exact absurd h (by decide)
    · exact absurd h (by decide)
theorem fam_right : rightV fam = true := by
  unfold rightV
  rw [fam_named, fam_closed, acyB_iff.2 fam_acy]; rfl
theorem fam_ca : svB fam sc' sa = true := svB_iff.2 (sv_c.2 (.inr (.inl rfl)))
theorem fam_ac : svB fam sa sc' = false := by
  cases h : svB fam sa sc' with
  | false => rfl
  | true => exact absurd (sv_a (svB_iff.1 h)) (by decide)
theorem fam_line : LineOk fam sc' [sc', sa, sb] := by
  refine ⟨⟨[sa, sb], rfl, by decide⟩, by decide, fun x => ?_⟩
  rw [sv_c]; simp
theorem fam_nn : nn fam = [sa, sb, sc'] := by
  refine sorted_ext ?_ (by decide) ?_ (by decide) (fun x => ?_)
  · have := List.pairwise_mergeSort (le := fun x y : Str => decide (x ≤ y)) (fun a b c h1 h2 => by
      simp only [decide_eq_true_eq] at h1 h2 ⊢
      exact List.le_trans h1 h2) str_total (names fam)
    exact this.imp (fun h => by simpa using h)
  · exact nn_nodup (by decide)
  · rw [nn_mem]; simp [names, fam]; constructor <;> (rintro (h | h | h) <;> simp [h])
theorem fam_order : orderOf fam = [sa, sb, sc'] := by
  unfold orderOf vord vparts gA
  rw [fam_nn]
  decide +kernel
/-- A declaration with itself among its parents. -/
def own1 : VL := [⟨sa, [sa]⟩]
theorem own1_right : rightV own1 = false := by
  unfold rightV
  have : acyB own1 = false := by
    cases h : acyB own1 with
    | false => rfl
    | true => exact absurd (.refl _) (acyB_iff.1 h ⟨sa, [sa]⟩ (by simp [own1]) sa (by simp))
  rw [this]; simp
def emp1 : VL := [⟨[], []⟩]
theorem emp1_right : rightV emp1 = false := by
  unfold rightV
  have : namedB emp1 = false := by decide
  rw [this]; rfl
theorem bd_fw {l : VL} (h : Fw l) : Bd l := by
  have h12 := h.1
  refine ⟨by omega, fun d hd => ?_, ?_⟩
  · obtain ⟨h1, h2, h3⟩ := h.2 d hd
    exact ⟨by omega, by omega, fun p hp => by have := h3 p hp; omega⟩
  · have := flat_len l 12 h12 (fun d hd => (h.2 d hd).1)
    omega
theorem fam_fw : Fw fam := by
  refine ⟨by decide, fun d hd => ?_⟩
  simp only [fam, List.mem_cons, List.not_mem_nil, or_false] at hd
  rcases hd with rfl | rfl | rfl <;> simp
theorem own1_fw : Fw own1 := by
  refine ⟨by decide, fun d hd => ?_⟩
  simp only [own1, List.mem_cons, List.not_mem_nil, or_false] at hd
  subst hd; simp
theorem emp1_fw : Fw emp1 := by
  refine ⟨by decide, fun d hd => ?_⟩
  simp only [emp1, List.mem_cons, List.not_mem_nil, or_false] at hd
  subst hd; simp
theorem nil_fw : Fw [] := ⟨by simp, fun d hd => by cases hd⟩
end Go.Proofs.YtmnhnighlgpjmaaGreat

namespace Go.Proofs.YtmnhnighlgpjmaaGreat
set_option linter.unusedVariables false
set_option linter.unusedSimpArgs false
open Go.RowKit

def FamPost (w : World) (e : Ending) (w' : World) : Prop := ∃ u, e = .returned u ∧ VRow w' w'.heap.size u fam ∧ Below w.heap.size w w'
/-- A row of strings as a literal. -/
theorem lit_str (w : World) (l : List Str) (cs : Array Value) (n : Nat) (hn : n = l.length) (hm : n ≤ 1000) (hc : cs.toList = sv l) : StrRow (w.alloc (.cells cs 9)) (w.alloc (.cells cs 9)).heap.size (.slice (some ⟨w.heap.size, 0, none⟩) n n) l := by
  subst hn
  refine ⟨_, _, rfl, Nat.le_refl _, by unfold maxLen; omega, (fun h => by cases h), fun _ => ⟨_, 0, rfl, by simp, fun i hi => ?_⟩⟩
  rw [(Blk.new w 9 cs).cell, Nat.zero_add, ← Array.getElem?_toList, hc, sv_get, List.getElem?_eq_getElem hi]; rfl
/-- A row of declarations as a literal. -/
theorem lit_vrow (w : World) (l : VL) (us : List Value) (cs : Array Value) (n : Nat) (hn : n = l.length) (hm : n ≤ 1000) (hu : us.length = l.length) (hc : ∀ i (h : i < l.length), cs.toList[i * 2]? = some (.string (bs l[i].nm)) ∧ cs.toList[i * 2 + 1]? = us[i]?)
    (hr : ∀ i (h : i < l.length) u, us[i]? = some u → StrRow w w.heap.size u l[i].ps) :
    VRow (w.alloc (.cells cs 32)) (w.alloc (.cells cs 32)).heap.size (.slice (some ⟨w.heap.size, 0, none⟩) n n) l := by
  subst hn
  refine ⟨_, _, rfl, Nat.le_refl _, by unfold maxLen; omega, (fun h => by cases h), fun _ => ⟨_, 0, rfl, by simp, fun i hi => ?_⟩⟩
  obtain ⟨h1, h2⟩ := hc i hi
  have hui : us[i]? = some (us[i]'(by omega)) := List.getElem?_eq_getElem (by omega)
  rw [hui] at h2
  refine ⟨us[i]'(by omega), ?_, ?_, (hr i hi _ hui).keep (below_new w _)⟩
  · rw [(Blk.new w 32 cs).cell, Nat.zero_add, ← Array.getElem?_toList]; exact h1
  · rw [(Blk.new w 32 cs).cell, Nat.zero_add, ← Array.getElem?_toList]; exact h2
set_option maxRecDepth 100000 in
theorem familyP (w : World) : Calls Tryz.prog 15 #[] w (FamPost w) := by
  have s1 := lit_str w [sa] #[.string (bs sa)] 1 rfl (by omega) rfl
  have b1 := below_new w (.cells #[.string (bs sa)] 9)
  obtain ⟨w1, hw1⟩ : ∃ w1, w.alloc (.cells #[.string (bs sa)] 9) = w1 := ⟨_, rfl⟩
  have z1 := size_new w (.cells #[.string (bs sa)] 9)
  rw [hw1] at s1 b1 z1
  have s2 := lit_str w1 [sb] #[.string (bs sb)] 1 rfl (by omega) rfl
  have b2 := below_new w1 (.cells #[.string (bs sb)] 9)
  obtain ⟨w2, hw2⟩ : ∃ w2, w1.alloc (.cells #[.string (bs sb)] 9) = w2 := ⟨_, rfl⟩
  have z2 := size_new w1 (.cells #[.string (bs sb)] 9)
  rw [hw2] at s2 b2 z2
  have s1' := s1.keep b2
  rw [z1] at s2 z2
  have hv := lit_vrow w2 fam [.slice (some ⟨w.heap.size, 0, none⟩) 1 1, .slice none 0 0, .slice (some ⟨w.heap.size + 1, 0, none⟩) 1 1] #[.string (bs sb), .slice (some ⟨w.heap.size, 0, none⟩) 1 1, .string (bs sa), .slice none 0 0, .string (bs sc'), .slice (some ⟨w.heap.size + 1, 0, none⟩) 1 1] 3 rfl (by omega) rfl
    (fun i hi => by
      match i, hi with
      | 0, _ => exact ⟨rfl, rfl⟩
      | 1, _ => exact ⟨rfl, rfl⟩
      | 2, _ => exact ⟨rfl, rfl⟩)
    (fun i hi u hu => by
      match i, hi with
      | 0, _ => injection hu with hu; subst hu; exact s1'
      | 1, _ => injection hu with hu; subst hu; exact srow_nil' _ _
      | 2, _ => injection hu with hu; subst hu; exact s2)
  rw [z2] at hv
  have b3 := below_new w2 (.cells #[.string (bs sb), .slice (some ⟨w.heap.size, 0, none⟩) 1 1, .string (bs sa), .slice none 0 0, .string (bs sc'), .slice (some ⟨w.heap.size + 1, 0, none⟩) 1 1] 32)
  have HF : Hid (FamPost w (.returned (.slice (some ⟨w.heap.size + 1 + 1, 0, none⟩) 3 3)) (((w.alloc (.cells #[.string { data := #[97] }] 9)).alloc (.cells #[.string { data := #[98] }] 9)).alloc (.cells #[.string { data := #[98] }, .slice (some ⟨w.heap.size, 0, none⟩) 1 1, .string { data := #[97] }, .slice none 0 0, .string { data := #[99] }, .slice (some ⟨w.heap.size + 1, 0, none⟩) 1 1] 32))) := by
    refine Lib.hid ⟨_, rfl, ?_, ?_⟩
    · have := hv
      rw [← hw2, ← hw1] at this
      exact this
    · have := (b1.trans (b2.mono (by omega))).trans (b3.mono (by omega))
      rw [← hw2, ← hw1] at this
      exact this
  clear s1 b1 hw1 z1 s2 b2 hw2 z2 s1' hv b3
  go_enter Tryz.func15, Tryz.ntmps15
  go_wp2_with fail
  go_ret
  exact HF.out
theorem vrow_nil (w : World) (B : Nat) : VRow w B (.slice none 0 0) [] := ⟨none, 0, rfl, by simp, by decide, fun _ => rfl, fun h => by simp at h⟩
theorem servesFw {u : Value} {l : VL} {v x : Str} {w : World} {c : Bool} (hl : Fw l) (hv : v.length ≤ 100) (hc : svB l v x = c) (hr : VRow w w.heap.size u l) :
    Calls Tryz.prog 8 #[u, .string (bs v), .string (bs x)] w fun e w' => e = .returned (.bool c) ∧ Below w.heap.size w w' := by
  rw [← hc]
  have h12 := hl.1
  exact servesP u l v x (uniOf l v) w (uniOf_ok hl hv) (by simp [uniOf]) (by omega) (fun d hd => by have := (hl.2 d hd).2.1; omega) hr
theorem lineFw {u : Value} {l : VL} {v : Str} {w : World} (hl : Fw l) (hv : v.length ≤ 100) (hr : VRow w w.heap.size u l) :
    Calls Tryz.prog 11 #[u, .string (bs v)] w (LinePost l v w) := by
  have h12 := hl.1
  exact lineP u l v (uniOf l v) w (uniOf_ok hl hv) (by simp [uniOf]) (by omega) (fun d hd => by have := (hl.2 d hd).2.1; omega) hr
theorem rightFw {u : Value} {l : VL} {w : World} {c : Bool} (hl : Fw l) (hc : rightV l = c) (hr : VRow w w.heap.size u l) :
    Calls Tryz.prog 6 #[u] w fun e w' => e = .returned (.bool c) ∧ Below w.heap.size w w' := by
  rw [← hc]; exact vrightP u l w (bd_fw hl) hr
def OrdPost (L : List Str) (w : World) (e : Ending) (w' : World) : Prop := ∃ u, e = .returned u ∧ StrRow w' w'.heap.size u L ∧ Below w.heap.size w w'
theorem orderFw {u : Value} {l : VL} {w : World} {L : List Str} (hl : Fw l) (hc : (if rightV l = true then orderOf l else []) = L) (hr : VRow w w.heap.size u l) :
    Calls Tryz.prog 13 #[u] w (OrdPost L w) := by
  rw [← hc]; exact orderP u l w (bd_fw hl) hr
theorem below3 {a b c : World} {B : Nat} (h : Below B a b) (k : Below b.heap.size b c) (hB : B ≤ a.heap.size) : Below B a c := h.trans (k.mono (Nat.le_trans hB h.size))
set_option maxRecDepth 100000 in
set_option maxHeartbeats 8000000 in
theorem smallVP (w : World) : Calls Tryz.prog 4 #[] w fun e w' => e = .returned (.bool true) ∧ Below w.heap.size w w' := by
  have H := Lib.hid (familyP w)
  have hW := Nat.le_refl w.heap.size
  go_enter Tryz.func4, Tryz.ntmps4
  go_wp2_with fail
  refine H.out.mono ?_; rintro e w1 ⟨u, rfl, hr, hB⟩
  have HR := Lib.hid hr
  have HB := Lib.hid hB
  have H1 := Lib.hid (rightFw fam_fw fam_right hr)
  clear hr hB H
  go_wp2_with fail
  refine H1.out.mono ?_; rintro e w2 ⟨rfl, hB⟩
  have HR2 := Lib.hid (HR.out.keep hB)
  have HB2 := Lib.hid (below3 HB.out hB hW)
  have H2 : Hid (Calls Tryz.prog 8 #[u, .string { data := #[99] }, .string { data := #[97] }] w2 fun e w' => e = .returned (.bool true) ∧ Below w2.heap.size w2 w') := Lib.hid (servesFw fam_fw (by decide) fam_ca HR2.out)
  clear hB H1 HR HB
  go_wp2_with fail
  refine H2.out.mono ?_; rintro e w3 ⟨rfl, hB⟩
  have HR3 := Lib.hid (HR2.out.keep hB)
  have HB3 := Lib.hid (below3 HB2.out hB hW)
  have H3 : Hid (Calls Tryz.prog 8 #[u, .string { data := #[97] }, .string { data := #[99] }] w3 fun e w' => e = .returned (.bool false) ∧ Below w3.heap.size w3 w') := Lib.hid (servesFw fam_fw (by decide) fam_ac HR3.out)
  clear hB H2 HR2 HB2
  go_wp2_with fail
  refine H3.out.mono ?_; rintro e w4 ⟨rfl, hB⟩
  have HR4 := Lib.hid (HR3.out.keep hB)
  have HB4 := Lib.hid (below3 HB3.out hB hW)
  have H4 : Hid (Calls Tryz.prog 8 #[.slice none 0 0, .string { data := #[120] }, .string { data := #[120] }] w4 fun e w' => e = .returned (.bool true) ∧ Below w4.heap.size w4 w') := Lib.hid (servesFw (v := [120]) (x := [120]) nil_fw (by decide) (svB_iff.2 (.refl _)) (vrow_nil _ _))
  clear hB H3 HR3 HB3
  go_wp2_with fail
  refine H4.out.mono ?_; rintro e w5 ⟨rfl, hB⟩
  have HR5 := Lib.hid (HR4.out.keep hB)
  have HB5 := Lib.hid (below3 HB4.out hB hW)
  have H5 : Hid (Calls Tryz.prog 11 #[u, .string { data := #[99] }] w5 (LinePost fam sc' w5)) := Lib.hid (lineFw fam_fw (by decide) HR5.out)
  clear hB H4 HR4 HB4
  go_wp2_with fail
  refine H5.out.mono ?_; rintro e w6 ⟨u6, L6, rfl, hlo, _, hs6, hB⟩
  have hL := hlo.eq fam_line
  subst hL
  have k6 := below_new w6 (.cells #[.string (bs sc'), .string (bs sa), .string (bs sb)] 9)
  have HR6 := Lib.hid ((HR5.out.keep hB).keep k6)
  have HB6 := Lib.hid (below3 (below3 HB5.out hB hW) k6 hW)
  have H6 : Hid (Calls Tryz.prog 10 #[u6, .slice (some ⟨w6.heap.size, 0, none⟩) 3 3] (w6.alloc (.cells #[.string { data := #[99] }, .string { data := #[97] }, .string { data := #[98] }] 9)) (SamePost true (w6.alloc (.cells #[.string { data := #[99] }, .string { data := #[97] }, .string { data := #[98] }] 9)))) := Lib.hid (by
    have := sameSP u6 (.slice (some ⟨w6.heap.size, 0, none⟩) 3 3) [sc', sa, sb] [sc', sa, sb] (w6.alloc (.cells #[.string (bs sc'), .string (bs sa), .string (bs sb)] 9)) (hs6.keep k6) (lit_str w6 [sc', sa, sb] #[.string (bs sc'), .string (bs sa), .string (bs sb)] 3 rfl (by omega) rfl)
    rw [decide_eq_true rfl] at this
    exact this)
  clear hlo hs6 hB k6 H5 HR5 HB5
  go_wp2_with fail
  refine H6.out.mono ?_; rintro e w7 ⟨rfl, hB⟩
  have HR7 := Lib.hid (HR6.out.keep hB)
  have HB7 := Lib.hid (below3 HB6.out hB hW)
  have H7 := Lib.hid (orderFw fam_fw (show (if rightV fam = true then orderOf fam else []) = [sa, sb, sc'] by rw [fam_right, if_pos rfl]; exact fam_order) HR7.out)
  clear hB H6 HR6 HB6
  go_wp2_with fail
  refine H7.out.mono ?_; rintro e w8 ⟨u8, rfl, hs8, hB⟩
  have k8 := below_new w8 (.cells #[.string (bs sa), .string (bs sb), .string (bs sc')] 9)
  have HB8 := Lib.hid (below3 (below3 HB7.out hB hW) k8 hW)
  have H8 : Hid (Calls Tryz.prog 10 #[u8, .slice (some ⟨w8.heap.size, 0, none⟩) 3 3] (w8.alloc (.cells #[.string { data := #[97] }, .string { data := #[98] }, .string { data := #[99] }] 9)) (SamePost true (w8.alloc (.cells #[.string { data := #[97] }, .string { data := #[98] }, .string { data := #[99] }] 9)))) := Lib.hid (by
    have := sameSP u8 (.slice (some ⟨w8.heap.size, 0, none⟩) 3 3) [sa, sb, sc'] [sa, sb, sc'] (w8.alloc (.cells #[.string (bs sa), .string (bs sb), .string (bs sc')] 9)) (hs8.keep k8) (lit_str w8 [sa, sb, sc'] #[.string (bs sa), .string (bs sb), .string (bs sc')] 3 rfl (by omega) rfl)
    rw [decide_eq_true rfl] at this
    exact this)
  clear hs8 hB k8 H7 HR7 HB7
  go_wp2_with fail
  refine H8.out.mono ?_; rintro e w9 ⟨rfl, hB⟩
  have HB9 := Lib.hid (below3 HB8.out hB hW)
  have k9 := below_new w9 (.cells #[.string (bs sa)] 9)
  have s9 := lit_str w9 [sa] #[.string (bs sa)] 1 rfl (by omega) rfl
  have z9 := size_new w9 (.cells #[.string (bs sa)] 9)
  have v9 := lit_vrow (w9.alloc (.cells #[.string (bs sa)] 9)) own1 [.slice (some ⟨w9.heap.size, 0, none⟩) 1 1] #[.string (bs sa), .slice (some ⟨w9.heap.size, 0, none⟩) 1 1] 1 rfl (by omega) rfl
    (fun i hi => by
      match i, hi with
      | 0, _ => exact ⟨rfl, rfl⟩)
    (fun i hi u hu => by
      match i, hi with
      | 0, _ => injection hu with hu; subst hu; exact s9)
  have k10 := below_new (w9.alloc (.cells #[.string (bs sa)] 9)) (.cells #[.string (bs sa), .slice (some ⟨w9.heap.size, 0, none⟩) 1 1] 32)
  rw [z9] at v9
  have HB10 := Lib.hid (below3 (below3 HB9.out k9 hW) k10 hW)
  have H10 : Hid (Calls Tryz.prog 6 #[.slice (some ⟨w9.heap.size + 1, 0, none⟩) 1 1] ((w9.alloc (.cells #[.string { data := #[97] }] 9)).alloc (.cells #[.string { data := #[97] }, .slice (some ⟨w9.heap.size, 0, none⟩) 1 1] 32)) fun e w' => e = .returned (.bool false) ∧ Below ((w9.alloc (.cells #[.string { data := #[97] }] 9)).alloc (.cells #[.string { data := #[97] }, .slice (some ⟨w9.heap.size, 0, none⟩) 1 1] 32)).heap.size ((w9.alloc (.cells #[.string { data := #[97] }] 9)).alloc (.cells #[.string { data := #[97] }, .slice (some ⟨w9.heap.size, 0, none⟩) 1 1] 32)) w') := Lib.hid (rightFw own1_fw own1_right v9)
  clear hB k9 s9 z9 v9 k10 H8 HB8 HB9
  go_wp2_with fail
  refine H10.out.mono ?_; rintro e w11 ⟨rfl, hB⟩
  have HB11 := Lib.hid (below3 HB10.out hB hW)
  have v11 := lit_vrow w11 emp1 [.slice none 0 0] #[.string (bs []), .slice none 0 0] 1 rfl (by omega) rfl
    (fun i hi => by
      match i, hi with
      | 0, _ => exact ⟨rfl, rfl⟩)
    (fun i hi u hu => by
      match i, hi with
      | 0, _ => injection hu with hu; subst hu; exact srow_nil' _ _)
  have k11 := below_new w11 (.cells #[.string (bs []), .slice none 0 0] 32)
  have HB12 := Lib.hid (below3 HB11.out k11 hW)
  have H12 : Hid (Calls Tryz.prog 13 #[.slice (some ⟨w11.heap.size, 0, none⟩) 1 1] (w11.alloc (.cells #[.string { data := #[] }, .slice none 0 0] 32)) (OrdPost [] (w11.alloc (.cells #[.string { data := #[] }, .slice none 0 0] 32)))) := Lib.hid (orderFw emp1_fw (show (if rightV emp1 = true then orderOf emp1 else []) = [] by rw [emp1_right, if_neg (by simp)]) v11)
  clear hB v11 k11 H10 HB10 HB11
  go_wp2_with fail
  refine H12.out.mono ?_; rintro e w13 ⟨u13, rfl, hs13, hB⟩
  have HB13 := Lib.hid (below3 HB12.out hB hW)
  obtain ⟨A13, cap13, rfl, _⟩ := hs13
  clear hB H12 HB12
  go_wp2_with fail
  go_ret
  exact ⟨rfl, HB13.out⟩
end Go.Proofs.YtmnhnighlgpjmaaGreat
