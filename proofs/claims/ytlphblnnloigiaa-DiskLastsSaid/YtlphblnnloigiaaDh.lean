/-
  Layer 6: here.
-/
import Derived.Test.YtlphblnnloigiaaDe
namespace Go.Proofs.Ytlphblnnloigiaa
set_option linter.unusedVariables false
set_option linter.unusedSimpArgs false
open Go.RowKit

theorem drewN_add (w : World) (q n : Nat) : (w.drewN q).drewN n = w.drewN (q + n) := by
  unfold World.drewN; simp [Nat.add_assoc]
/-- The byte at i of a string. -/
def bt (s : ByteArray) (i : Nat) : UInt8 := s.data.toList.getD i 0
theorem bt_get (s : ByteArray) (i : Nat) (h : i < s.size) : s[i] = bt s i := by
  unfold bt
  rw [List.getD_eq_getElem?_getD, List.getElem?_eq_getElem (by rw [dl_len]; exact h)]
  rfl
/-- x wrote the byte b at i of the file f. -/
def mt (x : Ae) (f : Int) (i : Nat) (b : UInt8) : Bool := decide (x.a.f = f ∧ 0 ≤ (i : Int) - x.a.n ∧ (i : Int) - x.a.n < x.a.s.size ∧ bt x.a.s ((i : Int) - x.a.n).toNat = b)
/-- What a crash may leave of a file. -/
structure HereOk (s safe : ByteArray) (l : List Ae) (f : Int) : Prop where
  len : safe.size ≤ s.size
  each : ∀ i, i < s.size → (i < safe.size ∧ bt s i = bt safe i) ∨ (safe.size ≤ i ∧ bt s i = 0) ∨ ∃ k, k < l.length ∧ mt (ge l k) f i (bt s i) = true
def HoRel (n : Nat) (i : Value) (w wl : World) : Prop := ∃ k q : Nat, i = .int .i64 k ∧ k ≤ n ∧ wl = w.drewN q
def HiRel (l : List Ae) (f : Int) (i : Nat) (b : UInt8) (o j : Value) (w wl : World) : Prop := ∃ (k q : Nat) (r : Bool), o = .bool r ∧ j = .int .i64 k ∧ k ≤ l.length ∧ (r = false → ∀ m, m < k → mt (ge l m) f i b = false) ∧ wl = w.drewN q
set_option maxRecDepth 100000 in
set_option maxHeartbeats 8000000 in
theorem hereP (v : Value) (l : List Ae) (f : Int) (s safe : ByteArray) (w : World) (base : Nat) (h : OwnE w base v l) (hl : l.length ≤ 1000) (hs : s.size ≤ 16777216) (hsf : safe.size ≤ 16777216) (hok : HereOk s safe l f)
    (hn : ∀ x ∈ l, 0 ≤ x.a.n ∧ x.a.n ≤ 4000) :
    Calls Try.prog 13 #[.string s, .string safe, v, .int .i64 f] w fun e w' => e = .returned (.bool true) ∧ ∃ q, w' = w.drewN q := by
  obtain ⟨A, cap, rfl, hA⟩ := h.cells
  clear h
  have HOK := Lib.hid hok
  have HA := Lib.hid hA
  have HNN := Lib.hid hn
  have hlen := hok.len
  clear hok hA hn
  go_enter Try.func13, Try.ntmps13
  go_wp2_with fail
  go_loopw [9, 10, 11, 12] (fun i _ _ _ wl => HoRel s.size i w wl) (fun i _ _ _ _ => s.size - (intOf i).toNat)
  case atStart => exact ⟨0, 0, rfl, by omega, rfl⟩
  case round =>
    obtain ⟨i, q, rfl, hi, hw⟩ := hrel
    have HW := Lib.hid hw
    clear hw
    by_cases hlt : i < s.size
    · have q1 : (i : Int) < s.size := by omega
      have q2 : (0 : Int) ≤ (i : Int) := by omega
      have q3 : ((i : Int)).toNat = i := by omega
      have HEA := Lib.hid (HOK.out.each i hlt)
      have b1 := bt_get s i hlt
      have c0 : -1 ≤ (i : Int) := by omega
      by_cases h1 : i < safe.size
      · have g1 : decide ((i : Int) < safe.size) = true := by rw [decide_eq_true_iff]; omega
        have g2 : decide ((i : Int) ≥ safe.size) = false := by rw [decide_eq_false_iff_not]; omega
        have g3 : decide (safe.size ≤ i) = false := by rw [decide_eq_false_iff_not]; omega
        have b2 := bt_get safe i h1
        by_cases hb : bt s i = bt safe i
        · have e1 : (((bt s i).toNat : Int) == ((bt safe i).toNat : Int)) = true := by rw [hb]; simp
          have HB := Lib.hid hb
          clear hb
          go_wp2_with fail
          go_quiet (fail)
          have HW2 : Hid (wr.drewN nq = w.drewN (q + nq)) := by rw [HW.out, drewN_add]; exact Lib.hid rfl
          obtain ⟨W2, hW2⟩ : ∃ W2, wr.drewN nq = W2 := ⟨_, rfl⟩
          rw [hW2] at HW2 ⊢
          clear hW2
          go_wp2_with fail
          go_loopw [10, 11, 12] (fun o j _ wl => o = .bool true ∧ j = .int .i64 0 ∧ wl = W2) (fun _ _ _ _ => 0)
          case atStart => exact ⟨rfl, rfl, rfl⟩
          case round =>
            obtain ⟨rfl, rfl, rfl⟩ := hrel
            by_cases hl0 : 0 < l.length
            · have hl1 : (0 : Int) < l.length := by omega
              go_wp2_with fail
              go_roundw
              case rel => exact ⟨i + 1, _, by go_num, by omega, HW2.out⟩
              case measure => simp [intOf]; omega
            · have hl1 : ¬ (0 : Int) < l.length := by omega
              have hl2 : decide ((0 : Int) < l.length) = false := decide_eq_false hl1
              have hl3 : l.length = 0 := by omega
              go_wp2_with fail
              go_roundw
              case rel => exact ⟨i + 1, _, by go_num, by omega, HW2.out⟩
              case measure => simp [intOf]; omega
        · have e1 : (((bt s i).toNat : Int) == ((bt safe i).toNat : Int)) = false := by
            rw [beq_eq_false_iff_ne]; intro h; exact hb (UInt8.toNat_inj.1 (by omega))
          have HX : Hid (¬ ((i < safe.size ∧ bt s i = bt safe i) ∨ (safe.size ≤ i ∧ bt s i = 0))) := Lib.hid (by rintro (h | h); exact hb h.2; omega)
          clear hb
          go_wp2_with fail
          go_quiet (fail)
          have HW2 : Hid (wr.drewN nq = w.drewN (q + nq)) := by rw [HW.out, drewN_add]; exact Lib.hid rfl
          obtain ⟨W2, hW2⟩ : ∃ W2, wr.drewN nq = W2 := ⟨_, rfl⟩
          rw [hW2] at HW2 ⊢
          clear hW2
          go_wp2_with fail
          go_loopw [10, 11, 12] (fun o j _ wl => HiRel l f i (bt s i) o j w wl) (fun o j _ _ => l.length - (intOf j).toNat)
          case atStart => exact ⟨0, q + nq, false, rfl, rfl, by omega, (fun _ m hm => by omega), HW2.out⟩
          case round =>
            obtain ⟨k, q3, r, rfl, rfl, hk, hno, hw3⟩ := hrel
            obtain ⟨W3, rfl⟩ : ∃ W3 : World, W3 = wr := ⟨_, rfl⟩
            have HW3 := Lib.hid hw3
            have HNO := Lib.hid hno
            clear hw3 hno
            cases r
            · by_cases hkl : k < l.length
              · have q5 : (k : Int) < l.length := by omega
                obtain ⟨g, rfl, hg, hc⟩ := HA.out (by omega)
                have c1 : W3.cell? ⟨g, k * 6 + 1, none⟩ = (ge l k).cs[1]? := by rw [HW3.out]; exact hc k hkl 1 (by omega)
                have c3 : W3.cell? ⟨g, k * 6 + 3, none⟩ = (ge l k).cs[3]? := by rw [HW3.out]; exact hc k hkl 3 (by omega)
                have c4 : W3.cell? ⟨g, k * 6 + 4, none⟩ = (ge l k).cs[4]? := by rw [HW3.out]; exact hc k hkl 4 (by omega)
                have hnb := HNN.out (ge l k) (by rw [ge_get l k hkl]; exact List.getElem_mem hkl)
                have HMT : Hid (mt (ge l k) f i (bt s i) = decide ((ge l k).a.f = f ∧ 0 ≤ (i : Int) - (ge l k).a.n ∧ (i : Int) - (ge l k).a.n < (ge l k).a.s.size ∧ bt (ge l k).a.s ((i : Int) - (ge l k).a.n).toNat = bt s i)) := rfl
                have HST : Hid (∀ r, mt (ge l k) f i (bt s i) = r → (r = false → ∀ m, m < k + 1 → mt (ge l m) f i (bt s i) = false)) := Lib.hid fun r hr hr2 m hm => if e : m = k then by rw [e, hr, hr2] else HNO.out rfl m (by omega)
                obtain ⟨M, hM⟩ : ∃ M, mt (ge l k) f i (bt s i) = M := ⟨_, rfl⟩
                rw [hM] at HMT HST
                obtain ⟨x, hx⟩ : ∃ x, ge l k = x := ⟨_, rfl⟩
                rw [hx] at c1 c3 c4 hnb HMT
                clear hc hx hM
                obtain ⟨⟨o, ff, gg, nn, ss, kk⟩, xA, xn, xc⟩ := x
                unfold Ae.cs at c1 c3 c4
                simp only [List.getElem?_cons_succ, List.getElem?_cons_zero] at c1 c3 c4 hnb HMT
                obtain ⟨B, hB⟩ : ∃ B, bt s i = B := ⟨_, rfl⟩
                rw [hB] at HMT b1
                have HBB := Lib.hid hB
                clear hB
                have n0 := hnb.1
                have n1 := hnb.2
                clear hnb
                by_cases hf : ff = f
                · subst hf
                  have p1 : (ff == ff) = true := by simp
                  by_cases ha : (i : Int) - nn < 0
                  · have d1 : decide ((i : Int) - nn ≥ 0) = false := by rw [decide_eq_false_iff_not]; omega
                    have d1' : decide (nn ≤ (i : Int)) = false := by rw [decide_eq_false_iff_not]; omega
                    have hMv : M = false := by rw [HMT.out]; exact decide_eq_false (by omega)
                    go_wp2_with fail
                    go_quiet (fail)
                    have HW4 : Hid (W3.drewN nq = w.drewN (q3 + nq)) := by rw [HW3.out, drewN_add]; exact Lib.hid rfl
                    go_wp2_with fail
                    go_roundw
                    case rel => exact ⟨k + 1, _, false, rfl, by go_num, by omega, HST.out false (by first | exact hMv | (rw [HBB.out]; exact hMv)), HW4.out⟩
                    case measure => simp [intOf]; omega
                  · have d1 : decide ((i : Int) - nn ≥ 0) = true := by rw [decide_eq_true_iff]; omega
                    have d1' : decide (nn ≤ (i : Int)) = true := by rw [decide_eq_true_iff]; omega
                    by_cases hb : (i : Int) - nn < ss.size
                    · have d2 : decide ((i : Int) - nn < ss.size) = true := decide_eq_true hb
                      have d3 : (0 : Int) ≤ (i : Int) - nn := by omega
                      obtain ⟨T, hT⟩ : ∃ T : Nat, (i : Int) - nn = T := ⟨((i : Int) - nn).toNat, by omega⟩
                      have hT2 : T < ss.size := by omega
                      have hT3 : ((T : Int)).toNat = T := by omega
                      have b3 := bt_get ss T hT2
                      rw [hT] at d1 d2 d3 HMT hb
                      by_cases he : bt ss T = B
                      · have e1 : (((bt ss T).toNat : Int) == (B.toNat : Int)) = true := by rw [he]; simp
                        have hMv : M = true := by rw [HMT.out]; exact decide_eq_true ⟨rfl, by omega, by omega, by rw [hT3]; exact he⟩
                        have HE := Lib.hid he
                        have hMv2 := Lib.hid hMv
                        clear he hMv
                        go_wp2_with fail
                        go_quiet (fail)
                        have HW4 : Hid (W3.drewN nq = w.drewN (q3 + nq)) := by rw [HW3.out, drewN_add]; exact Lib.hid rfl
                        go_wp2_with fail
                        go_roundw
                        case rel => exact ⟨k + 1, _, true, rfl, by go_num, by omega, HST.out true (by first | exact hMv2.out | (rw [HBB.out]; exact hMv2.out)), HW4.out⟩
                        case measure => simp [intOf]; omega
                      · have e1 : (((bt ss T).toNat : Int) == (B.toNat : Int)) = false := by
                          rw [beq_eq_false_iff_ne]; intro h; exact he (UInt8.toNat_inj.1 (by omega))
                        have hMv : M = false := by rw [HMT.out]; exact decide_eq_false (by rw [hT3]; intro h; exact he h.2.2.2)
                        have hMv2 := Lib.hid hMv
                        clear he hMv
                        go_wp2_with fail
                        go_quiet (fail)
                        have HW4 : Hid (W3.drewN nq = w.drewN (q3 + nq)) := by rw [HW3.out, drewN_add]; exact Lib.hid rfl
                        go_wp2_with fail
                        go_roundw
                        case rel => exact ⟨k + 1, _, false, rfl, by go_num, by omega, HST.out false (by first | exact hMv2.out | (rw [HBB.out]; exact hMv2.out)), HW4.out⟩
                        case measure => simp [intOf]; omega
                    · have d2 : decide ((i : Int) - nn < ss.size) = false := decide_eq_false hb
                      have hMv : M = false := by rw [HMT.out]; exact decide_eq_false (by omega)
                      go_wp2_with fail
                      go_quiet (fail)
                      have HW4 : Hid (W3.drewN nq = w.drewN (q3 + nq)) := by rw [HW3.out, drewN_add]; exact Lib.hid rfl
                      go_wp2_with fail
                      go_roundw
                      case rel => exact ⟨k + 1, _, false, rfl, by go_num, by omega, HST.out false (by first | exact hMv | (rw [HBB.out]; exact hMv)), HW4.out⟩
                      case measure => simp [intOf]; omega
                · have p1 : (ff == f) = false := by simp [hf]
                  have hMv : M = false := by rw [HMT.out]; exact decide_eq_false (by intro h; exact hf h.1)
                  go_wp2_with fail
                  go_quiet (fail)
                  have HW4 : Hid (W3.drewN nq = w.drewN (q3 + nq)) := by rw [HW3.out, drewN_add]; exact Lib.hid rfl
                  go_wp2_with fail
                  go_roundw
                  case rel => exact ⟨k + 1, _, false, rfl, by go_num, by omega, HST.out false (by first | exact hMv | (rw [HBB.out]; exact hMv)), HW4.out⟩
                  case measure => simp [intOf]; omega
              · obtain rfl : k = l.length := by omega
                exfalso
                rcases HEA.out with h | h | ⟨m, hm1, hm2⟩
                · exact HX.out (.inl h)
                · exact HX.out (.inr h)
                · rw [HNO.out rfl m hm1] at hm2; cases hm2
            · by_cases hkl : k < l.length
              · have q5 : (k : Int) < l.length := by omega
                go_wp2_with fail
                go_roundw
                case rel => exact ⟨i + 1, q3, by go_num, by omega, HW3.out⟩
                case measure => simp [intOf]; omega
              · have q5 : ¬ (k : Int) < l.length := by omega
                have q6 : decide ((k : Int) < l.length) = false := decide_eq_false q5
                have q7 : l.length ≤ k := by omega
                go_wp2_with fail
                go_roundw
                case rel => exact ⟨i + 1, q3, by go_num, by omega, HW3.out⟩
                case measure => simp [intOf]; omega
      · have g1 : decide ((i : Int) < safe.size) = false := by rw [decide_eq_false_iff_not]; omega
        have g2 : decide ((i : Int) ≥ safe.size) = true := by rw [decide_eq_true_iff]; omega
        have g3 : decide (safe.size ≤ i) = true := by rw [decide_eq_true_iff]; omega
        by_cases hb : bt s i = 0
        · have e1 : (((bt s i).toNat : Int) == 0) = true := by rw [hb]; rfl
          have HB := Lib.hid hb
          clear hb
          go_wp2_with fail
          go_quiet (fail)
          have HW2 : Hid (wr.drewN nq = w.drewN (q + nq)) := by rw [HW.out, drewN_add]; exact Lib.hid rfl
          obtain ⟨W2, hW2⟩ : ∃ W2, wr.drewN nq = W2 := ⟨_, rfl⟩
          rw [hW2] at HW2 ⊢
          clear hW2
          go_wp2_with fail
          go_loopw [10, 11, 12] (fun o j _ wl => o = .bool true ∧ j = .int .i64 0 ∧ wl = W2) (fun _ _ _ _ => 0)
          case atStart => exact ⟨rfl, rfl, rfl⟩
          case round =>
            obtain ⟨rfl, rfl, rfl⟩ := hrel
            by_cases hl0 : 0 < l.length
            · have hl1 : (0 : Int) < l.length := by omega
              go_wp2_with fail
              go_roundw
              case rel => exact ⟨i + 1, _, by go_num, by omega, HW2.out⟩
              case measure => simp [intOf]; omega
            · have hl1 : ¬ (0 : Int) < l.length := by omega
              have hl2 : decide ((0 : Int) < l.length) = false := decide_eq_false hl1
              have hl3 : l.length = 0 := by omega
              go_wp2_with fail
              go_roundw
              case rel => exact ⟨i + 1, _, by go_num, by omega, HW2.out⟩
              case measure => simp [intOf]; omega
        · have e1 : (((bt s i).toNat : Int) == 0) = false := by
            rw [beq_eq_false_iff_ne]; intro h; exact hb (UInt8.toNat_inj.1 (by rw [UInt8.toNat_zero]; omega))
          have HX : Hid (¬ ((i < safe.size ∧ bt s i = bt safe i) ∨ (safe.size ≤ i ∧ bt s i = 0))) := Lib.hid (by rintro (h | h); omega; exact hb h.2)
          clear hb
          go_wp2_with fail
          go_quiet (fail)
          have HW2 : Hid (wr.drewN nq = w.drewN (q + nq)) := by rw [HW.out, drewN_add]; exact Lib.hid rfl
          obtain ⟨W2, hW2⟩ : ∃ W2, wr.drewN nq = W2 := ⟨_, rfl⟩
          rw [hW2] at HW2 ⊢
          clear hW2
          go_wp2_with fail
          go_loopw [10, 11, 12] (fun o j _ wl => HiRel l f i (bt s i) o j w wl) (fun o j _ _ => l.length - (intOf j).toNat)
          case atStart => exact ⟨0, q + nq, false, rfl, rfl, by omega, (fun _ m hm => by omega), HW2.out⟩
          case round =>
            obtain ⟨k, q3, r, rfl, rfl, hk, hno, hw3⟩ := hrel
            obtain ⟨W3, rfl⟩ : ∃ W3 : World, W3 = wr := ⟨_, rfl⟩
            have HW3 := Lib.hid hw3
            have HNO := Lib.hid hno
            clear hw3 hno
            cases r
            · by_cases hkl : k < l.length
              · have q5 : (k : Int) < l.length := by omega
                obtain ⟨g, rfl, hg, hc⟩ := HA.out (by omega)
                have c1 : W3.cell? ⟨g, k * 6 + 1, none⟩ = (ge l k).cs[1]? := by rw [HW3.out]; exact hc k hkl 1 (by omega)
                have c3 : W3.cell? ⟨g, k * 6 + 3, none⟩ = (ge l k).cs[3]? := by rw [HW3.out]; exact hc k hkl 3 (by omega)
                have c4 : W3.cell? ⟨g, k * 6 + 4, none⟩ = (ge l k).cs[4]? := by rw [HW3.out]; exact hc k hkl 4 (by omega)
                have hnb := HNN.out (ge l k) (by rw [ge_get l k hkl]; exact List.getElem_mem hkl)
                have HMT : Hid (mt (ge l k) f i (bt s i) = decide ((ge l k).a.f = f ∧ 0 ≤ (i : Int) - (ge l k).a.n ∧ (i : Int) - (ge l k).a.n < (ge l k).a.s.size ∧ bt (ge l k).a.s ((i : Int) - (ge l k).a.n).toNat = bt s i)) := rfl
                have HST : Hid (∀ r, mt (ge l k) f i (bt s i) = r → (r = false → ∀ m, m < k + 1 → mt (ge l m) f i (bt s i) = false)) := Lib.hid fun r hr hr2 m hm => if e : m = k then by rw [e, hr, hr2] else HNO.out rfl m (by omega)
                obtain ⟨M, hM⟩ : ∃ M, mt (ge l k) f i (bt s i) = M := ⟨_, rfl⟩
                rw [hM] at HMT HST
                obtain ⟨x, hx⟩ : ∃ x, ge l k = x := ⟨_, rfl⟩
                rw [hx] at c1 c3 c4 hnb HMT
                clear hc hx hM
                obtain ⟨⟨o, ff, gg, nn, ss, kk⟩, xA, xn, xc⟩ := x
                unfold Ae.cs at c1 c3 c4
                simp only [List.getElem?_cons_succ, List.getElem?_cons_zero] at c1 c3 c4 hnb HMT
                obtain ⟨B, hB⟩ : ∃ B, bt s i = B := ⟨_, rfl⟩
                rw [hB] at HMT b1
                have HBB := Lib.hid hB
                clear hB
                have n0 := hnb.1
                have n1 := hnb.2
                clear hnb
                by_cases hf : ff = f
                · subst hf
                  have p1 : (ff == ff) = true := by simp
                  by_cases ha : (i : Int) - nn < 0
                  · have d1 : decide ((i : Int) - nn ≥ 0) = false := by rw [decide_eq_false_iff_not]; omega
                    have d1' : decide (nn ≤ (i : Int)) = false := by rw [decide_eq_false_iff_not]; omega
                    have hMv : M = false := by rw [HMT.out]; exact decide_eq_false (by omega)
                    go_wp2_with fail
                    go_quiet (fail)
                    have HW4 : Hid (W3.drewN nq = w.drewN (q3 + nq)) := by rw [HW3.out, drewN_add]; exact Lib.hid rfl
                    go_wp2_with fail
                    go_roundw
                    case rel => exact ⟨k + 1, _, false, rfl, by go_num, by omega, HST.out false (by first | exact hMv | (rw [HBB.out]; exact hMv)), HW4.out⟩
                    case measure => simp [intOf]; omega
                  · have d1 : decide ((i : Int) - nn ≥ 0) = true := by rw [decide_eq_true_iff]; omega
                    have d1' : decide (nn ≤ (i : Int)) = true := by rw [decide_eq_true_iff]; omega
                    by_cases hb : (i : Int) - nn < ss.size
                    · have d2 : decide ((i : Int) - nn < ss.size) = true := decide_eq_true hb
                      have d3 : (0 : Int) ≤ (i : Int) - nn := by omega
                      obtain ⟨T, hT⟩ : ∃ T : Nat, (i : Int) - nn = T := ⟨((i : Int) - nn).toNat, by omega⟩
                      have hT2 : T < ss.size := by omega
                      have hT3 : ((T : Int)).toNat = T := by omega
                      have b3 := bt_get ss T hT2
                      rw [hT] at d1 d2 d3 HMT hb
                      by_cases he : bt ss T = B
                      · have e1 : (((bt ss T).toNat : Int) == (B.toNat : Int)) = true := by rw [he]; simp
                        have hMv : M = true := by rw [HMT.out]; exact decide_eq_true ⟨rfl, by omega, by omega, by rw [hT3]; exact he⟩
                        have HE := Lib.hid he
                        have hMv2 := Lib.hid hMv
                        clear he hMv
                        go_wp2_with fail
                        go_quiet (fail)
                        have HW4 : Hid (W3.drewN nq = w.drewN (q3 + nq)) := by rw [HW3.out, drewN_add]; exact Lib.hid rfl
                        go_wp2_with fail
                        go_roundw
                        case rel => exact ⟨k + 1, _, true, rfl, by go_num, by omega, HST.out true (by first | exact hMv2.out | (rw [HBB.out]; exact hMv2.out)), HW4.out⟩
                        case measure => simp [intOf]; omega
                      · have e1 : (((bt ss T).toNat : Int) == (B.toNat : Int)) = false := by
                          rw [beq_eq_false_iff_ne]; intro h; exact he (UInt8.toNat_inj.1 (by omega))
                        have hMv : M = false := by rw [HMT.out]; exact decide_eq_false (by rw [hT3]; intro h; exact he h.2.2.2)
                        have hMv2 := Lib.hid hMv
                        clear he hMv
                        go_wp2_with fail
                        go_quiet (fail)
                        have HW4 : Hid (W3.drewN nq = w.drewN (q3 + nq)) := by rw [HW3.out, drewN_add]; exact Lib.hid rfl
                        go_wp2_with fail
                        go_roundw
                        case rel => exact ⟨k + 1, _, false, rfl, by go_num, by omega, HST.out false (by first | exact hMv2.out | (rw [HBB.out]; exact hMv2.out)), HW4.out⟩
                        case measure => simp [intOf]; omega
                    · have d2 : decide ((i : Int) - nn < ss.size) = false := decide_eq_false hb
                      have hMv : M = false := by rw [HMT.out]; exact decide_eq_false (by omega)
                      go_wp2_with fail
                      go_quiet (fail)
                      have HW4 : Hid (W3.drewN nq = w.drewN (q3 + nq)) := by rw [HW3.out, drewN_add]; exact Lib.hid rfl
                      go_wp2_with fail
                      go_roundw
                      case rel => exact ⟨k + 1, _, false, rfl, by go_num, by omega, HST.out false (by first | exact hMv | (rw [HBB.out]; exact hMv)), HW4.out⟩
                      case measure => simp [intOf]; omega
                · have p1 : (ff == f) = false := by simp [hf]
                  have hMv : M = false := by rw [HMT.out]; exact decide_eq_false (by intro h; exact hf h.1)
                  go_wp2_with fail
                  go_quiet (fail)
                  have HW4 : Hid (W3.drewN nq = w.drewN (q3 + nq)) := by rw [HW3.out, drewN_add]; exact Lib.hid rfl
                  go_wp2_with fail
                  go_roundw
                  case rel => exact ⟨k + 1, _, false, rfl, by go_num, by omega, HST.out false (by first | exact hMv | (rw [HBB.out]; exact hMv)), HW4.out⟩
                  case measure => simp [intOf]; omega
              · obtain rfl : k = l.length := by omega
                exfalso
                rcases HEA.out with h | h | ⟨m, hm1, hm2⟩
                · exact HX.out (.inl h)
                · exact HX.out (.inr h)
                · rw [HNO.out rfl m hm1] at hm2; cases hm2
            · by_cases hkl : k < l.length
              · have q5 : (k : Int) < l.length := by omega
                go_wp2_with fail
                go_roundw
                case rel => exact ⟨i + 1, q3, by go_num, by omega, HW3.out⟩
                case measure => simp [intOf]; omega
              · have q5 : ¬ (k : Int) < l.length := by omega
                have q6 : decide ((k : Int) < l.length) = false := decide_eq_false q5
                have q7 : l.length ≤ k := by omega
                go_wp2_with fail
                go_roundw
                case rel => exact ⟨i + 1, q3, by go_num, by omega, HW3.out⟩
                case measure => simp [intOf]; omega
    · obtain rfl : i = s.size := by omega
      have g1 : decide ((s.size : Int) ≥ safe.size) = true := by rw [decide_eq_true_iff]; omega
      have g2 : decide (safe.size ≤ s.size) = true := by rw [decide_eq_true_iff]; omega
      go_wp2_with fail
      go_ret
      exact ⟨rfl, _, HW.out⟩
end Go.Proofs.Ytlphblnnloigiaa
