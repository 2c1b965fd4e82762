/-
  Contracts of the writers of numbers: wire's appendNumber and fold, and the reference's groups.
-/
import Derived.Test.YtebepofbngdccaaChecked
import Derived.Test.YtebepofbngdccaaPureW
import Derived.WalkKit
import Derived.WalkLawsBesides
import Derived.WalkSpells
import Derived.LoopTactic
import Derived.Lib.Hide
import Derived.Lib.AppendStr
import Derived.Deep.AppendLies
import Derived.Outline
import Derived.Below
namespace Go.Proofs.Ytebepofbngdccaa
set_option linter.unusedVariables false
set_option linter.unusedSimpArgs false
open Go.RowKit

theorem info5 : (Try.prog.info? 5).map (fun i => (i.zero, i.size, i.bytes)) = some (some (.int .u8 0), 1, 1) := by kernel_rfl

def cl (l : List UInt8) : List Value := l.map fun b => .int .u8 b.toNat
theorem cl_length (l : List UInt8) : (cl l).length = l.length := by simp [cl]
theorem cl_append (a b : List UInt8) : cl (a ++ b) = cl a ++ cl b := by simp [cl]

theorem or_128 (x : Nat) (h : x < 256) : bits .or .u8 (x : Int) 128 = ((x % 128 + 128 : Nat) : Int) := by
  have : ∀ x : Nat, x < 256 → bits .or .u8 (x : Int) 128 = ((x % 128 + 128 : Nat) : Int) := by decide +kernel
  exact this x h

theorem conv_own {w : World} {base n : Nat} {v : Value} {l : List UInt8} (hl : 0 < l.length) (h : w.ownsRow base 5 1 v n (cl l)) : (convert 53 9 v).run Try.prog w = .ok (.string (bs l)) w := by
  have hn : n = l.length := by have := h.1; rw [cl_length] at this; omega
  subst hn
  obtain ⟨g, cap, hv, hb, hlt⟩ := h.form hl
  subst hv
  refine run_convert_bytes_back (P := Try.prog) w 53 9 5 ⟨g, 0, none⟩ cap l Try.underlying53 Try.underlying5 Try.underlying9 (fun j hj => ?_)
  exact h.cells (g := g) rfl j _ (by simp [cl, hj])

/-- The row v holds n cells and behind it these bytes. -/
def AppPost (base n : Nat) (xs : List Value) (l : List UInt8) (w : World) (e : Ending) (w' : World) : Prop :=
  ∃ v', e = .returned v' ∧ w'.ownsRow base 5 1 v' (n + l.length) (xs ++ cl l) ∧ Below base w w'

theorem conv_post {w w' : World} {base m : Nat} {v : Value} (h : AppPost base 0 [] (enc m) w (.returned v) w') : (convert 53 9 v).run Try.prog w' = .ok (.string (bs (enc m))) w' := by
  obtain ⟨v', hv, ho, hb⟩ := h
  injection hv with hv
  subst hv
  exact conv_own (enc_pos m) (by simpa using ho)
theorem app_step (ys : List UInt8) (m' n base : Nat) (v' : Value) (xs : List Value) (w w3 : World) (m : Nat) (hm : m < 18446744073709551616) (he : enc m = ys ++ enc m') (hlt : 128 ≤ m') (hm' : m' < 18446744073709551616)
    (h : w3.ownsRow base 5 1 v' (n + (ys.length + 1)) (xs ++ (cl ys ++ [.int .u8 ((m' % 128 + 128 : Nat) : Int)]))) (hB : Below base w w3) :
    ∃ (ys : List UInt8) (q : Nat), enc m = ys ++ enc q ∧ Value.int .u64 ((m' : Int) / 128) = .int .u64 q ∧ q < 18446744073709551616 ∧ ys.length ≤ 10 ∧
      w3.ownsRow base 5 1 v' (n + ys.length) (xs ++ cl ys) ∧ Below base w w3 := by
  have hl := enc_le10 hm
  have hp := enc_pos m'
  rw [he, List.length_append] at hl
  rw [enc_hi hlt] at he
  refine ⟨ys ++ [UInt8.ofNat (m' % 128 + 128)], m' / 128, by rw [he]; simp, rfl, by omega, by simp; omega, ?_, hB⟩
  rw [cl_append, List.length_append]
  have e : cl [UInt8.ofNat (m' % 128 + 128)] = [.int .u8 ((m' % 128 + 128 : Nat) : Int)] := by
    simp only [cl, List.map_cons, List.map_nil]; rw [u8_of (by omega)]
  rw [e]; exact h
theorem app_end (ys : List UInt8) (m' n base : Nat) (v' : Value) (xs : List Value) (w w3 : World) (m : Nat) (he : enc m = ys ++ enc m') (hlt : m' < 128)
    (h : w3.ownsRow base 5 1 v' (n + (ys.length + 1)) (xs ++ (cl ys ++ [.int .u8 (m' : Int)]))) (hB : Below base w w3) :
    AppPost base n xs (enc m) w (.returned v') w3 := by
  rw [enc_lo hlt] at he
  refine ⟨v', rfl, ?_, hB⟩
  rw [he, cl_append, List.length_append]
  have e : cl [UInt8.ofNat m'] = [.int .u8 (m' : Int)] := by
    simp only [cl, List.map_cons, List.map_nil]; rw [u8_of (by omega)]
  rw [e]; exact h
set_option maxRecDepth 100000 in
theorem app_any (base n : Nat) (v : Value) (xs : List Value) (m : Nat) (w : World) (hm : m < 18446744073709551616) (hn : n ≤ 1000000) (hb : base ≤ w.heap.size)
    (hown : w.ownsRow base 5 1 v n xs) :
    Calls Try.prog 43 #[v, .int .u64 m] w (AppPost base n xs (enc m) w) := by
  obtain ⟨i0, hi0, hz0, hz1, hz2⟩ := info_parts info5
  go_enter Try.func43, Try.ntmps43
  go_wp2
  go_loopw [0, 1] (fun b s wr => ∃ (ys : List UInt8) (m' : Nat), enc m = ys ++ enc m' ∧ s = .int .u64 m' ∧ m' < 18446744073709551616 ∧ ys.length ≤ 10 ∧
      wr.ownsRow base 5 1 b (n + ys.length) (xs ++ cl ys) ∧ Below base w wr) (fun _ s _ => (intOf s).toNat)
  case atStart => exact ⟨[], m, rfl, rfl, hm, by simp, by simpa [cl] using hown, Below.refl _ _⟩
  case round =>
    obtain ⟨ys, m', he, rfl, hm', hy, hown', hB⟩ := hrel
    have hbs : base ≤ wr.heap.size := Nat.le_trans hb hB.size
    have HE := Lib.hid he; clear he
    by_cases hlt : 128 ≤ m'
    · have hor := or_128 (m' % 256) (by omega)
      have hor' : bits .or .u8 ((m' : Int) % 256) 128 = ((m' % 128 + 128 : Nat) : Int) := by
        have e : m' % 256 % 128 = m' % 128 := by omega
        rw [e] at hor
        rw [← hor]
        rfl
      clear hor
      go_wp2_with (at_builtin; refine wpList_append_own _ rfl _ _ 53 rfl base 5 i0 (.int .u8 0) 1 1 Try.underlying53 hi0 hz0 hz1 hz2 rfl (by decide) _ _ _ rfl (hown'.alloc _) ⟨wr.heap.size, 0, none⟩ 1 1 [.int .u8 ((m' % 128 + 128 : Nat) : Int)] rfl rfl (cell_one_new _ _ _) (fun x hx => by simp at hx; subst hx; rfl) (by unfold maxLen; omega) (by omega) (by simp; omega) ?_; intro v' w3 hown3 hgrow3 hnil3)
      go_roundw
      case rel => exact app_step ys m' n base v' xs w w3 m hm HE.out hlt hm' (by simpa [Nat.add_assoc, List.append_assoc] using hown3) ((hB.alloc hbs _).grown hgrow3 (by simp; omega) (fun k hk => (hown'.lt k hk).1))
      case measure => simp [intOf]; omega
    · go_wp2_with (at_builtin; refine wpList_append_own _ rfl _ _ 53 rfl base 5 i0 (.int .u8 0) 1 1 Try.underlying53 hi0 hz0 hz1 hz2 rfl (by decide) _ _ _ rfl (hown'.alloc _) ⟨wr.heap.size, 0, none⟩ 1 1 [.int .u8 (m' : Int)] rfl rfl (cell_one_new _ _ _) (fun x hx => by simp at hx; subst hx; rfl) (by unfold maxLen; omega) (by omega) (by simp; omega) ?_; intro v' w3 hown3 hgrow3 hnil3)
      go_ret
      exact app_end ys m' n base v' xs w w3 m HE.out (by omega) (by simpa [Nat.add_assoc, List.append_assoc] using hown3) ((hB.alloc hbs _).grown hgrow3 (by simp; omega) (fun k hk => (hown'.lt k hk).1))
set_option maxRecDepth 100000 in
theorem groups_any (m : Nat) (w : World) (hm : m < 18446744073709551616) :
    Calls Try.prog 44 #[.int .u64 m] w fun e w' => e = .returned (.string (bs (enc m))) ∧ Below w.heap.size w w' := by
  obtain ⟨i0, hi0, hz0, hz1, hz2⟩ := info_parts info5
  go_enter Try.func44, Try.ntmps44
  go_wp2
  go_loopw [0, 3] (fun s b wr => ∃ (ys : List UInt8) (m' : Nat), enc m = ys ++ enc m' ∧ s = .int .u64 m' ∧ m' < 18446744073709551616 ∧ ys.length ≤ 10 ∧
      wr.ownsRow w.heap.size 5 1 b ys.length (cl ys) ∧ Below w.heap.size w wr) (fun s _ _ => (intOf s).toNat)
  case atStart => exact ⟨[], m, rfl, rfl, hm, by simp, World.ownsRow_nil _ _ _ _, Below.refl _ _⟩
  case round =>
    obtain ⟨ys, m', he, rfl, hm', hy, hown', hB⟩ := hrel
    have hbs : w.heap.size ≤ wr.heap.size := hB.size
    have HE := Lib.hid he; clear he
    by_cases hlt : 128 ≤ m'
    · go_wp2_with (at_builtin; refine wpList_append_own _ rfl _ _ 53 rfl w.heap.size 5 i0 (.int .u8 0) 1 1 Try.underlying53 hi0 hz0 hz1 hz2 rfl (by decide) _ _ _ rfl (hown'.alloc _) ⟨wr.heap.size, 0, none⟩ 1 1 [.int .u8 ((m' : Int) % 128 + 128)] rfl rfl (cell_one_new _ _ _) (fun x hx => by simp at hx; subst hx; rfl) (by unfold maxLen; omega) (by omega) (by simp; omega) ?_; intro v' w3 hown3 hgrow3 hnil3)
      go_roundw
      case rel => 
        obtain ⟨ys', q, r1, r2, r3, r4, r5, r6⟩ := app_step ys m' 0 w.heap.size v' [] w w3 m hm HE.out hlt hm' (by simpa using hown3) ((hB.alloc hbs _).grown hgrow3 (by simp; omega) (fun k hk => (hown'.lt k hk).1))
        exact ⟨ys', q, r1, r2, r3, r4, by simpa using r5, r6⟩
      case measure => simp [intOf]; omega
    · go_wp2_with (at_builtin; refine wpList_append_own _ rfl _ _ 53 rfl w.heap.size 5 i0 (.int .u8 0) 1 1 Try.underlying53 hi0 hz0 hz1 hz2 rfl (by decide) _ _ _ rfl (hown'.alloc _) ⟨wr.heap.size, 0, none⟩ 1 1 [.int .u8 (m' : Int)] rfl rfl (cell_one_new _ _ _) (fun x hx => by simp at hx; subst hx; rfl) (by unfold maxLen; omega) (by omega) (by simp; omega) ?_; intro v' w3 hown3 hgrow3 hnil3; have HF := Lib.hid (app_end ys m' 0 w.heap.size v' [] w w3 m HE.out (by omega) (by simpa using hown3) ((hB.alloc hbs _).grown hgrow3 (by simp; omega) (fun k hk => (hown'.lt k hk).1))); have hcv := conv_post HF.out)
      go_ret
      obtain ⟨_, _, _, hb⟩ := HF.out
      exact ⟨rfl, hb⟩
end Go.Proofs.Ytebepofbngdccaa
