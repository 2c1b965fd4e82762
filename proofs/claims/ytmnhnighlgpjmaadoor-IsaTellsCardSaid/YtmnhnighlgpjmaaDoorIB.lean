/-
  Package isa: the text of an instruction, plain; the text of an operand; rows of strings that the call makes.
-/
import Derived.Test.YtmnhnighlgpjmaaDoorI6
import Derived.Lib.AppendIntMem
import Derived.Lib.SlFresh
import Derived.Maps.AppendAt
import Derived.Laws.AppendOwn
import Derived.Lib.AppendStr
namespace Go.Proofs.YtmnhnighlgpjmaaDoor
set_option linter.unusedVariables false
set_option linter.unusedSimpArgs false
open Go.RowKit

/-- The text of an operand. -/
def txtO (f : Nat) (n : Int) : List UInt8 := if f = 3 then Lib.itoa n else 114 :: Lib.itoa n
/-- The texts of the first k fields that are operands. -/
def txts (i : Ins) (k : Nat) : List (List UInt8) := ((List.range k).filter (hasB (opsN i.op.toNat))).map fun f => txtO f (fldN i f)
/-- The text of an instruction. -/
def textL (i : Ins) : List UInt8 := if rightB i then (if txts i 4 = [] then nameN i.op.toNat else nameN i.op.toNat ++ [32] ++ Lib.join (txts i 4) [44, 32]) else []
theorem txts_yes {i : Ins} {k : Nat} (h : hasB (opsN i.op.toNat) k = true) : txts i (k + 1) = txts i k ++ [txtO k (fldN i k)] := by
  unfold txts
  rw [List.range_succ, List.filter_append, List.map_append]
  simp [h]
theorem txts_no {i : Ins} {k : Nat} (h : hasB (opsN i.op.toNat) k = false) : txts i (k + 1) = txts i k := by
  unfold txts
  rw [List.range_succ, List.filter_append, List.map_append]
  simp [h]
theorem txts_len (i : Ins) (k : Nat) : (txts i k).length ≤ k := by
  unfold txts
  rw [List.length_map]
  exact Nat.le_trans (List.length_filter_le _ _) (by simp)

theorem decDigits_len : ∀ (k u : Nat), u < 10 ^ (k + 1) → (Lib.decDigits u).length ≤ k + 1
  | 0, u, h => by rw [Lib.decDigits_one (by omega)]; exact Nat.le_refl _
  | k + 1, u, h => by
    by_cases hu : u < 10
    · rw [Lib.decDigits_one hu]; simp
    · rw [Lib.decDigits, dif_neg hu, List.length_append]
      have := decDigits_len k (u / 10) (by rw [Nat.pow_succ] at h; omega)
      simp; omega
theorem itoa_len (n : Int) (h1 : -9223372036854775808 ≤ n) (h2 : n ≤ 9223372036854775807) : (Lib.itoa n).length ≤ 20 := by
  unfold Lib.itoa
  split
  · have := decDigits_len 18 n.natAbs (by omega)
    simp; omega
  · have := decDigits_len 18 n.toNat (by omega)
    omega
theorem join_two (x y : List UInt8) (r : List (List UInt8)) (sep : List UInt8) : Lib.join (x :: y :: r) sep = x ++ sep ++ Lib.join (y :: r) sep := by
  rw [Lib.join_cons, Lib.join_cons]; simp [Lib.joinTail]
theorem join_len (sep : List UInt8) (m : Nat) : ∀ xs : List (List UInt8), (∀ x ∈ xs, x.length ≤ m) → (Lib.join xs sep).length ≤ xs.length * (m + sep.length)
  | [], _ => by simp [Lib.join]
  | [x], h => by
    have := h x (by simp)
    simp [Lib.join]; omega
  | x :: y :: r, h => by
    have h1 := h x (by simp)
    have h2 := join_len sep m (y :: r) (fun z hz => h z (List.mem_cons_of_mem _ hz))
    rw [join_two, List.length_append, List.length_append, List.length_cons, Nat.succ_mul]
    omega

theorem itoaP (n : Int) (w : World) (h1 : -9223372036854775808 ≤ n) (h2 : n ≤ 9223372036854775807) (hL : LaidI w) :
    Calls Tryd.prog 51 #[.int .i64 n] w fun e w' => e = .returned (.string (arr (Lib.itoa n))) ∧ Below w.heap.size w w' := by
  refine (Tryd.strconv_Itoa n h1 h2 w hL.tab).mono ?_
  rintro e w' ⟨rfl, k, os, rfl⟩
  exact ⟨rfl, Lib.below_grow _ _ (Nat.le_refl _) _ _⟩

theorem opTextP (f : Nat) (n : Int) (w : World) (h1 : -9223372036854775808 ≤ n) (h2 : n ≤ 9223372036854775807) (hL : LaidI w) :
    Calls Tryd.prog 34 #[.int .i64 f, .int .i64 n] w fun e w' => e = .returned (.string (arr (txtO f n))) ∧ Below w.heap.size w w' := by
  have HI := Lib.hid (itoaP n w h1 h2 hL)
  have hlen := itoa_len n h1 h2
  have hadd := fun w => run_string_add_sum (P := Tryd.prog) (w := w) ⟨#[114]⟩ (arr (Lib.itoa n)) (by rw [arr_size]; show 1 + _ ≤ _; omega)
  obtain ⟨s, hs⟩ : ∃ s, arr (Lib.itoa n) = s := ⟨_, rfl⟩
  have HV : Hid (arr (txtO f n) = if f = 3 then s else ⟨#[114]⟩ ++ s) := Lib.hid (by
    unfold txtO
    by_cases h : f = 3
    · rw [if_pos h, if_pos h, hs]
    · rw [if_neg h, if_neg h, ← hs]; apply W1.ba_ext; simp [arr])
  rw [hs] at HI hadd
  clear hs hlen h1 h2 hL
  by_cases h : f = 3
  · subst h
    go_enter Tryd.func34, Tryd.ntmps34
    go_wp2_with fail
    refine HI.out.mono ?_; rintro e w2 ⟨rfl, hb⟩
    have HB := Lib.hid hb; clear hb
    go_wp2_with fail
    go_ret
    exact ⟨by rw [HV.out]; rfl, HB.out⟩
  · have h3 : ((f : Int) == 3) = false := beq_eq_false_iff_ne.2 (by omega)
    have HN := Lib.hid h
    clear h
    go_enter Tryd.func34, Tryd.ntmps34
    go_wp2_with fail
    refine HI.out.mono ?_; rintro e w2 ⟨rfl, hb⟩
    have HB := Lib.hid hb; clear hb
    go_wp2_with fail
    go_ret
    exact ⟨by rw [HV.out, if_neg HN.out]; rfl, HB.out⟩

theorem own_succ {W : World} {base : Nat} {e : TypeId} {v : Value} {k : Nat} {xs : List Value} (h : W.ownsRow base e 1 v (k + 1) xs) : ∃ g cap, v = .slice (some ⟨g, 0, none⟩) (k + 1) cap := by
  rcases h.2 with ⟨_, h0⟩ | ⟨g, cap, cur, hv, _⟩
  · omega
  · exact ⟨g, cap, hv⟩
theorem grown_below {w w' : World} (h : Below w.heap.size w w') (row : Option Nat) : w.grownBy w' row := ⟨h.os, h.tape, h.output, h.size, fun k hk _ => h.block k hk⟩
theorem infoS : (Tryd.prog.info? 9).map (fun i => (i.zero, i.size, i.bytes)) = some (some (.string ⟨#[]⟩), 1, 16) := by kernel_rfl
def sv (l : List (List UInt8)) : List Value := l.map fun s => .string (arr s)
theorem sv_length (l : List (List UInt8)) : (sv l).length = l.length := by simp [sv]
theorem sv_append (a b : List (List UInt8)) : sv (a ++ b) = sv a ++ sv b := by simp [sv]
def OwnS (w : World) (base : Nat) (v : Value) (l : List (List UInt8)) : Prop := w.ownsRow base 9 1 v l.length (sv l)
theorem OwnS.nil (w : World) (base : Nat) : OwnS w base (.slice none 0 0) [] := World.ownsRow_nil _ _ _ _
theorem OwnS.below {w w' : World} {base : Nat} {v : Value} {l : List (List UInt8)} (h : OwnS w base v l) (hb : Below w.heap.size w w') : OwnS w' base v l :=
  World.ownsRow.kept h (grown_below hb none) (by cases v.ownBlock <;> simp)
theorem OwnS.lt {w : World} {base : Nat} {v : Value} {l : List (List UInt8)} (h : OwnS w base v l) (k : Nat) (hk : v.ownBlock = some k) : base ≤ k ∧ k < w.heap.size := World.ownsRow.lt h k hk
theorem below_new (w : World) (o : Obj) : Below w.heap.size w (w.alloc o) := (Below.refl _ _).alloc (Nat.le_refl _) _
end Go.Proofs.YtmnhnighlgpjmaaDoor
