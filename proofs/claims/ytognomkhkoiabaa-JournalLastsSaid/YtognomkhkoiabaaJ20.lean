/-
  Layer 7: the laws' small example.
-/
import Derived.Test.YtognomkhkoiabaaJ19
namespace Go.Proofs.Ytognomkhkoiabaa
set_option linter.unusedVariables false
set_option linter.unusedSimpArgs false
open Go.RowKit

theorem pair0 {r : Int × Lg × Dk} (h : r.1 = 0) : r = (0, r.2.1, r.2.2) := by obtain ⟨a, b, c⟩ := r; simp at h; subst h; rfl
theorem pairR {r : ByteArray × Int} (h : r.2 = 0) : r = (r.1, 0) := by obtain ⟨a, b⟩ := r; simp at h; subst h; rfl
abbrev ba : ByteArray := { data := #[97] }
abbrev bb : ByteArray := { data := #[98] }
abbrev bc' : ByteArray := { data := #[99] }
structure Sf (g1 g2 g3 g5 : Lg) (s1 s2 s3 s5 : Dk) (t4 t6 : ByteArray) : Prop where
  a1 : (⟨2, [], 0⟩ : Lg).append dk0 ba = (0, g1, s1)
  f1 : ext g1.rows ≤ 1000000000 ∧ s1.pend.length + 16 ≤ 1000000 ∧ g1.sure ≤ 1000000000
  a2 : g1.flush s1 = (0, g2, s2)
  f2 : ext (g2.rows ++ [bb]) ≤ 1000000000 ∧ s2.pend.length + 8 + bb.size ≤ 1000000
  a3 : g2.append s2 bb = (0, g3, s3)
  f3 : g3.sure = 1
  a4 : (s3.crash []).start.read 2 = (t4, 0)
  f4 : t4.size ≤ 100000000 ∧ parseS t4 = some [ba] ∧ (s3.crash []).start.pend.length + ext [bb, bc'] ≤ 1000000
  a5 : (⟨2, [ba], [ba].length⟩ : Lg).rewrite (s3.crash []).start [bb, bc'] = (0, g5, s5)
  a6 : (s5.crash []).start.read 2 = (t6, 0)
  f6 : t6.size ≤ 100000000 ∧ parseS t6 = some [bb, bc']
set_option maxRecDepth 100000 in
theorem sf : ∃ g1 g2 g3 g5 s1 s2 s3 s5 t4 t6, Sf g1 g2 g3 g5 s1 s2 s3 s5 t4 t6 :=
  ⟨_, _, _, _, _, _, _, _, _, _, pair0 (by decide +kernel), by decide +kernel, pair0 (by decide +kernel), by decide +kernel, pair0 (by decide +kernel), by decide +kernel, pairR (by decide +kernel), by decide +kernel, pair0 (by decide +kernel), pairR (by decide +kernel), by decide +kernel⟩
end Go.Proofs.Ytognomkhkoiabaa
