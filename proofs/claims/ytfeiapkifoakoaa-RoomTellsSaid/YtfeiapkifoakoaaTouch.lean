/-
  The program's touched.
-/
import Derived.Test.YtfeiapkifoakoaaBs
namespace Go.Proofs.Ytfeiapkifoakoaa
set_option linter.unusedVariables false
set_option linter.unusedSimpArgs false
open Go.RowKit

def TouchPost (l : List Sp) (s : Sp) (w : World) (e : Ending) (w' : World) : Prop :=
  ∃ (i j : Nat) (J : Int), e = .returned (.tuple #[.int .i64 i, .int .i64 J]) ∧ J = j ∧ Cut Sp.e l s.p i ∧ Cut Sp.p l (s.e + 1) j ∧ Below w.heap.size w w'

set_option maxRecDepth 100000 in
set_option maxHeartbeats 1000000 in
theorem touchP (v : Value) (l : List Sp) (s : Sp) (w : World) (hri : right l) (hs : s.ok) (hr : SRow w w.heap.size v l) :
    Calls Try.prog 24 #[v, spv s] w (TouchPost l s w) := by
  have H1 := Lib.hid (fun w' (h : SRow w' w'.heap.size v l) => search1 v l s.p w' hri h)
  have H2 := Lib.hid (fun w' (h : SRow w' w'.heap.size v l) => search2 v l (s.e + 1) w' hri h)
  have hb0 := below_new w (.cells #[.int .i64 s.p, .int .i64 s.n] 24)
  have q1 : (w.alloc (.cells #[.int .i64 s.p, .int .i64 s.n] 24)).cell? ⟨w.heap.size, 0, none⟩ = some (.int .i64 s.p) := (Blk.new w 24 _).cell 0
  have q2 : (w.alloc (.cells #[.int .i64 s.p, .int .i64 s.n] 24)).cell? ⟨w.heap.size, 1, none⟩ = some (.int .i64 s.n) := (Blk.new w 24 _).cell 1
  have he : s.e = s.p + s.n := rfl
  have HE := Lib.hid he
  rw [he] at H2
  clear he
  unfold Sp.ok at hs
  unfold spv
  obtain ⟨p, hp⟩ : ∃ p, s.p = p := ⟨_, rfl⟩
  obtain ⟨n, hn⟩ : ∃ n, s.n = n := ⟨_, rfl⟩
  rw [hp, hn] at hb0 q1 q2 H2 hs HE ⊢
  rw [hp] at H1
  have HP := Lib.hid hp
  clear hp hn hri
  obtain ⟨z1, z2, z3, z4⟩ := hs
  go_enter Try.func24, Try.ntmps24
  go_wp2_with fail
  refine (H1.out _ (hr.keep hb0)).mono ?_; rintro e w1 ⟨i, f, rfl, hi, b1⟩
  have HI := Lib.hid hi; clear hi
  have c1 := keep_below b1 q1
  have c2 := keep_below b1 q2
  have hr1 := (hr.keep hb0).keep b1
  have b1' := chain hb0 b1 (Nat.le_refl _)
  go_wp2_with fail
  refine (endP p n _ (by omega) (by omega)).mono ?_; rintro e w2 ⟨rfl, b2⟩
  have hr2 := hr1.keep b2
  have b2' := chain b1' b2 (Nat.le_refl _)
  go_wp2_with fail
  refine (H2.out _ hr2).mono ?_; rintro e w3 ⟨j, f2, rfl, hj, b3⟩
  have HJ := Lib.hid hj; clear hj
  go_wp2_with fail
  go_ret2
  exact ⟨i, j, j, rfl, rfl, by rw [HP.out]; exact HI.out, by rw [HE.out]; exact HJ.out, chain b2' b3 (Nat.le_refl _)⟩
end Go.Proofs.Ytfeiapkifoakoaa
