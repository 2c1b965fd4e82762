/-
  The heap's methods Push and Pop; how a method is found.
-/
import Derived.Test.YtobpolmlblpmjaaHeapA
import Derived.Test.YtobpolmlblpmjaaSucc
namespace Go.Proofs.Ytobpolmlblpmjaa
set_option linter.unusedVariables false
set_option linter.unusedSimpArgs false
open Go.RowKit

theorem m_push (a : Addr) (w : World) : (method 228 48 (.pointer (some a)) "Push").run Try.prog w = .ok (102, .pointer (some a)) w := by kernel_rfl
theorem m_pop (a : Addr) (w : World) : (method 228 48 (.pointer (some a)) "Pop").run Try.prog w = .ok (101, .pointer (some a)) w := by kernel_rfl
theorem load_box {w : World} {b : Nat} {sl : Value} (h : Boxed w b 49 sl) : (loadVar 49 ⟨b, 0, none⟩).run Try.prog w = .ok sl w := by
  have hc := h.cell
  have e : (Try.prog.info? 49).map (fun i => (i.zero, i.size, i.bytes)) = some (some (.slice none 0 0), 1, 24) := by kernel_rfl
  simp [loadVar, hc, go_sem]
theorem wrap_ok (nm : String) (a : Addr) (w : World) : (Builtin.ssaWrapNilChk_ #[48] 48 #[.pointer (some a), strVal "", strVal nm]).run Try.prog w = .ok (.pointer (some a)) w := by kernel_rfl
set_option maxRecDepth 100000 in
set_option maxHeartbeats 1000000 in
theorem recv_ok (nm : String) {w : World} {b : Nat} {sl : Value} (h : Boxed w b 49 sl) : (receiverAt 48 (.val (.pointer (some ⟨b, 0, none⟩))) false (some nm)).run Try.prog w = .ok sl w := by
  have hl := load_box h
  have hu := run_underlying (P := Try.prog) Try.underlying48
  have hw := wrap_ok nm ⟨b, 0, none⟩ w
  unfold receiverAt
  simp only [Sem.run_bind, hu, Result.andThen_ok, Place.get, Sem.run_pure, hw, asAddr, hl]
set_option maxRecDepth 100000 in
set_option maxHeartbeats 1000000 in
theorem m_val {name : String} {f : FuncId} (hm : (Try.prog.info? 48).map (fun i => (i.methods.find? (·.name == name)).map fun m => (m.path, m.func)) = some (some (#[], some (f, false)))) {w : World} {b : Nat} {sl : Value} (h : Boxed w b 49 sl) :
    (method (227 + 1) 48 (.pointer (some ⟨b, 0, none⟩)) name).run Try.prog w = .ok (f, sl) w := by
  cases hi : Try.prog.info? 48 with
  | none => rw [hi] at hm; simp at hm
  | some i =>
    rw [hi] at hm
    simp only [Option.map_some, Option.some.injEq] at hm
    cases hf : i.methods.find? (·.name == name) with
    | none => rw [hf] at hm; simp at hm
    | some m =>
      rw [hf] at hm
      simp only [Option.map_some, Option.some.injEq, Prod.mk.injEq] at hm
      obtain ⟨h1, h2⟩ := hm
      have ht : (typeInfo 48).run Try.prog w = .ok i w := by simp [typeInfo, hi]
      have hr := recv_ok ((name.splitOn ".").getLastD name) h
      rw [method]
      simp only [Sem.run_bind, ht, Result.andThen_ok, hf, h1, follow, Sem.run_pure, h2, Array.isEmpty, List.size_toArray, List.length_nil, decide_true, if_true, hr]
theorem m_len {w : World} {b : Nat} {sl : Value} (h : Boxed w b 49 sl) : (method 228 48 (.pointer (some ⟨b, 0, none⟩)) "Len").run Try.prog w = .ok (99, sl) w := m_val (by kernel_rfl) h
theorem m_less {w : World} {b : Nat} {sl : Value} (h : Boxed w b 49 sl) : (method 228 48 (.pointer (some ⟨b, 0, none⟩)) "Less").run Try.prog w = .ok (100, sl) w := m_val (by kernel_rfl) h
theorem m_swap {w : World} {b : Nat} {sl : Value} (h : Boxed w b 49 sl) : (method 228 48 (.pointer (some ⟨b, 0, none⟩)) "Swap").run Try.prog w = .ok (103, sl) w := m_val (by kernel_rfl) h
end Go.Proofs.Ytobpolmlblpmjaa
