/-
  A wrap that hands a contract the world's shape, the reach and a further fact; an argument that is an instruction.
-/
import Derived.Test.YtmnhnighlgpjmaaDoorIK
namespace Go.Proofs.YtmnhnighlgpjmaaDoor
set_option linter.unusedVariables false
set_option linter.unusedSimpArgs false
open Go.ChangeShapes Go.WideShapes Go.RowKit Go.Joins Go.Deep

section
variable {H : Type} {enc : TypeId × Value → H}
/-- As the library's two wraps together: a further fact of the world, and its shape. -/
theorem handed_both {a : Assume} {C : Checked} {os : Os} {f : FuncId} {fn : Func} {s : ChangeSpec} {conds : List PathCond} {apart fresh handsOn again : Bool} {X : World → Array Value → Prop}
    (hX : ∀ (w w' : World) (args : Array Value), w.heap = w'.heap → X w args → X w' args)
    (own : ownKnob C.prog.godebug = none) (started : os.Started) (noInit : C.prog.inits.idxOf? f = none) (hfn : C.prog.funcs[f]? = some fn)
    (witness : ∃ (w : World) (tape : Tape) (i : Input), w.os = os ∧ (w.forCall tape i).Shaped C.prog ∧ i.vars = [] ∧ Input.okWide C.prog (w.forCall tape i) .any w.heap.size f i ∧
      ((s.pre enc C.prog fn conds apart (w.forCall tape i).memory i.args ∧ X (w.forCall tape i).memory i.args) ∧ sizedMet enc C.prog fn (OpenSpec.ofChange s) apart (w.forCall tape i).memory i.args) ∧ a.holds C.prog (lone (Frame.enter C.prog f i.args .normal) [] (w.forCall tape i)))
    (contract : ∀ (W : World) (base : Nat) (args : Array Value) (ds gs : List (DataW H)) (before : List MemPlace),
      (∀ (j : Nat) t v, fn.params[j]? = some t → args[j]? = some v → Value.okWide C.prog W .any base t v) →
      DataW.Whole enc C.prog fn.params.toList s.vars apart W args.toList ds gs before → X W args → W.ShapedOpen C.prog →
      Calls C.prog f args W fun e W' => ∃ v, e = .returned v ∧ s.post enc C.prog fn apart fresh handsOn again W args v W') :
    ReturnsInHanded a C os f .any (fun w args => (s.pre enc C.prog fn conds apart w args ∧ X w args) ∧ sizedMet enc C.prog fn (OpenSpec.ofChange s) apart w args) (s.post enc C.prog fn apart fresh handsOn again) := by
  refine returnsInHanded_of_calls own started noInit witness fun w tape i _ shape _ hok hpre _ => ?_
  obtain ⟨_, _, _, g, hg, _, _, _, _, hval⟩ := hok
  obtain rfl : g = fn := Option.some.inj (hg.symm.trans hfn)
  obtain ⟨⟨⟨ds, gs, before, hw, _⟩, hx⟩, _⟩ := hpre
  refine (contract (w.forCall tape i) w.heap.size i.args ds gs before hval (DataW.Whole.of_heap (w' := w.forCall tape i) (by rfl) hw) (hX _ _ _ (by rfl) hx) shape).mono ?_
  rintro e W' ⟨v, rfl, hp⟩
  exact ChangeSpec.post_blind hp
end

section
variable {H : Type} {enc : TypeId × Value → H} {P : Program} {w : World} {base : Nat} {spare : Nat → Bool} {held : Bool}
/-- A struct of five fields, by value, each of one cell: its fields' values, each with what it reads as. -/
theorem open_five {r : Reach} {b0 : Nat} {t : TypeId} {f0 f1 f2 f3 f4 : Field} {v : Value} {d : DataW H} {p : List MemPlace} (hs : P.underlying t = some (.struct #[f0, f1, f2, f3, f4])) (hone : oneCellFields P #[f0, f1, f2, f3, f4] = true) (hC : P.cellsOf t = 5)
    (hv : Value.okWide P w r b0 t v) (h : DataW.Trod enc P w base spare held t v d p) :
    ∃ (c : Fin 5 → Value) (y : Fin 5 → DataW H × List MemPlace) (n : Nat), v = .agg #[c 0, c 1, c 2, c 3, c 4] ∧
      DataW.trod enc P w base spare held n f0.type [c 0] = some (y 0) ∧ DataW.trod enc P w base spare held n f1.type [c 1] = some (y 1) ∧ DataW.trod enc P w base spare held n f2.type [c 2] = some (y 2) ∧
      DataW.trod enc P w base spare held n f3.type [c 3] = some (y 3) ∧ DataW.trod enc P w base spare held n f4.type [c 4] = some (y 4) := by
  obtain ⟨⟨l⟩, rfl, hsz⟩ := okWide_struct hs hv
  obtain ⟨fuel, hf⟩ := h
  obtain ⟨xs, n, _, _, _, hlen, hg⟩ := DataW.trod_struct hs hf
  match l, hsz.trans hC, xs, hlen with
  | [c0, c1, c2, c3, c4], _, [y0, y1, y2, y3, y4], _ =>
    refine ⟨fun k => [c0, c1, c2, c3, c4].getD k c0, fun k => [y0, y1, y2, y3, y4].getD k y0, n, rfl, ?_, ?_, ?_, ?_, ?_⟩
    · show DataW.trod enc P w base spare held n f0.type [c0] = some y0
      obtain ⟨o, k⟩ := hone_of hone 0 f0 rfl
      simpa [Value.cells, o, k] using hg 0 f0 rfl
    · show DataW.trod enc P w base spare held n f1.type [c1] = some y1
      obtain ⟨o, k⟩ := hone_of hone 1 f1 rfl
      simpa [Value.cells, o, k] using hg 1 f1 rfl
    · show DataW.trod enc P w base spare held n f2.type [c2] = some y2
      obtain ⟨o, k⟩ := hone_of hone 2 f2 rfl
      simpa [Value.cells, o, k] using hg 2 f2 rfl
    · show DataW.trod enc P w base spare held n f3.type [c3] = some y3
      obtain ⟨o, k⟩ := hone_of hone 3 f3 rfl
      simpa [Value.cells, o, k] using hg 3 f3 rfl
    · show DataW.trod enc P w base spare held n f4.type [c4] = some y4
      obtain ⟨o, k⟩ := hone_of hone 4 f4 rfl
      simpa [Value.cells, o, k] using hg 4 f4 rfl
end

def bd64 (n : Int) : Prop := -9223372036854775808 ≤ n ∧ n ≤ 9223372036854775807
set_option maxRecDepth 100000 in
set_option linter.constructorNameAsVariable false in
theorem open_ins {H : Type} {enc : TypeId × Value → H} {w : World} {base b0 : Nat} {spare : Nat → Bool} {held : Bool} {v : Value} {d : DataW H} {p : List MemPlace}
    (hv : Value.okWide Tryd.prog w .any b0 23 v) (h : DataW.Trod enc Tryd.prog w base spare held 23 v d p) :
    ∃ o a b c m : Int, v = .agg #[.int .i64 o, .int .i64 a, .int .i64 b, .int .i64 c, .int .i64 m] ∧ bd64 o ∧ bd64 a ∧ bd64 b ∧ bd64 c ∧ bd64 m := by
  obtain ⟨c, y, n, rfl, h0, h1, h2, h3, h4⟩ := open_five Tryd.underlying23 (by kernel_rfl) (by kernel_rfl) hv h
  obtain ⟨z0, e0, _, w0⟩ := DataW.trod_int (t := 3) Tryd.underlying3 h0
  obtain ⟨z1, e1, _, w1⟩ := DataW.trod_int (t := 3) Tryd.underlying3 h1
  obtain ⟨z2, e2, _, w2⟩ := DataW.trod_int (t := 3) Tryd.underlying3 h2
  obtain ⟨z3, e3, _, w3⟩ := DataW.trod_int (t := 3) Tryd.underlying3 h3
  obtain ⟨z4, e4, _, w4⟩ := DataW.trod_int (t := 3) Tryd.underlying3 h4
  simp only [List.cons.injEq, and_true] at e0 e1 e2 e3 e4
  rw [e0, e1, e2, e3, e4]
  exact ⟨z0, z1, z2, z3, z4, rfl, W1.int_bd w0, W1.int_bd w1, W1.int_bd w2, W1.int_bd w3, W1.int_bd w4⟩
end Go.Proofs.YtmnhnighlgpjmaaDoor
