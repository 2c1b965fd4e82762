/-
  The walk of IsaParses, blank 9.
-/
import Derived.Test.YtijcdhkojidgeaaDoorIY
namespace Go.Proofs.YtijcdhkojidgeaaDoor.isaParses
set_option linter.unusedVariables false
set_option linter.unusedSimpArgs false
open Go.RowKit

def GoalIZb (w : World) (e : Ending) (w' : World) : Prop := e = .returned (.bool true) ∧ Below w.heap.size w w'
theorem idxIZb (w : World) : (Instr.index 9 (.string ⟨#[9]⟩) (.int .i64 0)).run Tryd.prog w = .ok (.int .u8 9) w := by kernel_rfl
set_option maxRecDepth 100000 in
set_option maxHeartbeats 16000000 in
theorem walkIZb (s : ByteArray) (w : World) (hL : LaidI w) (hs : s.size ≤ 300) :
    Calls Tryd.prog 6 #[.string s, .bool true] w (GoalIZb w) := by
  have K0 := Lib.hid (Kp.mk hL (Below.refl _ _))
  have KS := Lib.hid (smallP w hL)
  clear hL
  have hd1 : decide ((300 : Int) < s.size) = false := decide_eq_false (by omega)
  have hd1' : decide (300 < s.size) = false := decide_eq_false (by omega)
  have hlen : s.data.toList.length = s.size := by simp
  have hcs := parse_cases s.data.toList
  obtain ⟨⟨⟨o, a, b, c, m⟩, e⟩, hpar⟩ : ∃ x, parsN s.data.toList = x := ⟨_, rfl⟩
  have HP : Hid (∀ W : World, LaidI W → Calls Tryd.prog 13 #[.string s] W fun e' w' => e' = .returned (.tuple #[.agg #[.int .i64 o, .int .i64 a, .int .i64 b, .int .i64 c, .int .i64 m], .int .i64 e]) ∧ Below W.heap.size W w') := Lib.hid (fun W h => by
    have := parseP s W (by omega) h (idxAny_all _ (by rw [arr_size]; have := trimS_le s.data.toList; omega))
    rw [hpar] at this
    exact this)
  have hpp := parse_pad (c := 9) (by decide) s.data.toList
  have hpl := pad_len 9 s.data.toList
  obtain ⟨pl, hpl2⟩ : ∃ x, arr (pad 9 s.data.toList) = x := ⟨_, rfl⟩
  have hps : pl.size ≤ 900 := by rw [← hpl2, arr_size]; omega
  obtain ⟨t1, ht1⟩ : ∃ x, (⟨#[9]⟩ : ByteArray) ++ pl = x := ⟨_, rfl⟩
  have hs1 : t1.size = 1 + pl.size := by rw [← ht1, ByteArray.size_append]; rfl
  obtain ⟨t2, ht2⟩ : ∃ x, t1 ++ (⟨#[9]⟩ : ByteArray) = x := ⟨_, rfl⟩
  have hs2 : t2.size = t1.size + 1 := by rw [← ht2, ByteArray.size_append]; rfl
  obtain ⟨t3, ht3⟩ : ∃ x, t2 ++ (⟨#[9]⟩ : ByteArray) = x := ⟨_, rfl⟩
  have hs3 : t3.size = t2.size + 1 := by rw [← ht3, ByteArray.size_append]; rfl
  have hl3 : t3.data.toList = [9] ++ pad 9 s.data.toList ++ [9] ++ [9] := by
    rw [← ht3, ← ht2, ← ht1, ← hpl2]; simp [arr]
  have HP3 : Hid (∀ W : World, LaidI W → Calls Tryd.prog 13 #[.string t3] W fun e' w' => e' = .returned (.tuple #[.agg #[.int .i64 o, .int .i64 a, .int .i64 b, .int .i64 c, .int .i64 m], .int .i64 e]) ∧ Below W.heap.size W w') := Lib.hid (fun W h => by
    have := parseP t3 W (by omega) h (idxAny_all _ (by rw [arr_size]; have := trimS_le t3.data.toList; have h3 : t3.data.toList.length = t3.size := by simp
                                                       omega))
    rw [hl3, hpp, hpar] at this
    exact this)
  have a1 : ∀ W, (_ : Sem Value).run Tryd.prog W = _ := fun W => run_string_add_sum (P := Tryd.prog) (w := W) ⟨#[9]⟩ pl (by rw [show (⟨#[9]⟩ : ByteArray).size = 1 from rfl]; omega)
  have a2 := fun W => run_string_add_sum (P := Tryd.prog) (w := W) t1 ⟨#[9]⟩ (by rw [show (⟨#[9]⟩ : ByteArray).size = 1 from rfl]; omega)
  have a3 := fun W => run_string_add_sum (P := Tryd.prog) (w := W) t2 ⟨#[9]⟩ (by rw [show (⟨#[9]⟩ : ByteArray).size = 1 from rfl]; omega)
  rw [hpar] at hcs
  simp only [ht1] at a1
  simp only [ht2] at a2
  simp only [ht3] at a3
  have HPL := Lib.hid hpl2
  have HCS : Hid ((e = 0 ∧ rightB ⟨o, a, b, c, m⟩ = true) ∨ (o = 0 ∧ a = 0 ∧ b = 0 ∧ c = 0 ∧ m = 0 ∧ (e = 2 ∨ e = 6))) := Lib.hid (by
    rcases hcs with ⟨i, h, hr⟩ | h | h
    · injection h with h1 h2
      exact .inl ⟨h2, by rw [h1]; exact hr⟩
    · injection h with h1 h2
      injection h1 with e1 e2 e3 e4 e5
      exact .inr ⟨e1, e2, e3, e4, e5, .inl h2⟩
    · injection h with h1 h2
      injection h1 with e1 e2 e3 e4 e5
      exact .inr ⟨e1, e2, e3, e4, e5, .inr h2⟩)
  have HLE := Lib.hid hlen
  have HPN := Lib.hid (fun k => pad_len 9 (s.data.toList.take k))
  clear hcs hpar hpp hpl hpl2 hps ht1 hs1 ht2 hs2 ht3 hs3 hl3 hlen
  have hix := idxIZb
  go_enter Tryd.func6, Tryd.ntmps6
  go_wp2_with fail
  refine KS.out.mono ?_; rintro e1 w1 ⟨rfl, hb⟩
  have K1 := Lib.hid (K0.out.call hb)
  clear hb KS K0
  go_wp2_with fail
  refine (HP.out _ K1.out.laid).mono ?_; rintro e2 w2 ⟨rfl, hb⟩
  have K2 := Lib.hid ((K1.out.call hb).alloc (.cells #[.int .i64 o, .int .i64 a, .int .i64 b, .int .i64 c, .int .i64 m] 23))
  have P2 := Lib.hid (block_new w2 (.cells #[.int .i64 o, .int .i64 a, .int .i64 b, .int .i64 c, .int .i64 m] 23))
  clear hb K1 HP
  go_wp2_with fail
  obtain ⟨W0, hW0⟩ : ∃ x, w2.alloc (.cells #[.int .i64 o, .int .i64 a, .int .i64 b, .int .i64 c, .int .i64 m] 23) = x := ⟨_, rfl⟩
  rw [hW0] at K2 P2 ⊢
  obtain ⟨p6, hp6⟩ : ∃ x, w2.heap.size = x := ⟨_, rfl⟩
  rw [hp6] at P2 ⊢
  clear hW0 hp6
  go_loopw [9, 10] (fun v i wr => ∃ (k : Nat), k ≤ s.size ∧ i = .int .i64 k ∧ OwnU W0 wr v (pad 9 (s.data.toList.take k))) (fun _ i _ => s.size - (intOf i).toNat)
  case atStart => exact ⟨0, by omega, rfl, ⟨World.ownsRow_nil _ _ _ _, Below.refl _ _⟩⟩
  case round =>
    obtain ⟨k, hk, rfl, hown⟩ := hrel
    have HO0 := Lib.hid hown
    clear hown
    by_cases hlt : k < s.size
    · have q0 : (0 : Int) ≤ k := by omega
      have q1 : (k : Int) < s.size := by omega
      have r2 : IntKind.i64.wrap ((k : Int) + 1) = k + 1 := IntWalk.i64_in _ (by omega)
      have HT := Lib.hid (pad_take 9 s k hlt)
      have hpn := HPN.out k
      rw [List.length_take, HLE.out] at hpn
      have hl1 : (pad 9 (s.data.toList.take k)).length ≤ 1000 := by omega
      have hl2 : (pad 9 (s.data.toList.take k) ++ [9]).length ≤ 1000 := by rw [List.length_append, List.length_singleton]; omega
      have hl3 : ((pad 9 (s.data.toList.take k) ++ [9]) ++ [44]).length ≤ 1000 := by rw [List.length_append, List.length_append, List.length_singleton, List.length_singleton]; omega
      clear hpn
      obtain ⟨u, hu⟩ : ∃ u, s[k] = u := ⟨_, rfl⟩
      rw [hu] at HT
      by_cases h44 : u = 44
      · subst h44
        have hun : s[k].toNat = 44 := by rw [hu]; rfl
        have HT2 : Hid (pad 9 (s.data.toList.take (k + 1)) = ((pad 9 (s.data.toList.take k) ++ [9]) ++ [44]) ++ [9]) := Lib.hid (by rw [HT.out, pad_comma]; simp [pad])
        clear hu HT
        go_wp2_with fail
        refine wp_region_noPanic ?_
        refine wp_region_held_drew (S := fun _ => True) (by kernel_rfl) trivial (fun hHeld => ?_)
        refine wpAnyH_take (i := 0) (oi := { dst := some 36, op := Op.move (Operand.tmp 9), type := 43, pos := "law.go:111", after := #[], guard := none }) (v := u9) rfl (by kernel_rfl) (by kernel_rfl) (by kernel_rfl) (fun _ _ _ h => h) (Or.inl ⟨by rfl, ?_⟩) (by assumption) ?_
        · intro w hSw; (try dsimp only at hSw); (try go_simp); try with_reducible rfl
        try simp only [Act.put, List.setIfInBounds_toArray, List.set_cons_zero, List.set_cons_succ]
        refine wpAnyH_take (i := 1) (oi := { dst := some 37, op := Op.move (Operand.tmp 8), type := 9, pos := "law.go:111", after := #[], guard := none }) (v := .string ⟨#[9]⟩) rfl (by kernel_rfl) (by kernel_rfl) (by kernel_rfl) (fun _ _ _ h => h) (Or.inl ⟨by rfl, ?_⟩) (by assumption) ?_
        · intro w hSw; (try dsimp only at hSw); (try go_simp); try with_reducible rfl
        try simp only [Act.put, List.setIfInBounds_toArray, List.set_cons_zero, List.set_cons_succ]
        refine wpAnyH_take (i := 7) (oi := { dst := some 43, op := Op.move (Operand.tmp 8), type := 9, pos := "law.go:111", after := #[], guard := none }) (v := .string ⟨#[9]⟩) rfl (by kernel_rfl) (by kernel_rfl) (by kernel_rfl) (fun _ _ _ h => h) (Or.inl ⟨by rfl, ?_⟩) (by assumption) ?_
        · intro w hSw; (try dsimp only at hSw); (try go_simp); try with_reducible rfl
        try simp only [Act.put, List.setIfInBounds_toArray, List.set_cons_zero, List.set_cons_succ]
        refine wpAnyH_take (i := 2) (oi := { dst := some 38, op := Op.index 9 (Operand.tmp 37) (Operand.const (Value.int IntKind.i64 0)), type := 5, pos := "law.go:111", after := #[{ on := 1, ground := Ground.data }], guard := none }) (v := .int .u8 9) rfl (by kernel_rfl) (by kernel_rfl) (by kernel_rfl) (fun _ _ _ h => h) (Or.inl ⟨by rfl, ?_⟩) (by assumption) ?_
        · intro w hSw; (try dsimp only at hSw); (try go_simp); try with_reducible rfl
        try simp only [Act.put, List.setIfInBounds_toArray, List.set_cons_zero, List.set_cons_succ]
        refine wpAnyH_take (i := 8) (oi := { dst := some 44, op := Op.index 9 (Operand.tmp 43) (Operand.const (Value.int IntKind.i64 0)), type := 5, pos := "law.go:111", after := #[{ on := 7, ground := Ground.data }], guard := none }) (v := .int .u8 9) rfl (by kernel_rfl) (by kernel_rfl) (by kernel_rfl) (fun _ _ _ h => h) (Or.inl ⟨by rfl, ?_⟩) (by assumption) ?_
        · intro w hSw; (try dsimp only at hSw); (try go_simp); try with_reducible rfl
        try simp only [Act.put, List.setIfInBounds_toArray, List.set_cons_zero, List.set_cons_succ]
        refine wpAnyH_ready (rs := [3, 5, 9]) (by kernel_rfl) (by simp) ?_
        refine AllReadyH.cons (o := { dst := some 39, op := Op.buildSlice 43 1 #[(0, Operand.tmp 38)], type := 43, pos := "law.go:111", after := #[{ on := 2, ground := Ground.data }], guard := none }) rfl (fun K hK => ?_) ?_
        · go_simp
          refine hK.out _ _ trivial (fun hHeld => ?_)
          clear hK K
          try simp only [Act.put, List.setIfInBounds_toArray, List.set_cons_zero, List.set_cons_succ]
          refine wpAnyH_ready (rs := [4, 5, 9]) (by kernel_rfl) (by simp) ?_
          refine AllReadyH.cons (o := { dst := some 40, op := Op.call { callee := Callee.builtin Builtin.append, args := #[Operand.tmp 36, Operand.tmp 39], argTypes := #[43, 43] }, type := 43, pos := "law.go:111", after := #[{ on := 0, ground := Ground.data }, { on := 3, ground := Ground.data }], guard := none }) rfl (fun K hK => ?_) ?_
          · (((refine step_app1 (by rfl) (.tmp 36) (.tmp 39) (by rfl) (w0 := W0) (z := 9) (by (repeat (first | with_reducible exact HO3.out | with_reducible exact HO2.out | with_reducible exact HO1.out | with_reducible exact HO0.out | with_reducible apply OwnU.drew | with_reducible apply OwnU.alloc))) (by rfl) (by rfl) (by (repeat (first | with_reducible exact HO3.out | with_reducible exact HO2.out | with_reducible exact HO1.out | with_reducible exact HO0.out | with_reducible apply OwnU.drew | with_reducible apply OwnU.alloc | with_reducible apply CellU.drew | ((with_reducible apply CellU.new2 (w0 := W0)); focus (simp; done)) | with_reducible apply CellU.alloc | with_reducible refine HC2.out _ _ ?_ | with_reducible refine HC1.out _ _ ?_))) 9 rfl (by first | exact hl1) ?_); intro v1 x1 HO1 HC1))
            refine hK.out _ _ trivial (fun hHeld => ?_)
            clear hK K
            try simp only [Act.put, List.setIfInBounds_toArray, List.set_cons_zero, List.set_cons_succ]
            refine wpAnyH_ready (rs := [5, 9]) (by kernel_rfl) (by simp) ?_
            refine AllReadyH.cons (o := { dst := some 41, op := Op.buildSlice 43 1 #[(0, Operand.const (Value.int IntKind.u8 44))], type := 43, pos := "law.go:111", after := #[], guard := none }) rfl (fun K hK => ?_) ?_
            · go_simp
              refine hK.out _ _ trivial (fun hHeld => ?_)
              clear hK K
              try simp only [Act.put, List.setIfInBounds_toArray, List.set_cons_zero, List.set_cons_succ]
              refine wpAnyH_ready (rs := [6, 9]) (by kernel_rfl) (by simp) ?_
              refine AllReadyH.cons (o := { dst := some 42, op := Op.call { callee := Callee.builtin Builtin.append, args := #[Operand.tmp 40, Operand.tmp 41], argTypes := #[43, 43] }, type := 43, pos := "law.go:111", after := #[{ on := 4, ground := Ground.data }, { on := 5, ground := Ground.data }, { on := 4, ground := Ground.chain }], guard := none }) rfl (fun K hK => ?_) ?_
              · (((refine step_app1 (by rfl) (.tmp 40) (.tmp 41) (by rfl) (w0 := W0) (z := 44) (by (repeat (first | with_reducible exact HO3.out | with_reducible exact HO2.out | with_reducible exact HO1.out | with_reducible exact HO0.out | with_reducible apply OwnU.drew | with_reducible apply OwnU.alloc))) (by rfl) (by rfl) (by (repeat (first | with_reducible exact HO3.out | with_reducible exact HO2.out | with_reducible exact HO1.out | with_reducible exact HO0.out | with_reducible apply OwnU.drew | with_reducible apply OwnU.alloc | with_reducible apply CellU.drew | ((with_reducible apply CellU.new2 (w0 := W0)); focus (simp; done)) | with_reducible apply CellU.alloc | with_reducible refine HC2.out _ _ ?_ | with_reducible refine HC1.out _ _ ?_))) 44 rfl (by first | exact hl2) ?_); intro v2 x2 HO2 HC2))
                refine hK.out _ _ trivial (fun hHeld => ?_)
                clear hK K
                try simp only [Act.put, List.setIfInBounds_toArray, List.set_cons_zero, List.set_cons_succ]
                refine wpAnyH_ready (rs := [9]) (by kernel_rfl) (by simp) ?_
                refine AllReadyH.cons (o := { dst := some 45, op := Op.buildSlice 43 1 #[(0, Operand.tmp 44)], type := 43, pos := "law.go:111", after := #[{ on := 8, ground := Ground.data }], guard := none }) rfl (fun K hK => ?_) ?_
                · go_simp
                  refine hK.out _ _ trivial (fun hHeld => ?_)
                  clear hK K
                  try simp only [Act.put, List.setIfInBounds_toArray, List.set_cons_zero, List.set_cons_succ]
                  refine wpAnyH_ready (rs := [10]) (by kernel_rfl) (by simp) ?_
                  refine AllReadyH.cons (o := { dst := some 46, op := Op.call { callee := Callee.builtin Builtin.append, args := #[Operand.tmp 42, Operand.tmp 45], argTypes := #[43, 43] }, type := 43, pos := "law.go:111", after := #[{ on := 6, ground := Ground.data }, { on := 9, ground := Ground.data }, { on := 6, ground := Ground.chain }], guard := none }) rfl (fun K hK => ?_) ?_
                  · (((refine step_app1 (by rfl) (.tmp 42) (.tmp 45) (by rfl) (w0 := W0) (z := 9) (by (repeat (first | with_reducible exact HO3.out | with_reducible exact HO2.out | with_reducible exact HO1.out | with_reducible exact HO0.out | with_reducible apply OwnU.drew | with_reducible apply OwnU.alloc))) (by rfl) (by rfl) (by (repeat (first | with_reducible exact HO3.out | with_reducible exact HO2.out | with_reducible exact HO1.out | with_reducible exact HO0.out | with_reducible apply OwnU.drew | with_reducible apply OwnU.alloc | with_reducible apply CellU.drew | ((with_reducible apply CellU.new2 (w0 := W0)); focus (simp; done)) | with_reducible apply CellU.alloc | with_reducible refine HC2.out _ _ ?_ | with_reducible refine HC1.out _ _ ?_))) 9 rfl (by first | exact hl3) ?_); intro v3 x3 HO3 HC3))
                    refine hK.out _ _ trivial (fun hHeld => ?_)
                    clear hK K
                    try simp only [Act.put, List.setIfInBounds_toArray, List.set_cons_zero, List.set_cons_succ]
                    refine wpAnyH_take (i := 11) (oi := { dst := some 9, op := Op.assign (Operand.tmp 46), type := 43, pos := "law.go:111", after := #[{ on := 10, ground := Ground.data }, { on := 10, ground := Ground.chain }, { on := 0, ground := Ground.phase }, { on := 1, ground := Ground.phase }, { on := 2, ground := Ground.phase }, { on := 3, ground := Ground.phase }, { on := 4, ground := Ground.phase }, { on := 5, ground := Ground.phase }, { on := 6, ground := Ground.phase }, { on := 7, ground := Ground.phase }, { on := 8, ground := Ground.phase }, { on := 9, ground := Ground.phase }, { on := 10, ground := Ground.phase }], guard := none }) (v := v3) rfl (by kernel_rfl) (by kernel_rfl) (by kernel_rfl) (fun _ _ _ h => h) (Or.inl ⟨by rfl, ?_⟩) (by assumption) ?_
                    · intro w hSw; (try dsimp only at hSw); (try go_simp); try with_reducible rfl
                    try simp only [Act.put, List.setIfInBounds_toArray, List.set_cons_zero, List.set_cons_succ]
                    refine wpAnyH_done (by kernel_rfl) ?_ _
                    refine NoPanic.normal ?_
                    clear hHeld HO1 HO2 HC1 HC2 HC3
                    go_wp2_with fail
                    go_roundw
                    case rel => exact ⟨k + 1, by omega, by go_num, by rw [HT2.out]; exact HO3.out⟩
                    case measure => simp [intOf]; omega
                  exact AllReadyH.nil
                exact AllReadyH.nil
              refine AllReadyH.cons (o := { dst := some 45, op := Op.buildSlice 43 1 #[(0, Operand.tmp 44)], type := 43, pos := "law.go:111", after := #[{ on := 8, ground := Ground.data }], guard := none }) rfl (fun K hK => ?_) ?_
              · go_simp
                refine hK.out _ _ trivial (fun hHeld => ?_)
                clear hK K
                try simp only [Act.put, List.setIfInBounds_toArray, List.set_cons_zero, List.set_cons_succ]
                refine wpAnyH_ready (rs := [6]) (by kernel_rfl) (by simp) ?_
                refine AllReadyH.cons (o := { dst := some 42, op := Op.call { callee := Callee.builtin Builtin.append, args := #[Operand.tmp 40, Operand.tmp 41], argTypes := #[43, 43] }, type := 43, pos := "law.go:111", after := #[{ on := 4, ground := Ground.data }, { on := 5, ground := Ground.data }, { on := 4, ground := Ground.chain }], guard := none }) rfl (fun K hK => ?_) ?_
                · (((refine step_app1 (by rfl) (.tmp 40) (.tmp 41) (by rfl) (w0 := W0) (z := 44) (by (repeat (first | with_reducible exact HO3.out | with_reducible exact HO2.out | with_reducible exact HO1.out | with_reducible exact HO0.out | with_reducible apply OwnU.drew | with_reducible apply OwnU.alloc))) (by rfl) (by rfl) (by (repeat (first | with_reducible exact HO3.out | with_reducible exact HO2.out | with_reducible exact HO1.out | with_reducible exact HO0.out | with_reducible apply OwnU.drew | with_reducible apply OwnU.alloc | with_reducible apply CellU.drew | ((with_reducible apply CellU.new2 (w0 := W0)); focus (simp; done)) | with_reducible apply CellU.alloc | with_reducible refine HC2.out _ _ ?_ | with_reducible refine HC1.out _ _ ?_))) 44 rfl (by first | exact hl2) ?_); intro v2 x2 HO2 HC2))
                  refine hK.out _ _ trivial (fun hHeld => ?_)
                  clear hK K
                  try simp only [Act.put, List.setIfInBounds_toArray, List.set_cons_zero, List.set_cons_succ]
                  refine wpAnyH_ready (rs := [10]) (by kernel_rfl) (by simp) ?_
                  refine AllReadyH.cons (o := { dst := some 46, op := Op.call { callee := Callee.builtin Builtin.append, args := #[Operand.tmp 42, Operand.tmp 45], argTypes := #[43, 43] }, type := 43, pos := "law.go:111", after := #[{ on := 6, ground := Ground.data }, { on := 9, ground := Ground.data }, { on := 6, ground := Ground.chain }], guard := none }) rfl (fun K hK => ?_) ?_
                  · (((refine step_app1 (by rfl) (.tmp 42) (.tmp 45) (by rfl) (w0 := W0) (z := 9) (by (repeat (first | with_reducible exact HO3.out | with_reducible exact HO2.out | with_reducible exact HO1.out | with_reducible exact HO0.out | with_reducible apply OwnU.drew | with_reducible apply OwnU.alloc))) (by rfl) (by rfl) (by (repeat (first | with_reducible exact HO3.out | with_reducible exact HO2.out | with_reducible exact HO1.out | with_reducible exact HO0.out | with_reducible apply OwnU.drew | with_reducible apply OwnU.alloc | with_reducible apply CellU.drew | ((with_reducible apply CellU.new2 (w0 := W0)); focus (simp; done)) | with_reducible apply CellU.alloc | with_reducible refine HC2.out _ _ ?_ | with_reducible refine HC1.out _ _ ?_))) 9 rfl (by first | exact hl3) ?_); intro v3 x3 HO3 HC3))
                    refine hK.out _ _ trivial (fun hHeld => ?_)
                    clear hK K
                    try simp only [Act.put, List.setIfInBounds_toArray, List.set_cons_zero, List.set_cons_succ]
                    refine wpAnyH_take (i := 11) (oi := { dst := some 9, op := Op.assign (Operand.tmp 46), type := 43, pos := "law.go:111", after := #[{ on := 10, ground := Ground.data }, { on := 10, ground := Ground.chain }, { on := 0, ground := Ground.phase }, { on := 1, ground := Ground.phase }, { on := 2, ground := Ground.phase }, { on := 3, ground := Ground.phase }, { on := 4, ground := Ground.phase }, { on := 5, ground := Ground.phase }, { on := 6, ground := Ground.phase }, { on := 7, ground := Ground.phase }, { on := 8, ground := Ground.phase }, { on := 9, ground := Ground.phase }, { on := 10, ground := Ground.phase }], guard := none }) (v := v3) rfl (by kernel_rfl) (by kernel_rfl) (by kernel_rfl) (fun _ _ _ h => h) (Or.inl ⟨by rfl, ?_⟩) (by assumption) ?_
                    · intro w hSw; (try dsimp only at hSw); (try go_simp); try with_reducible rfl
                    try simp only [Act.put, List.setIfInBounds_toArray, List.set_cons_zero, List.set_cons_succ]
                    refine wpAnyH_done (by kernel_rfl) ?_ _
                    refine NoPanic.normal ?_
                    clear hHeld HO1 HO2 HC1 HC2 HC3
                    go_wp2_with fail
                    go_roundw
                    case rel => exact ⟨k + 1, by omega, by go_num, by rw [HT2.out]; exact HO3.out⟩
                    case measure => simp [intOf]; omega
                  exact AllReadyH.nil
                exact AllReadyH.nil
              exact AllReadyH.nil
            refine AllReadyH.cons (o := { dst := some 45, op := Op.buildSlice 43 1 #[(0, Operand.tmp 44)], type := 43, pos := "law.go:111", after := #[{ on := 8, ground := Ground.data }], guard := none }) rfl (fun K hK => ?_) ?_
            · go_simp
              refine hK.out _ _ trivial (fun hHeld => ?_)
              clear hK K
              try simp only [Act.put, List.setIfInBounds_toArray, List.set_cons_zero, List.set_cons_succ]
              refine wpAnyH_ready (rs := [5]) (by kernel_rfl) (by simp) ?_
              refine AllReadyH.cons (o := { dst := some 41, op := Op.buildSlice 43 1 #[(0, Operand.const (Value.int IntKind.u8 44))], type := 43, pos := "law.go:111", after := #[], guard := none }) rfl (fun K hK => ?_) ?_
              · go_simp
                refine hK.out _ _ trivial (fun hHeld => ?_)
                clear hK K
                try simp only [Act.put, List.setIfInBounds_toArray, List.set_cons_zero, List.set_cons_succ]
                refine wpAnyH_ready (rs := [6]) (by kernel_rfl) (by simp) ?_
                refine AllReadyH.cons (o := { dst := some 42, op := Op.call { callee := Callee.builtin Builtin.append, args := #[Operand.tmp 40, Operand.tmp 41], argTypes := #[43, 43] }, type := 43, pos := "law.go:111", after := #[{ on := 4, ground := Ground.data }, { on := 5, ground := Ground.data }, { on := 4, ground := Ground.chain }], guard := none }) rfl (fun K hK => ?_) ?_
                · (((refine step_app1 (by rfl) (.tmp 40) (.tmp 41) (by rfl) (w0 := W0) (z := 44) (by (repeat (first | with_reducible exact HO3.out | with_reducible exact HO2.out | with_reducible exact HO1.out | with_reducible exact HO0.out | with_reducible apply OwnU.drew | with_reducible apply OwnU.alloc))) (by rfl) (by rfl) (by (repeat (first | with_reducible exact HO3.out | with_reducible exact HO2.out | with_reducible exact HO1.out | with_reducible exact HO0.out | with_reducible apply OwnU.drew | with_reducible apply OwnU.alloc | with_reducible apply CellU.drew | ((with_reducible apply CellU.new2 (w0 := W0)); focus (simp; done)) | with_reducible apply CellU.alloc | with_reducible refine HC2.out _ _ ?_ | with_reducible refine HC1.out _ _ ?_))) 44 rfl (by first | exact hl2) ?_); intro v2 x2 HO2 HC2))
                  refine hK.out _ _ trivial (fun hHeld => ?_)
                  clear hK K
                  try simp only [Act.put, List.setIfInBounds_toArray, List.set_cons_zero, List.set_cons_succ]
                  refine wpAnyH_ready (rs := [10]) (by kernel_rfl) (by simp) ?_
                  refine AllReadyH.cons (o := { dst := some 46, op := Op.call { callee := Callee.builtin Builtin.append, args := #[Operand.tmp 42, Operand.tmp 45], argTypes := #[43, 43] }, type := 43, pos := "law.go:111", after := #[{ on := 6, ground := Ground.data }, { on := 9, ground := Ground.data }, { on := 6, ground := Ground.chain }], guard := none }) rfl (fun K hK => ?_) ?_
                  · (((refine step_app1 (by rfl) (.tmp 42) (.tmp 45) (by rfl) (w0 := W0) (z := 9) (by (repeat (first | with_reducible exact HO3.out | with_reducible exact HO2.out | with_reducible exact HO1.out | with_reducible exact HO0.out | with_reducible apply OwnU.drew | with_reducible apply OwnU.alloc))) (by rfl) (by rfl) (by (repeat (first | with_reducible exact HO3.out | with_reducible exact HO2.out | with_reducible exact HO1.out | with_reducible exact HO0.out | with_reducible apply OwnU.drew | with_reducible apply OwnU.alloc | with_reducible apply CellU.drew | ((with_reducible apply CellU.new2 (w0 := W0)); focus (simp; done)) | with_reducible apply CellU.alloc | with_reducible refine HC2.out _ _ ?_ | with_reducible refine HC1.out _ _ ?_))) 9 rfl (by first | exact hl3) ?_); intro v3 x3 HO3 HC3))
                    refine hK.out _ _ trivial (fun hHeld => ?_)
                    clear hK K
                    try simp only [Act.put, List.setIfInBounds_toArray, List.set_cons_zero, List.set_cons_succ]
                    refine wpAnyH_take (i := 11) (oi := { dst := some 9, op := Op.assign (Operand.tmp 46), type := 43, pos := "law.go:111", after := #[{ on := 10, ground := Ground.data }, { on := 10, ground := Ground.chain }, { on := 0, ground := Ground.phase }, { on := 1, ground := Ground.phase }, { on := 2, ground := Ground.phase }, { on := 3, ground := Ground.phase }, { on := 4, ground := Ground.phase }, { on := 5, ground := Ground.phase }, { on := 6, ground := Ground.phase }, { on := 7, ground := Ground.phase }, { on := 8, ground := Ground.phase }, { on := 9, ground := Ground.phase }, { on := 10, ground := Ground.phase }], guard := none }) (v := v3) rfl (by kernel_rfl) (by kernel_rfl) (by kernel_rfl) (fun _ _ _ h => h) (Or.inl ⟨by rfl, ?_⟩) (by assumption) ?_
                    · intro w hSw; (try dsimp only at hSw); (try go_simp); try with_reducible rfl
                    try simp only [Act.put, List.setIfInBounds_toArray, List.set_cons_zero, List.set_cons_succ]
                    refine wpAnyH_done (by kernel_rfl) ?_ _
                    refine NoPanic.normal ?_
                    clear hHeld HO1 HO2 HC1 HC2 HC3
                    go_wp2_with fail
                    go_roundw
                    case rel => exact ⟨k + 1, by omega, by go_num, by rw [HT2.out]; exact HO3.out⟩
                    case measure => simp [intOf]; omega
                  exact AllReadyH.nil
                exact AllReadyH.nil
              exact AllReadyH.nil
            exact AllReadyH.nil
          refine AllReadyH.cons (o := { dst := some 41, op := Op.buildSlice 43 1 #[(0, Operand.const (Value.int IntKind.u8 44))], type := 43, pos := "law.go:111", after := #[], guard := none }) rfl (fun K hK => ?_) ?_
          · go_simp
            refine hK.out _ _ trivial (fun hHeld => ?_)
            clear hK K
            try simp only [Act.put, List.setIfInBounds_toArray, List.set_cons_zero, List.set_cons_succ]
            refine wpAnyH_ready (rs := [4, 9]) (by kernel_rfl) (by simp) ?_
            refine AllReadyH.cons (o := { dst := some 40, op := Op.call { callee := Callee.builtin Builtin.append, args := #[Operand.tmp 36, Operand.tmp 39], argTypes := #[43, 43] }, type := 43, pos := "law.go:111", after := #[{ on := 0, ground := Ground.data }, { on := 3, ground := Ground.data }], guard := none }) rfl (fun K hK => ?_) ?_
            · (((refine step_app1 (by rfl) (.tmp 36) (.tmp 39) (by rfl) (w0 := W0) (z := 9) (by (repeat (first | with_reducible exact HO3.out | with_reducible exact HO2.out | with_reducible exact HO1.out | with_reducible exact HO0.out | with_reducible apply OwnU.drew | with_reducible apply OwnU.alloc))) (by rfl) (by rfl) (by (repeat (first | with_reducible exact HO3.out | with_reducible exact HO2.out | with_reducible exact HO1.out | with_reducible exact HO0.out | with_reducible apply OwnU.drew | with_reducible apply OwnU.alloc | with_reducible apply CellU.drew | ((with_reducible apply CellU.new2 (w0 := W0)); focus (simp; done)) | with_reducible apply CellU.alloc | with_reducible refine HC2.out _ _ ?_ | with_reducible refine HC1.out _ _ ?_))) 9 rfl (by first | exact hl1) ?_); intro v1 x1 HO1 HC1))
              refine hK.out _ _ trivial (fun hHeld => ?_)
              clear hK K
              try simp only [Act.put, List.setIfInBounds_toArray, List.set_cons_zero, List.set_cons_succ]
              refine wpAnyH_ready (rs := [6, 9]) (by kernel_rfl) (by simp) ?_
              refine AllReadyH.cons (o := { dst := some 42, op := Op.call { callee := Callee.builtin Builtin.append, args := #[Operand.tmp 40, Operand.tmp 41], argTypes := #[43, 43] }, type := 43, pos := "law.go:111", after := #[{ on := 4, ground := Ground.data }, { on := 5, ground := Ground.data }, { on := 4, ground := Ground.chain }], guard := none }) rfl (fun K hK => ?_) ?_
              · (((refine step_app1 (by rfl) (.tmp 40) (.tmp 41) (by rfl) (w0 := W0) (z := 44) (by (repeat (first | with_reducible exact HO3.out | with_reducible exact HO2.out | with_reducible exact HO1.out | with_reducible exact HO0.out | with_reducible apply OwnU.drew | with_reducible apply OwnU.alloc))) (by rfl) (by rfl) (by (repeat (first | with_reducible exact HO3.out | with_reducible exact HO2.out | with_reducible exact HO1.out | with_reducible exact HO0.out | with_reducible apply OwnU.drew | with_reducible apply OwnU.alloc | with_reducible apply CellU.drew | ((with_reducible apply CellU.new2 (w0 := W0)); focus (simp; done)) | with_reducible apply CellU.alloc | with_reducible refine HC2.out _ _ ?_ | with_reducible refine HC1.out _ _ ?_))) 44 rfl (by first | exact hl2) ?_); intro v2 x2 HO2 HC2))
                refine hK.out _ _ trivial (fun hHeld => ?_)
                clear hK K
                try simp only [Act.put, List.setIfInBounds_toArray, List.set_cons_zero, List.set_cons_succ]
                refine wpAnyH_ready (rs := [9]) (by kernel_rfl) (by simp) ?_
                refine AllReadyH.cons (o := { dst := some 45, op := Op.buildSlice 43 1 #[(0, Operand.tmp 44)], type := 43, pos := "law.go:111", after := #[{ on := 8, ground := Ground.data }], guard := none }) rfl (fun K hK => ?_) ?_
                · go_simp
                  refine hK.out _ _ trivial (fun hHeld => ?_)
                  clear hK K
                  try simp only [Act.put, List.setIfInBounds_toArray, List.set_cons_zero, List.set_cons_succ]
                  refine wpAnyH_ready (rs := [10]) (by kernel_rfl) (by simp) ?_
                  refine AllReadyH.cons (o := { dst := some 46, op := Op.call { callee := Callee.builtin Builtin.append, args := #[Operand.tmp 42, Operand.tmp 45], argTypes := #[43, 43] }, type := 43, pos := "law.go:111", after := #[{ on := 6, ground := Ground.data }, { on := 9, ground := Ground.data }, { on := 6, ground := Ground.chain }], guard := none }) rfl (fun K hK => ?_) ?_
                  · (((refine step_app1 (by rfl) (.tmp 42) (.tmp 45) (by rfl) (w0 := W0) (z := 9) (by (repeat (first | with_reducible exact HO3.out | with_reducible exact HO2.out | with_reducible exact HO1.out | with_reducible exact HO0.out | with_reducible apply OwnU.drew | with_reducible apply OwnU.alloc))) (by rfl) (by rfl) (by (repeat (first | with_reducible exact HO3.out | with_reducible exact HO2.out | with_reducible exact HO1.out | with_reducible exact HO0.out | with_reducible apply OwnU.drew | with_reducible apply OwnU.alloc | with_reducible apply CellU.drew | ((with_reducible apply CellU.new2 (w0 := W0)); focus (simp; done)) | with_reducible apply CellU.alloc | with_reducible refine HC2.out _ _ ?_ | with_reducible refine HC1.out _ _ ?_))) 9 rfl (by first | exact hl3) ?_); intro v3 x3 HO3 HC3))
                    refine hK.out _ _ trivial (fun hHeld => ?_)
                    clear hK K
                    try simp only [Act.put, List.setIfInBounds_toArray, List.set_cons_zero, List.set_cons_succ]
                    refine wpAnyH_take (i := 11) (oi := { dst := some 9, op := Op.assign (Operand.tmp 46), type := 43, pos := "law.go:111", after := #[{ on := 10, ground := Ground.data }, { on := 10, ground := Ground.chain }, { on := 0, ground := Ground.phase }, { on := 1, ground := Ground.phase }, { on := 2, ground := Ground.phase }, { on := 3, ground := Ground.phase }, { on := 4, ground := Ground.phase }, { on := 5, ground := Ground.phase }, { on := 6, ground := Ground.phase }, { on := 7, ground := Ground.phase }, { on := 8, ground := Ground.phase }, { on := 9, ground := Ground.phase }, { on := 10, ground := Ground.phase }], guard := none }) (v := v3) rfl (by kernel_rfl) (by kernel_rfl) (by kernel_rfl) (fun _ _ _ h => h) (Or.inl ⟨by rfl, ?_⟩) (by assumption) ?_
                    · intro w hSw; (try dsimp only at hSw); (try go_simp); try with_reducible rfl
                    try simp only [Act.put, List.setIfInBounds_toArray, List.set_cons_zero, List.set_cons_succ]
                    refine wpAnyH_done (by kernel_rfl) ?_ _
                    refine NoPanic.normal ?_
                    clear hHeld HO1 HO2 HC1 HC2 HC3
                    go_wp2_with fail
                    go_roundw
                    case rel => exact ⟨k + 1, by omega, by go_num, by rw [HT2.out]; exact HO3.out⟩
                    case measure => simp [intOf]; omega
                  exact AllReadyH.nil
                exact AllReadyH.nil
              refine AllReadyH.cons (o := { dst := some 45, op := Op.buildSlice 43 1 #[(0, Operand.tmp 44)], type := 43, pos := "law.go:111", after := #[{ on := 8, ground := Ground.data }], guard := none }) rfl (fun K hK => ?_) ?_
              · go_simp
                refine hK.out _ _ trivial (fun hHeld => ?_)
                clear hK K
                try simp only [Act.put, List.setIfInBounds_toArray, List.set_cons_zero, List.set_cons_succ]
                refine wpAnyH_ready (rs := [6]) (by kernel_rfl) (by simp) ?_
                refine AllReadyH.cons (o := { dst := some 42, op := Op.call { callee := Callee.builtin Builtin.append, args := #[Operand.tmp 40, Operand.tmp 41], argTypes := #[43, 43] }, type := 43, pos := "law.go:111", after := #[{ on := 4, ground := Ground.data }, { on := 5, ground := Ground.data }, { on := 4, ground := Ground.chain }], guard := none }) rfl (fun K hK => ?_) ?_
                · (((refine step_app1 (by rfl) (.tmp 40) (.tmp 41) (by rfl) (w0 := W0) (z := 44) (by (repeat (first | with_reducible exact HO3.out | with_reducible exact HO2.out | with_reducible exact HO1.out | with_reducible exact HO0.out | with_reducible apply OwnU.drew | with_reducible apply OwnU.alloc))) (by rfl) (by rfl) (by (repeat (first | with_reducible exact HO3.out | with_reducible exact HO2.out | with_reducible exact HO1.out | with_reducible exact HO0.out | with_reducible apply OwnU.drew | with_reducible apply OwnU.alloc | with_reducible apply CellU.drew | ((with_reducible apply CellU.new2 (w0 := W0)); focus (simp; done)) | with_reducible apply CellU.alloc | with_reducible refine HC2.out _ _ ?_ | with_reducible refine HC1.out _ _ ?_))) 44 rfl (by first | exact hl2) ?_); intro v2 x2 HO2 HC2))
                  refine hK.out _ _ trivial (fun hHeld => ?_)
                  clear hK K
                  try simp only [Act.put, List.setIfInBounds_toArray, List.set_cons_zero, List.set_cons_succ]
                  refine wpAnyH_ready (rs := [10]) (by kernel_rfl) (by simp) ?_
                  refine AllReadyH.cons (o := { dst := some 46, op := Op.call { callee := Callee.builtin Builtin.append, args := #[Operand.tmp 42, Operand.tmp 45], argTypes := #[43, 43] }, type := 43, pos := "law.go:111", after := #[{ on := 6, ground := Ground.data }, { on := 9, ground := Ground.data }, { on := 6, ground := Ground.chain }], guard := none }) rfl (fun K hK => ?_) ?_
                  · (((refine step_app1 (by rfl) (.tmp 42) (.tmp 45) (by rfl) (w0 := W0) (z := 9) (by (repeat (first | with_reducible exact HO3.out | with_reducible exact HO2.out | with_reducible exact HO1.out | with_reducible exact HO0.out | with_reducible apply OwnU.drew | with_reducible apply OwnU.alloc))) (by rfl) (by rfl) (by (repeat (first | with_reducible exact HO3.out | with_reducible exact HO2.out | with_reducible exact HO1.out | with_reducible exact HO0.out | with_reducible apply OwnU.drew | with_reducible apply OwnU.alloc | with_reducible apply CellU.drew | ((with_reducible apply CellU.new2 (w0 := W0)); focus (simp; done)) | with_reducible apply CellU.alloc | with_reducible refine HC2.out _ _ ?_ | with_reducible refine HC1.out _ _ ?_))) 9 rfl (by first | exact hl3) ?_); intro v3 x3 HO3 HC3))
                    refine hK.out _ _ trivial (fun hHeld => ?_)
                    clear hK K
                    try simp only [Act.put, List.setIfInBounds_toArray, List.set_cons_zero, List.set_cons_succ]
                    refine wpAnyH_take (i := 11) (oi := { dst := some 9, op := Op.assign (Operand.tmp 46), type := 43, pos := "law.go:111", after := #[{ on := 10, ground := Ground.data }, { on := 10, ground := Ground.chain }, { on := 0, ground := Ground.phase }, { on := 1, ground := Ground.phase }, { on := 2, ground := Ground.phase }, { on := 3, ground := Ground.phase }, { on := 4, ground := Ground.phase }, { on := 5, ground := Ground.phase }, { on := 6, ground := Ground.phase }, { on := 7, ground := Ground.phase }, { on := 8, ground := Ground.phase }, { on := 9, ground := Ground.phase }, { on := 10, ground := Ground.phase }], guard := none }) (v := v3) rfl (by kernel_rfl) (by kernel_rfl) (by kernel_rfl) (fun _ _ _ h => h) (Or.inl ⟨by rfl, ?_⟩) (by assumption) ?_
                    · intro w hSw; (try dsimp only at hSw); (try go_simp); try with_reducible rfl
                    try simp only [Act.put, List.setIfInBounds_toArray, List.set_cons_zero, List.set_cons_succ]
                    refine wpAnyH_done (by kernel_rfl) ?_ _
                    refine NoPanic.normal ?_
                    clear hHeld HO1 HO2 HC1 HC2 HC3
                    go_wp2_with fail
                    go_roundw
                    case rel => exact ⟨k + 1, by omega, by go_num, by rw [HT2.out]; exact HO3.out⟩
                    case measure => simp [intOf]; omega
                  exact AllReadyH.nil
                exact AllReadyH.nil
              exact AllReadyH.nil
            refine AllReadyH.cons (o := { dst := some 45, op := Op.buildSlice 43 1 #[(0, Operand.tmp 44)], type := 43, pos := "law.go:111", after := #[{ on := 8, ground := Ground.data }], guard := none }) rfl (fun K hK => ?_) ?_
            · go_simp
              refine hK.out _ _ trivial (fun hHeld => ?_)
              clear hK K
              try simp only [Act.put, List.setIfInBounds_toArray, List.set_cons_zero, List.set_cons_succ]
              refine wpAnyH_ready (rs := [4]) (by kernel_rfl) (by simp) ?_
              refine AllReadyH.cons (o := { dst := some 40, op := Op.call { callee := Callee.builtin Builtin.append, args := #[Operand.tmp 36, Operand.tmp 39], argTypes := #[43, 43] }, type := 43, pos := "law.go:111", after := #[{ on := 0, ground := Ground.data }, { on := 3, ground := Ground.data }], guard := none }) rfl (fun K hK => ?_) ?_
              · (((refine step_app1 (by rfl) (.tmp 36) (.tmp 39) (by rfl) (w0 := W0) (z := 9) (by (repeat (first | with_reducible exact HO3.out | with_reducible exact HO2.out | with_reducible exact HO1.out | with_reducible exact HO0.out | with_reducible apply OwnU.drew | with_reducible apply OwnU.alloc))) (by rfl) (by rfl) (by (repeat (first | with_reducible exact HO3.out | with_reducible exact HO2.out | with_reducible exact HO1.out | with_reducible exact HO0.out | with_reducible apply OwnU.drew | with_reducible apply OwnU.alloc | with_reducible apply CellU.drew | ((with_reducible apply CellU.new2 (w0 := W0)); focus (simp; done)) | with_reducible apply CellU.alloc | with_reducible refine HC2.out _ _ ?_ | with_reducible refine HC1.out _ _ ?_))) 9 rfl (by first | exact hl1) ?_); intro v1 x1 HO1 HC1))
                refine hK.out _ _ trivial (fun hHeld => ?_)
                clear hK K
                try simp only [Act.put, List.setIfInBounds_toArray, List.set_cons_zero, List.set_cons_succ]
                refine wpAnyH_ready (rs := [6]) (by kernel_rfl) (by simp) ?_
                refine AllReadyH.cons (o := { dst := some 42, op := Op.call { callee := Callee.builtin Builtin.append, args := #[Operand.tmp 40, Operand.tmp 41], argTypes := #[43, 43] }, type := 43, pos := "law.go:111", after := #[{ on := 4, ground := Ground.data }, { on := 5, ground := Ground.data }, { on := 4, ground := Ground.chain }], guard := none }) rfl (fun K hK => ?_) ?_
                · (((refine step_app1 (by rfl) (.tmp 40) (.tmp 41) (by rfl) (w0 := W0) (z := 44) (by (repeat (first | with_reducible exact HO3.out | with_reducible exact HO2.out | with_reducible exact HO1.out | with_reducible exact HO0.out | with_reducible apply OwnU.drew | with_reducible apply OwnU.alloc))) (by rfl) (by rfl) (by (repeat (first | with_reducible exact HO3.out | with_reducible exact HO2.out | with_reducible exact HO1.out | with_reducible exact HO0.out | with_reducible apply OwnU.drew | with_reducible apply OwnU.alloc | with_reducible apply CellU.drew | ((with_reducible apply CellU.new2 (w0 := W0)); focus (simp; done)) | with_reducible apply CellU.alloc | with_reducible refine HC2.out _ _ ?_ | with_reducible refine HC1.out _ _ ?_))) 44 rfl (by first | exact hl2) ?_); intro v2 x2 HO2 HC2))
                  refine hK.out _ _ trivial (fun hHeld => ?_)
                  clear hK K
                  try simp only [Act.put, List.setIfInBounds_toArray, List.set_cons_zero, List.set_cons_succ]
                  refine wpAnyH_ready (rs := [10]) (by kernel_rfl) (by simp) ?_
                  refine AllReadyH.cons (o := { dst := some 46, op := Op.call { callee := Callee.builtin Builtin.append, args := #[Operand.tmp 42, Operand.tmp 45], argTypes := #[43, 43] }, type := 43, pos := "law.go:111", after := #[{ on := 6, ground := Ground.data }, { on := 9, ground := Ground.data }, { on := 6, ground := Ground.chain }], guard := none }) rfl (fun K hK => ?_) ?_
                  · (((refine step_app1 (by rfl) (.tmp 42) (.tmp 45) (by rfl) (w0 := W0) (z := 9) (by (repeat (first | with_reducible exact HO3.out | with_reducible exact HO2.out | with_reducible exact HO1.out | with_reducible exact HO0.out | with_reducible apply OwnU.drew | with_reducible apply OwnU.alloc))) (by rfl) (by rfl) (by (repeat (first | with_reducible exact HO3.out | with_reducible exact HO2.out | with_reducible exact HO1.out | with_reducible exact HO0.out | with_reducible apply OwnU.drew | with_reducible apply OwnU.alloc | with_reducible apply CellU.drew | ((with_reducible apply CellU.new2 (w0 := W0)); focus (simp; done)) | with_reducible apply CellU.alloc | with_reducible refine HC2.out _ _ ?_ | with_reducible refine HC1.out _ _ ?_))) 9 rfl (by first | exact hl3) ?_); intro v3 x3 HO3 HC3))
                    refine hK.out _ _ trivial (fun hHeld => ?_)
                    clear hK K
                    try simp only [Act.put, List.setIfInBounds_toArray, List.set_cons_zero, List.set_cons_succ]
                    refine wpAnyH_take (i := 11) (oi := { dst := some 9, op := Op.assign (Operand.tmp 46), type := 43, pos := "law.go:111", after := #[{ on := 10, ground := Ground.data }, { on := 10, ground := Ground.chain }, { on := 0, ground := Ground.phase }, { on := 1, ground := Ground.phase }, { on := 2, ground := Ground.phase }, { on := 3, ground := Ground.phase }, { on := 4, ground := Ground.phase }, { on := 5, ground := Ground.phase }, { on := 6, ground := Ground.phase }, { on := 7, ground := Ground.phase }, { on := 8, ground := Ground.phase }, { on := 9, ground := Ground.phase }, { on := 10, ground := Ground.phase }], guard := none }) (v := v3) rfl (by kernel_rfl) (by kernel_rfl) (by kernel_rfl) (fun _ _ _ h => h) (Or.inl ⟨by rfl, ?_⟩) (by assumption) ?_
                    · intro w hSw; (try dsimp only at hSw); (try go_simp); try with_reducible rfl
                    try simp only [Act.put, List.setIfInBounds_toArray, List.set_cons_zero, List.set_cons_succ]
                    refine wpAnyH_done (by kernel_rfl) ?_ _
                    refine NoPanic.normal ?_
                    clear hHeld HO1 HO2 HC1 HC2 HC3
                    go_wp2_with fail
                    go_roundw
                    case rel => exact ⟨k + 1, by omega, by go_num, by rw [HT2.out]; exact HO3.out⟩
                    case measure => simp [intOf]; omega
                  exact AllReadyH.nil
                exact AllReadyH.nil
              exact AllReadyH.nil
            exact AllReadyH.nil
          refine AllReadyH.cons (o := { dst := some 45, op := Op.buildSlice 43 1 #[(0, Operand.tmp 44)], type := 43, pos := "law.go:111", after := #[{ on := 8, ground := Ground.data }], guard := none }) rfl (fun K hK => ?_) ?_
          · go_simp
            refine hK.out _ _ trivial (fun hHeld => ?_)
            clear hK K
            try simp only [Act.put, List.setIfInBounds_toArray, List.set_cons_zero, List.set_cons_succ]
            refine wpAnyH_ready (rs := [4, 5]) (by kernel_rfl) (by simp) ?_
            refine AllReadyH.cons (o := { dst := some 40, op := Op.call { callee := Callee.builtin Builtin.append, args := #[Operand.tmp 36, Operand.tmp 39], argTypes := #[43, 43] }, type := 43, pos := "law.go:111", after := #[{ on := 0, ground := Ground.data }, { on := 3, ground := Ground.data }], guard := none }) rfl (fun K hK => ?_) ?_
            · (((refine step_app1 (by rfl) (.tmp 36) (.tmp 39) (by rfl) (w0 := W0) (z := 9) (by (repeat (first | with_reducible exact HO3.out | with_reducible exact HO2.out | with_reducible exact HO1.out | with_reducible exact HO0.out | with_reducible apply OwnU.drew | with_reducible apply OwnU.alloc))) (by rfl) (by rfl) (by (repeat (first | with_reducible exact HO3.out | with_reducible exact HO2.out | with_reducible exact HO1.out | with_reducible exact HO0.out | with_reducible apply OwnU.drew | with_reducible apply OwnU.alloc | with_reducible apply CellU.drew | ((with_reducible apply CellU.new2 (w0 := W0)); focus (simp; done)) | with_reducible apply CellU.alloc | with_reducible refine HC2.out _ _ ?_ | with_reducible refine HC1.out _ _ ?_))) 9 rfl (by first | exact hl1) ?_); intro v1 x1 HO1 HC1))
              refine hK.out _ _ trivial (fun hHeld => ?_)
              clear hK K
              try simp only [Act.put, List.setIfInBounds_toArray, List.set_cons_zero, List.set_cons_succ]
              refine wpAnyH_ready (rs := [5]) (by kernel_rfl) (by simp) ?_
              refine AllReadyH.cons (o := { dst := some 41, op := Op.buildSlice 43 1 #[(0, Operand.const (Value.int IntKind.u8 44))], type := 43, pos := "law.go:111", after := #[], guard := none }) rfl (fun K hK => ?_) ?_
              · go_simp
                refine hK.out _ _ trivial (fun hHeld => ?_)
                clear hK K
                try simp only [Act.put, List.setIfInBounds_toArray, List.set_cons_zero, List.set_cons_succ]
                refine wpAnyH_ready (rs := [6]) (by kernel_rfl) (by simp) ?_
                refine AllReadyH.cons (o := { dst := some 42, op := Op.call { callee := Callee.builtin Builtin.append, args := #[Operand.tmp 40, Operand.tmp 41], argTypes := #[43, 43] }, type := 43, pos := "law.go:111", after := #[{ on := 4, ground := Ground.data }, { on := 5, ground := Ground.data }, { on := 4, ground := Ground.chain }], guard := none }) rfl (fun K hK => ?_) ?_
                · (((refine step_app1 (by rfl) (.tmp 40) (.tmp 41) (by rfl) (w0 := W0) (z := 44) (by (repeat (first | with_reducible exact HO3.out | with_reducible exact HO2.out | with_reducible exact HO1.out | with_reducible exact HO0.out | with_reducible apply OwnU.drew | with_reducible apply OwnU.alloc))) (by rfl) (by rfl) (by (repeat (first | with_reducible exact HO3.out | with_reducible exact HO2.out | with_reducible exact HO1.out | with_reducible exact HO0.out | with_reducible apply OwnU.drew | with_reducible apply OwnU.alloc | with_reducible apply CellU.drew | ((with_reducible apply CellU.new2 (w0 := W0)); focus (simp; done)) | with_reducible apply CellU.alloc | with_reducible refine HC2.out _ _ ?_ | with_reducible refine HC1.out _ _ ?_))) 44 rfl (by first | exact hl2) ?_); intro v2 x2 HO2 HC2))
                  refine hK.out _ _ trivial (fun hHeld => ?_)
                  clear hK K
                  try simp only [Act.put, List.setIfInBounds_toArray, List.set_cons_zero, List.set_cons_succ]
                  refine wpAnyH_ready (rs := [10]) (by kernel_rfl) (by simp) ?_
                  refine AllReadyH.cons (o := { dst := some 46, op := Op.call { callee := Callee.builtin Builtin.append, args := #[Operand.tmp 42, Operand.tmp 45], argTypes := #[43, 43] }, type := 43, pos := "law.go:111", after := #[{ on := 6, ground := Ground.data }, { on := 9, ground := Ground.data }, { on := 6, ground := Ground.chain }], guard := none }) rfl (fun K hK => ?_) ?_
                  · (((refine step_app1 (by rfl) (.tmp 42) (.tmp 45) (by rfl) (w0 := W0) (z := 9) (by (repeat (first | with_reducible exact HO3.out | with_reducible exact HO2.out | with_reducible exact HO1.out | with_reducible exact HO0.out | with_reducible apply OwnU.drew | with_reducible apply OwnU.alloc))) (by rfl) (by rfl) (by (repeat (first | with_reducible exact HO3.out | with_reducible exact HO2.out | with_reducible exact HO1.out | with_reducible exact HO0.out | with_reducible apply OwnU.drew | with_reducible apply OwnU.alloc | with_reducible apply CellU.drew | ((with_reducible apply CellU.new2 (w0 := W0)); focus (simp; done)) | with_reducible apply CellU.alloc | with_reducible refine HC2.out _ _ ?_ | with_reducible refine HC1.out _ _ ?_))) 9 rfl (by first | exact hl3) ?_); intro v3 x3 HO3 HC3))
                    refine hK.out _ _ trivial (fun hHeld => ?_)
                    clear hK K
                    try simp only [Act.put, List.setIfInBounds_toArray, List.set_cons_zero, List.set_cons_succ]
                    refine wpAnyH_take (i := 11) (oi := { dst := some 9, op := Op.assign (Operand.tmp 46), type := 43, pos := "law.go:111", after := #[{ on := 10, ground := Ground.data }, { on := 10, ground := Ground.chain }, { on := 0, ground := Ground.phase }, { on := 1, ground := Ground.phase }, { on := 2, ground := Ground.phase }, { on := 3, ground := Ground.phase }, { on := 4, ground := Ground.phase }, { on := 5, ground := Ground.phase }, { on := 6, ground := Ground.phase }, { on := 7, ground := Ground.phase }, { on := 8, ground := Ground.phase }, { on := 9, ground := Ground.phase }, { on := 10, ground := Ground.phase }], guard := none }) (v := v3) rfl (by kernel_rfl) (by kernel_rfl) (by kernel_rfl) (fun _ _ _ h => h) (Or.inl ⟨by rfl, ?_⟩) (by assumption) ?_
                    · intro w hSw; (try dsimp only at hSw); (try go_simp); try with_reducible rfl
                    try simp only [Act.put, List.setIfInBounds_toArray, List.set_cons_zero, List.set_cons_succ]
                    refine wpAnyH_done (by kernel_rfl) ?_ _
                    refine NoPanic.normal ?_
                    clear hHeld HO1 HO2 HC1 HC2 HC3
                    go_wp2_with fail
                    go_roundw
                    case rel => exact ⟨k + 1, by omega, by go_num, by rw [HT2.out]; exact HO3.out⟩
                    case measure => simp [intOf]; omega
                  exact AllReadyH.nil
                exact AllReadyH.nil
              exact AllReadyH.nil
            refine AllReadyH.cons (o := { dst := some 41, op := Op.buildSlice 43 1 #[(0, Operand.const (Value.int IntKind.u8 44))], type := 43, pos := "law.go:111", after := #[], guard := none }) rfl (fun K hK => ?_) ?_
            · go_simp
              refine hK.out _ _ trivial (fun hHeld => ?_)
              clear hK K
              try simp only [Act.put, List.setIfInBounds_toArray, List.set_cons_zero, List.set_cons_succ]
              refine wpAnyH_ready (rs := [4]) (by kernel_rfl) (by simp) ?_
              refine AllReadyH.cons (o := { dst := some 40, op := Op.call { callee := Callee.builtin Builtin.append, args := #[Operand.tmp 36, Operand.tmp 39], argTypes := #[43, 43] }, type := 43, pos := "law.go:111", after := #[{ on := 0, ground := Ground.data }, { on := 3, ground := Ground.data }], guard := none }) rfl (fun K hK => ?_) ?_
              · (((refine step_app1 (by rfl) (.tmp 36) (.tmp 39) (by rfl) (w0 := W0) (z := 9) (by (repeat (first | with_reducible exact HO3.out | with_reducible exact HO2.out | with_reducible exact HO1.out | with_reducible exact HO0.out | with_reducible apply OwnU.drew | with_reducible apply OwnU.alloc))) (by rfl) (by rfl) (by (repeat (first | with_reducible exact HO3.out | with_reducible exact HO2.out | with_reducible exact HO1.out | with_reducible exact HO0.out | with_reducible apply OwnU.drew | with_reducible apply OwnU.alloc | with_reducible apply CellU.drew | ((with_reducible apply CellU.new2 (w0 := W0)); focus (simp; done)) | with_reducible apply CellU.alloc | with_reducible refine HC2.out _ _ ?_ | with_reducible refine HC1.out _ _ ?_))) 9 rfl (by first | exact hl1) ?_); intro v1 x1 HO1 HC1))
                refine hK.out _ _ trivial (fun hHeld => ?_)
                clear hK K
                try simp only [Act.put, List.setIfInBounds_toArray, List.set_cons_zero, List.set_cons_succ]
                refine wpAnyH_ready (rs := [6]) (by kernel_rfl) (by simp) ?_
                refine AllReadyH.cons (o := { dst := some 42, op := Op.call { callee := Callee.builtin Builtin.append, args := #[Operand.tmp 40, Operand.tmp 41], argTypes := #[43, 43] }, type := 43, pos := "law.go:111", after := #[{ on := 4, ground := Ground.data }, { on := 5, ground := Ground.data }, { on := 4, ground := Ground.chain }], guard := none }) rfl (fun K hK => ?_) ?_
                · (((refine step_app1 (by rfl) (.tmp 40) (.tmp 41) (by rfl) (w0 := W0) (z := 44) (by (repeat (first | with_reducible exact HO3.out | with_reducible exact HO2.out | with_reducible exact HO1.out | with_reducible exact HO0.out | with_reducible apply OwnU.drew | with_reducible apply OwnU.alloc))) (by rfl) (by rfl) (by (repeat (first | with_reducible exact HO3.out | with_reducible exact HO2.out | with_reducible exact HO1.out | with_reducible exact HO0.out | with_reducible apply OwnU.drew | with_reducible apply OwnU.alloc | with_reducible apply CellU.drew | ((with_reducible apply CellU.new2 (w0 := W0)); focus (simp; done)) | with_reducible apply CellU.alloc | with_reducible refine HC2.out _ _ ?_ | with_reducible refine HC1.out _ _ ?_))) 44 rfl (by first | exact hl2) ?_); intro v2 x2 HO2 HC2))
                  refine hK.out _ _ trivial (fun hHeld => ?_)
                  clear hK K
                  try simp only [Act.put, List.setIfInBounds_toArray, List.set_cons_zero, List.set_cons_succ]
                  refine wpAnyH_ready (rs := [10]) (by kernel_rfl) (by simp) ?_
                  refine AllReadyH.cons (o := { dst := some 46, op := Op.call { callee := Callee.builtin Builtin.append, args := #[Operand.tmp 42, Operand.tmp 45], argTypes := #[43, 43] }, type := 43, pos := "law.go:111", after := #[{ on := 6, ground := Ground.data }, { on := 9, ground := Ground.data }, { on := 6, ground := Ground.chain }], guard := none }) rfl (fun K hK => ?_) ?_
                  · (((refine step_app1 (by rfl) (.tmp 42) (.tmp 45) (by rfl) (w0 := W0) (z := 9) (by (repeat (first | with_reducible exact HO3.out | with_reducible exact HO2.out | with_reducible exact HO1.out | with_reducible exact HO0.out | with_reducible apply OwnU.drew | with_reducible apply OwnU.alloc))) (by rfl) (by rfl) (by (repeat (first | with_reducible exact HO3.out | with_reducible exact HO2.out | with_reducible exact HO1.out | with_reducible exact HO0.out | with_reducible apply OwnU.drew | with_reducible apply OwnU.alloc | with_reducible apply CellU.drew | ((with_reducible apply CellU.new2 (w0 := W0)); focus (simp; done)) | with_reducible apply CellU.alloc | with_reducible refine HC2.out _ _ ?_ | with_reducible refine HC1.out _ _ ?_))) 9 rfl (by first | exact hl3) ?_); intro v3 x3 HO3 HC3))
                    refine hK.out _ _ trivial (fun hHeld => ?_)
                    clear hK K
                    try simp only [Act.put, List.setIfInBounds_toArray, List.set_cons_zero, List.set_cons_succ]
                    refine wpAnyH_take (i := 11) (oi := { dst := some 9, op := Op.assign (Operand.tmp 46), type := 43, pos := "law.go:111", after := #[{ on := 10, ground := Ground.data }, { on := 10, ground := Ground.chain }, { on := 0, ground := Ground.phase }, { on := 1, ground := Ground.phase }, { on := 2, ground := Ground.phase }, { on := 3, ground := Ground.phase }, { on := 4, ground := Ground.phase }, { on := 5, ground := Ground.phase }, { on := 6, ground := Ground.phase }, { on := 7, ground := Ground.phase }, { on := 8, ground := Ground.phase }, { on := 9, ground := Ground.phase }, { on := 10, ground := Ground.phase }], guard := none }) (v := v3) rfl (by kernel_rfl) (by kernel_rfl) (by kernel_rfl) (fun _ _ _ h => h) (Or.inl ⟨by rfl, ?_⟩) (by assumption) ?_
                    · intro w hSw; (try dsimp only at hSw); (try go_simp); try with_reducible rfl
                    try simp only [Act.put, List.setIfInBounds_toArray, List.set_cons_zero, List.set_cons_succ]
                    refine wpAnyH_done (by kernel_rfl) ?_ _
                    refine NoPanic.normal ?_
                    clear hHeld HO1 HO2 HC1 HC2 HC3
                    go_wp2_with fail
                    go_roundw
                    case rel => exact ⟨k + 1, by omega, by go_num, by rw [HT2.out]; exact HO3.out⟩
                    case measure => simp [intOf]; omega
                  exact AllReadyH.nil
                exact AllReadyH.nil
              exact AllReadyH.nil
            exact AllReadyH.nil
          exact AllReadyH.nil
        refine AllReadyH.cons (o := { dst := some 41, op := Op.buildSlice 43 1 #[(0, Operand.const (Value.int IntKind.u8 44))], type := 43, pos := "law.go:111", after := #[], guard := none }) rfl (fun K hK => ?_) ?_
        · go_simp
          refine hK.out _ _ trivial (fun hHeld => ?_)
          clear hK K
          try simp only [Act.put, List.setIfInBounds_toArray, List.set_cons_zero, List.set_cons_succ]
          refine wpAnyH_ready (rs := [3, 9]) (by kernel_rfl) (by simp) ?_
          refine AllReadyH.cons (o := { dst := some 39, op := Op.buildSlice 43 1 #[(0, Operand.tmp 38)], type := 43, pos := "law.go:111", after := #[{ on := 2, ground := Ground.data }], guard := none }) rfl (fun K hK => ?_) ?_
          · go_simp
            refine hK.out _ _ trivial (fun hHeld => ?_)
            clear hK K
            try simp only [Act.put, List.setIfInBounds_toArray, List.set_cons_zero, List.set_cons_succ]
            refine wpAnyH_ready (rs := [4, 9]) (by kernel_rfl) (by simp) ?_
            refine AllReadyH.cons (o := { dst := some 40, op := Op.call { callee := Callee.builtin Builtin.append, args := #[Operand.tmp 36, Operand.tmp 39], argTypes := #[43, 43] }, type := 43, pos := "law.go:111", after := #[{ on := 0, ground := Ground.data }, { on := 3, ground := Ground.data }], guard := none }) rfl (fun K hK => ?_) ?_
            · (((refine step_app1 (by rfl) (.tmp 36) (.tmp 39) (by rfl) (w0 := W0) (z := 9) (by (repeat (first | with_reducible exact HO3.out | with_reducible exact HO2.out | with_reducible exact HO1.out | with_reducible exact HO0.out | with_reducible apply OwnU.drew | with_reducible apply OwnU.alloc))) (by rfl) (by rfl) (by (repeat (first | with_reducible exact HO3.out | with_reducible exact HO2.out | with_reducible exact HO1.out | with_reducible exact HO0.out | with_reducible apply OwnU.drew | with_reducible apply OwnU.alloc | with_reducible apply CellU.drew | ((with_reducible apply CellU.new2 (w0 := W0)); focus (simp; done)) | with_reducible apply CellU.alloc | with_reducible refine HC2.out _ _ ?_ | with_reducible refine HC1.out _ _ ?_))) 9 rfl (by first | exact hl1) ?_); intro v1 x1 HO1 HC1))
              refine hK.out _ _ trivial (fun hHeld => ?_)
              clear hK K
              try simp only [Act.put, List.setIfInBounds_toArray, List.set_cons_zero, List.set_cons_succ]
              refine wpAnyH_ready (rs := [6, 9]) (by kernel_rfl) (by simp) ?_
              refine AllReadyH.cons (o := { dst := some 42, op := Op.call { callee := Callee.builtin Builtin.append, args := #[Operand.tmp 40, Operand.tmp 41], argTypes := #[43, 43] }, type := 43, pos := "law.go:111", after := #[{ on := 4, ground := Ground.data }, { on := 5, ground := Ground.data }, { on := 4, ground := Ground.chain }], guard := none }) rfl (fun K hK => ?_) ?_
              · (((refine step_app1 (by rfl) (.tmp 40) (.tmp 41) (by rfl) (w0 := W0) (z := 44) (by (repeat (first | with_reducible exact HO3.out | with_reducible exact HO2.out | with_reducible exact HO1.out | with_reducible exact HO0.out | with_reducible apply OwnU.drew | with_reducible apply OwnU.alloc))) (by rfl) (by rfl) (by (repeat (first | with_reducible exact HO3.out | with_reducible exact HO2.out | with_reducible exact HO1.out | with_reducible exact HO0.out | with_reducible apply OwnU.drew | with_reducible apply OwnU.alloc | with_reducible apply CellU.drew | ((with_reducible apply CellU.new2 (w0 := W0)); focus (simp; done)) | with_reducible apply CellU.alloc | with_reducible refine HC2.out _ _ ?_ | with_reducible refine HC1.out _ _ ?_))) 44 rfl (by first | exact hl2) ?_); intro v2 x2 HO2 HC2))
                refine hK.out _ _ trivial (fun hHeld => ?_)
                clear hK K
                try simp only [Act.put, List.setIfInBounds_toArray, List.set_cons_zero, List.set_cons_succ]
                refine wpAnyH_ready (rs := [9]) (by kernel_rfl) (by simp) ?_
                refine AllReadyH.cons (o := { dst := some 45, op := Op.buildSlice 43 1 #[(0, Operand.tmp 44)], type := 43, pos := "law.go:111", after := #[{ on := 8, ground := Ground.data }], guard := none }) rfl (fun K hK => ?_) ?_
                · go_simp
                  refine hK.out _ _ trivial (fun hHeld => ?_)
                  clear hK K
                  try simp only [Act.put, List.setIfInBounds_toArray, List.set_cons_zero, List.set_cons_succ]
                  refine wpAnyH_ready (rs := [10]) (by kernel_rfl) (by simp) ?_
                  refine AllReadyH.cons (o := { dst := some 46, op := Op.call { callee := Callee.builtin Builtin.append, args := #[Operand.tmp 42, Operand.tmp 45], argTypes := #[43, 43] }, type := 43, pos := "law.go:111", after := #[{ on := 6, ground := Ground.data }, { on := 9, ground := Ground.data }, { on := 6, ground := Ground.chain }], guard := none }) rfl (fun K hK => ?_) ?_
                  · (((refine step_app1 (by rfl) (.tmp 42) (.tmp 45) (by rfl) (w0 := W0) (z := 9) (by (repeat (first | with_reducible exact HO3.out | with_reducible exact HO2.out | with_reducible exact HO1.out | with_reducible exact HO0.out | with_reducible apply OwnU.drew | with_reducible apply OwnU.alloc))) (by rfl) (by rfl) (by (repeat (first | with_reducible exact HO3.out | with_reducible exact HO2.out | with_reducible exact HO1.out | with_reducible exact HO0.out | with_reducible apply OwnU.drew | with_reducible apply OwnU.alloc | with_reducible apply CellU.drew | ((with_reducible apply CellU.new2 (w0 := W0)); focus (simp; done)) | with_reducible apply CellU.alloc | with_reducible refine HC2.out _ _ ?_ | with_reducible refine HC1.out _ _ ?_))) 9 rfl (by first | exact hl3) ?_); intro v3 x3 HO3 HC3))
                    refine hK.out _ _ trivial (fun hHeld => ?_)
                    clear hK K
                    try simp only [Act.put, List.setIfInBounds_toArray, List.set_cons_zero, List.set_cons_succ]
                    refine wpAnyH_take (i := 11) (oi := { dst := some 9, op := Op.assign (Operand.tmp 46), type := 43, pos := "law.go:111", after := #[{ on := 10, ground := Ground.data }, { on := 10, ground := Ground.chain }, { on := 0, ground := Ground.phase }, { on := 1, ground := Ground.phase }, { on := 2, ground := Ground.phase }, { on := 3, ground := Ground.phase }, { on := 4, ground := Ground.phase }, { on := 5, ground := Ground.phase }, { on := 6, ground := Ground.phase }, { on := 7, ground := Ground.phase }, { on := 8, ground := Ground.phase }, { on := 9, ground := Ground.phase }, { on := 10, ground := Ground.phase }], guard := none }) (v := v3) rfl (by kernel_rfl) (by kernel_rfl) (by kernel_rfl) (fun _ _ _ h => h) (Or.inl ⟨by rfl, ?_⟩) (by assumption) ?_
                    · intro w hSw; (try dsimp only at hSw); (try go_simp); try with_reducible rfl
                    try simp only [Act.put, List.setIfInBounds_toArray, List.set_cons_zero, List.set_cons_succ]
                    refine wpAnyH_done (by kernel_rfl) ?_ _
                    refine NoPanic.normal ?_
                    clear hHeld HO1 HO2 HC1 HC2 HC3
                    go_wp2_with fail
                    go_roundw
                    case rel => exact ⟨k + 1, by omega, by go_num, by rw [HT2.out]; exact HO3.out⟩
                    case measure => simp [intOf]; omega
                  exact AllReadyH.nil
                exact AllReadyH.nil
              refine AllReadyH.cons (o := { dst := some 45, op := Op.buildSlice 43 1 #[(0, Operand.tmp 44)], type := 43, pos := "law.go:111", after := #[{ on := 8, ground := Ground.data }], guard := none }) rfl (fun K hK => ?_) ?_
              · go_simp
                refine hK.out _ _ trivial (fun hHeld => ?_)
                clear hK K
                try simp only [Act.put, List.setIfInBounds_toArray, List.set_cons_zero, List.set_cons_succ]
                refine wpAnyH_ready (rs := [6]) (by kernel_rfl) (by simp) ?_
                refine AllReadyH.cons (o := { dst := some 42, op := Op.call { callee := Callee.builtin Builtin.append, args := #[Operand.tmp 40, Operand.tmp 41], argTypes := #[43, 43] }, type := 43, pos := "law.go:111", after := #[{ on := 4, ground := Ground.data }, { on := 5, ground := Ground.data }, { on := 4, ground := Ground.chain }], guard := none }) rfl (fun K hK => ?_) ?_
                · (((refine step_app1 (by rfl) (.tmp 40) (.tmp 41) (by rfl) (w0 := W0) (z := 44) (by (repeat (first | with_reducible exact HO3.out | with_reducible exact HO2.out | with_reducible exact HO1.out | with_reducible exact HO0.out | with_reducible apply OwnU.drew | with_reducible apply OwnU.alloc))) (by rfl) (by rfl) (by (repeat (first | with_reducible exact HO3.out | with_reducible exact HO2.out | with_reducible exact HO1.out | with_reducible exact HO0.out | with_reducible apply OwnU.drew | with_reducible apply OwnU.alloc | with_reducible apply CellU.drew | ((with_reducible apply CellU.new2 (w0 := W0)); focus (simp; done)) | with_reducible apply CellU.alloc | with_reducible refine HC2.out _ _ ?_ | with_reducible refine HC1.out _ _ ?_))) 44 rfl (by first | exact hl2) ?_); intro v2 x2 HO2 HC2))
                  refine hK.out _ _ trivial (fun hHeld => ?_)
                  clear hK K
                  try simp only [Act.put, List.setIfInBounds_toArray, List.set_cons_zero, List.set_cons_succ]
                  refine wpAnyH_ready (rs := [10]) (by kernel_rfl) (by simp) ?_
                  refine AllReadyH.cons (o := { dst := some 46, op := Op.call { callee := Callee.builtin Builtin.append, args := #[Operand.tmp 42, Operand.tmp 45], argTypes := #[43, 43] }, type := 43, pos := "law.go:111", after := #[{ on := 6, ground := Ground.data }, { on := 9, ground := Ground.data }, { on := 6, ground := Ground.chain }], guard := none }) rfl (fun K hK => ?_) ?_
                  · (((refine step_app1 (by rfl) (.tmp 42) (.tmp 45) (by rfl) (w0 := W0) (z := 9) (by (repeat (first | with_reducible exact HO3.out | with_reducible exact HO2.out | with_reducible exact HO1.out | with_reducible exact HO0.out | with_reducible apply OwnU.drew | with_reducible apply OwnU.alloc))) (by rfl) (by rfl) (by (repeat (first | with_reducible exact HO3.out | with_reducible exact HO2.out | with_reducible exact HO1.out | with_reducible exact HO0.out | with_reducible apply OwnU.drew | with_reducible apply OwnU.alloc | with_reducible apply CellU.drew | ((with_reducible apply CellU.new2 (w0 := W0)); focus (simp; done)) | with_reducible apply CellU.alloc | with_reducible refine HC2.out _ _ ?_ | with_reducible refine HC1.out _ _ ?_))) 9 rfl (by first | exact hl3) ?_); intro v3 x3 HO3 HC3))
                    refine hK.out _ _ trivial (fun hHeld => ?_)
                    clear hK K
                    try simp only [Act.put, List.setIfInBounds_toArray, List.set_cons_zero, List.set_cons_succ]
                    refine wpAnyH_take (i := 11) (oi := { dst := some 9, op := Op.assign (Operand.tmp 46), type := 43, pos := "law.go:111", after := #[{ on := 10, ground := Ground.data }, { on := 10, ground := Ground.chain }, { on := 0, ground := Ground.phase }, { on := 1, ground := Ground.phase }, { on := 2, ground := Ground.phase }, { on := 3, ground := Ground.phase }, { on := 4, ground := Ground.phase }, { on := 5, ground := Ground.phase }, { on := 6, ground := Ground.phase }, { on := 7, ground := Ground.phase }, { on := 8, ground := Ground.phase }, { on := 9, ground := Ground.phase }, { on := 10, ground := Ground.phase }], guard := none }) (v := v3) rfl (by kernel_rfl) (by kernel_rfl) (by kernel_rfl) (fun _ _ _ h => h) (Or.inl ⟨by rfl, ?_⟩) (by assumption) ?_
                    · intro w hSw; (try dsimp only at hSw); (try go_simp); try with_reducible rfl
                    try simp only [Act.put, List.setIfInBounds_toArray, List.set_cons_zero, List.set_cons_succ]
                    refine wpAnyH_done (by kernel_rfl) ?_ _
                    refine NoPanic.normal ?_
                    clear hHeld HO1 HO2 HC1 HC2 HC3
                    go_wp2_with fail
                    go_roundw
                    case rel => exact ⟨k + 1, by omega, by go_num, by rw [HT2.out]; exact HO3.out⟩
                    case measure => simp [intOf]; omega
                  exact AllReadyH.nil
                exact AllReadyH.nil
              exact AllReadyH.nil
            refine AllReadyH.cons (o := { dst := some 45, op := Op.buildSlice 43 1 #[(0, Operand.tmp 44)], type := 43, pos := "law.go:111", after := #[{ on := 8, ground := Ground.data }], guard := none }) rfl (fun K hK => ?_) ?_
            · go_simp
              refine hK.out _ _ trivial (fun hHeld => ?_)
              clear hK K
              try simp only [Act.put, List.setIfInBounds_toArray, List.set_cons_zero, List.set_cons_succ]
              refine wpAnyH_ready (rs := [4]) (by kernel_rfl) (by simp) ?_
              refine AllReadyH.cons (o := { dst := some 40, op := Op.call { callee := Callee.builtin Builtin.append, args := #[Operand.tmp 36, Operand.tmp 39], argTypes := #[43, 43] }, type := 43, pos := "law.go:111", after := #[{ on := 0, ground := Ground.data }, { on := 3, ground := Ground.data }], guard := none }) rfl (fun K hK => ?_) ?_
              · (((refine step_app1 (by rfl) (.tmp 36) (.tmp 39) (by rfl) (w0 := W0) (z := 9) (by (repeat (first | with_reducible exact HO3.out | with_reducible exact HO2.out | with_reducible exact HO1.out | with_reducible exact HO0.out | with_reducible apply OwnU.drew | with_reducible apply OwnU.alloc))) (by rfl) (by rfl) (by (repeat (first | with_reducible exact HO3.out | with_reducible exact HO2.out | with_reducible exact HO1.out | with_reducible exact HO0.out | with_reducible apply OwnU.drew | with_reducible apply OwnU.alloc | with_reducible apply CellU.drew | ((with_reducible apply CellU.new2 (w0 := W0)); focus (simp; done)) | with_reducible apply CellU.alloc | with_reducible refine HC2.out _ _ ?_ | with_reducible refine HC1.out _ _ ?_))) 9 rfl (by first | exact hl1) ?_); intro v1 x1 HO1 HC1))
                refine hK.out _ _ trivial (fun hHeld => ?_)
                clear hK K
                try simp only [Act.put, List.setIfInBounds_toArray, List.set_cons_zero, List.set_cons_succ]
                refine wpAnyH_ready (rs := [6]) (by kernel_rfl) (by simp) ?_
                refine AllReadyH.cons (o := { dst := some 42, op := Op.call { callee := Callee.builtin Builtin.append, args := #[Operand.tmp 40, Operand.tmp 41], argTypes := #[43, 43] }, type := 43, pos := "law.go:111", after := #[{ on := 4, ground := Ground.data }, { on := 5, ground := Ground.data }, { on := 4, ground := Ground.chain }], guard := none }) rfl (fun K hK => ?_) ?_
                · (((refine step_app1 (by rfl) (.tmp 40) (.tmp 41) (by rfl) (w0 := W0) (z := 44) (by (repeat (first | with_reducible exact HO3.out | with_reducible exact HO2.out | with_reducible exact HO1.out | with_reducible exact HO0.out | with_reducible apply OwnU.drew | with_reducible apply OwnU.alloc))) (by rfl) (by rfl) (by (repeat (first | with_reducible exact HO3.out | with_reducible exact HO2.out | with_reducible exact HO1.out | with_reducible exact HO0.out | with_reducible apply OwnU.drew | with_reducible apply OwnU.alloc | with_reducible apply CellU.drew | ((with_reducible apply CellU.new2 (w0 := W0)); focus (simp; done)) | with_reducible apply CellU.alloc | with_reducible refine HC2.out _ _ ?_ | with_reducible refine HC1.out _ _ ?_))) 44 rfl (by first | exact hl2) ?_); intro v2 x2 HO2 HC2))
                  refine hK.out _ _ trivial (fun hHeld => ?_)
                  clear hK K
                  try simp only [Act.put, List.setIfInBounds_toArray, List.set_cons_zero, List.set_cons_succ]
                  refine wpAnyH_ready (rs := [10]) (by kernel_rfl) (by simp) ?_
                  refine AllReadyH.cons (o := { dst := some 46, op := Op.call { callee := Callee.builtin Builtin.append, args := #[Operand.tmp 42, Operand.tmp 45], argTypes := #[43, 43] }, type := 43, pos := "law.go:111", after := #[{ on := 6, ground := Ground.data }, { on := 9, ground := Ground.data }, { on := 6, ground := Ground.chain }], guard := none }) rfl (fun K hK => ?_) ?_
                  · (((refine step_app1 (by rfl) (.tmp 42) (.tmp 45) (by rfl) (w0 := W0) (z := 9) (by (repeat (first | with_reducible exact HO3.out | with_reducible exact HO2.out | with_reducible exact HO1.out | with_reducible exact HO0.out | with_reducible apply OwnU.drew | with_reducible apply OwnU.alloc))) (by rfl) (by rfl) (by (repeat (first | with_reducible exact HO3.out | with_reducible exact HO2.out | with_reducible exact HO1.out | with_reducible exact HO0.out | with_reducible apply OwnU.drew | with_reducible apply OwnU.alloc | with_reducible apply CellU.drew | ((with_reducible apply CellU.new2 (w0 := W0)); focus (simp; done)) | with_reducible apply CellU.alloc | with_reducible refine HC2.out _ _ ?_ | with_reducible refine HC1.out _ _ ?_))) 9 rfl (by first | exact hl3) ?_); intro v3 x3 HO3 HC3))
                    refine hK.out _ _ trivial (fun hHeld => ?_)
                    clear hK K
                    try simp only [Act.put, List.setIfInBounds_toArray, List.set_cons_zero, List.set_cons_succ]
                    refine wpAnyH_take (i := 11) (oi := { dst := some 9, op := Op.assign (Operand.tmp 46), type := 43, pos := "law.go:111", after := #[{ on := 10, ground := Ground.data }, { on := 10, ground := Ground.chain }, { on := 0, ground := Ground.phase }, { on := 1, ground := Ground.phase }, { on := 2, ground := Ground.phase }, { on := 3, ground := Ground.phase }, { on := 4, ground := Ground.phase }, { on := 5, ground := Ground.phase }, { on := 6, ground := Ground.phase }, { on := 7, ground := Ground.phase }, { on := 8, ground := Ground.phase }, { on := 9, ground := Ground.phase }, { on := 10, ground := Ground.phase }], guard := none }) (v := v3) rfl (by kernel_rfl) (by kernel_rfl) (by kernel_rfl) (fun _ _ _ h => h) (Or.inl ⟨by rfl, ?_⟩) (by assumption) ?_
                    · intro w hSw; (try dsimp only at hSw); (try go_simp); try with_reducible rfl
                    try simp only [Act.put, List.setIfInBounds_toArray, List.set_cons_zero, List.set_cons_succ]
                    refine wpAnyH_done (by kernel_rfl) ?_ _
                    refine NoPanic.normal ?_
                    clear hHeld HO1 HO2 HC1 HC2 HC3
                    go_wp2_with fail
                    go_roundw
                    case rel => exact ⟨k + 1, by omega, by go_num, by rw [HT2.out]; exact HO3.out⟩
                    case measure => simp [intOf]; omega
                  exact AllReadyH.nil
                exact AllReadyH.nil
              exact AllReadyH.nil
            exact AllReadyH.nil
          refine AllReadyH.cons (o := { dst := some 45, op := Op.buildSlice 43 1 #[(0, Operand.tmp 44)], type := 43, pos := "law.go:111", after := #[{ on := 8, ground := Ground.data }], guard := none }) rfl (fun K hK => ?_) ?_
          · go_simp
            refine hK.out _ _ trivial (fun hHeld => ?_)
            clear hK K
            try simp only [Act.put, List.setIfInBounds_toArray, List.set_cons_zero, List.set_cons_succ]
            refine wpAnyH_ready (rs := [3]) (by kernel_rfl) (by simp) ?_
            refine AllReadyH.cons (o := { dst := some 39, op := Op.buildSlice 43 1 #[(0, Operand.tmp 38)], type := 43, pos := "law.go:111", after := #[{ on := 2, ground := Ground.data }], guard := none }) rfl (fun K hK => ?_) ?_
            · go_simp
              refine hK.out _ _ trivial (fun hHeld => ?_)
              clear hK K
              try simp only [Act.put, List.setIfInBounds_toArray, List.set_cons_zero, List.set_cons_succ]
              refine wpAnyH_ready (rs := [4]) (by kernel_rfl) (by simp) ?_
              refine AllReadyH.cons (o := { dst := some 40, op := Op.call { callee := Callee.builtin Builtin.append, args := #[Operand.tmp 36, Operand.tmp 39], argTypes := #[43, 43] }, type := 43, pos := "law.go:111", after := #[{ on := 0, ground := Ground.data }, { on := 3, ground := Ground.data }], guard := none }) rfl (fun K hK => ?_) ?_
              · (((refine step_app1 (by rfl) (.tmp 36) (.tmp 39) (by rfl) (w0 := W0) (z := 9) (by (repeat (first | with_reducible exact HO3.out | with_reducible exact HO2.out | with_reducible exact HO1.out | with_reducible exact HO0.out | with_reducible apply OwnU.drew | with_reducible apply OwnU.alloc))) (by rfl) (by rfl) (by (repeat (first | with_reducible exact HO3.out | with_reducible exact HO2.out | with_reducible exact HO1.out | with_reducible exact HO0.out | with_reducible apply OwnU.drew | with_reducible apply OwnU.alloc | with_reducible apply CellU.drew | ((with_reducible apply CellU.new2 (w0 := W0)); focus (simp; done)) | with_reducible apply CellU.alloc | with_reducible refine HC2.out _ _ ?_ | with_reducible refine HC1.out _ _ ?_))) 9 rfl (by first | exact hl1) ?_); intro v1 x1 HO1 HC1))
                refine hK.out _ _ trivial (fun hHeld => ?_)
                clear hK K
                try simp only [Act.put, List.setIfInBounds_toArray, List.set_cons_zero, List.set_cons_succ]
                refine wpAnyH_ready (rs := [6]) (by kernel_rfl) (by simp) ?_
                refine AllReadyH.cons (o := { dst := some 42, op := Op.call { callee := Callee.builtin Builtin.append, args := #[Operand.tmp 40, Operand.tmp 41], argTypes := #[43, 43] }, type := 43, pos := "law.go:111", after := #[{ on := 4, ground := Ground.data }, { on := 5, ground := Ground.data }, { on := 4, ground := Ground.chain }], guard := none }) rfl (fun K hK => ?_) ?_
                · (((refine step_app1 (by rfl) (.tmp 40) (.tmp 41) (by rfl) (w0 := W0) (z := 44) (by (repeat (first | with_reducible exact HO3.out | with_reducible exact HO2.out | with_reducible exact HO1.out | with_reducible exact HO0.out | with_reducible apply OwnU.drew | with_reducible apply OwnU.alloc))) (by rfl) (by rfl) (by (repeat (first | with_reducible exact HO3.out | with_reducible exact HO2.out | with_reducible exact HO1.out | with_reducible exact HO0.out | with_reducible apply OwnU.drew | with_reducible apply OwnU.alloc | with_reducible apply CellU.drew | ((with_reducible apply CellU.new2 (w0 := W0)); focus (simp; done)) | with_reducible apply CellU.alloc | with_reducible refine HC2.out _ _ ?_ | with_reducible refine HC1.out _ _ ?_))) 44 rfl (by first | exact hl2) ?_); intro v2 x2 HO2 HC2))
                  refine hK.out _ _ trivial (fun hHeld => ?_)
                  clear hK K
                  try simp only [Act.put, List.setIfInBounds_toArray, List.set_cons_zero, List.set_cons_succ]
                  refine wpAnyH_ready (rs := [10]) (by kernel_rfl) (by simp) ?_
                  refine AllReadyH.cons (o := { dst := some 46, op := Op.call { callee := Callee.builtin Builtin.append, args := #[Operand.tmp 42, Operand.tmp 45], argTypes := #[43, 43] }, type := 43, pos := "law.go:111", after := #[{ on := 6, ground := Ground.data }, { on := 9, ground := Ground.data }, { on := 6, ground := Ground.chain }], guard := none }) rfl (fun K hK => ?_) ?_
                  · (((refine step_app1 (by rfl) (.tmp 42) (.tmp 45) (by rfl) (w0 := W0) (z := 9) (by (repeat (first | with_reducible exact HO3.out | with_reducible exact HO2.out | with_reducible exact HO1.out | with_reducible exact HO0.out | with_reducible apply OwnU.drew | with_reducible apply OwnU.alloc))) (by rfl) (by rfl) (by (repeat (first | with_reducible exact HO3.out | with_reducible exact HO2.out | with_reducible exact HO1.out | with_reducible exact HO0.out | with_reducible apply OwnU.drew | with_reducible apply OwnU.alloc | with_reducible apply CellU.drew | ((with_reducible apply CellU.new2 (w0 := W0)); focus (simp; done)) | with_reducible apply CellU.alloc | with_reducible refine HC2.out _ _ ?_ | with_reducible refine HC1.out _ _ ?_))) 9 rfl (by first | exact hl3) ?_); intro v3 x3 HO3 HC3))
                    refine hK.out _ _ trivial (fun hHeld => ?_)
                    clear hK K
                    try simp only [Act.put, List.setIfInBounds_toArray, List.set_cons_zero, List.set_cons_succ]
                    refine wpAnyH_take (i := 11) (oi := { dst := some 9, op := Op.assign (Operand.tmp 46), type := 43, pos := "law.go:111", after := #[{ on := 10, ground := Ground.data }, { on := 10, ground := Ground.chain }, { on := 0, ground := Ground.phase }, { on := 1, ground := Ground.phase }, { on := 2, ground := Ground.phase }, { on := 3, ground := Ground.phase }, { on := 4, ground := Ground.phase }, { on := 5, ground := Ground.phase }, { on := 6, ground := Ground.phase }, { on := 7, ground := Ground.phase }, { on := 8, ground := Ground.phase }, { on := 9, ground := Ground.phase }, { on := 10, ground := Ground.phase }], guard := none }) (v := v3) rfl (by kernel_rfl) (by kernel_rfl) (by kernel_rfl) (fun _ _ _ h => h) (Or.inl ⟨by rfl, ?_⟩) (by assumption) ?_
                    · intro w hSw; (try dsimp only at hSw); (try go_simp); try with_reducible rfl
                    try simp only [Act.put, List.setIfInBounds_toArray, List.set_cons_zero, List.set_cons_succ]
                    refine wpAnyH_done (by kernel_rfl) ?_ _
                    refine NoPanic.normal ?_
                    clear hHeld HO1 HO2 HC1 HC2 HC3
                    go_wp2_with fail
                    go_roundw
                    case rel => exact ⟨k + 1, by omega, by go_num, by rw [HT2.out]; exact HO3.out⟩
                    case measure => simp [intOf]; omega
                  exact AllReadyH.nil
                exact AllReadyH.nil
              exact AllReadyH.nil
            exact AllReadyH.nil
          exact AllReadyH.nil
        refine AllReadyH.cons (o := { dst := some 45, op := Op.buildSlice 43 1 #[(0, Operand.tmp 44)], type := 43, pos := "law.go:111", after := #[{ on := 8, ground := Ground.data }], guard := none }) rfl (fun K hK => ?_) ?_
        · go_simp
          refine hK.out _ _ trivial (fun hHeld => ?_)
          clear hK K
          try simp only [Act.put, List.setIfInBounds_toArray, List.set_cons_zero, List.set_cons_succ]
          refine wpAnyH_ready (rs := [3, 5]) (by kernel_rfl) (by simp) ?_
          refine AllReadyH.cons (o := { dst := some 39, op := Op.buildSlice 43 1 #[(0, Operand.tmp 38)], type := 43, pos := "law.go:111", after := #[{ on := 2, ground := Ground.data }], guard := none }) rfl (fun K hK => ?_) ?_
          · go_simp
            refine hK.out _ _ trivial (fun hHeld => ?_)
            clear hK K
            try simp only [Act.put, List.setIfInBounds_toArray, List.set_cons_zero, List.set_cons_succ]
            refine wpAnyH_ready (rs := [4, 5]) (by kernel_rfl) (by simp) ?_
            refine AllReadyH.cons (o := { dst := some 40, op := Op.call { callee := Callee.builtin Builtin.append, args := #[Operand.tmp 36, Operand.tmp 39], argTypes := #[43, 43] }, type := 43, pos := "law.go:111", after := #[{ on := 0, ground := Ground.data }, { on := 3, ground := Ground.data }], guard := none }) rfl (fun K hK => ?_) ?_
            · (((refine step_app1 (by rfl) (.tmp 36) (.tmp 39) (by rfl) (w0 := W0) (z := 9) (by (repeat (first | with_reducible exact HO3.out | with_reducible exact HO2.out | with_reducible exact HO1.out | with_reducible exact HO0.out | with_reducible apply OwnU.drew | with_reducible apply OwnU.alloc))) (by rfl) (by rfl) (by (repeat (first | with_reducible exact HO3.out | with_reducible exact HO2.out | with_reducible exact HO1.out | with_reducible exact HO0.out | with_reducible apply OwnU.drew | with_reducible apply OwnU.alloc | with_reducible apply CellU.drew | ((with_reducible apply CellU.new2 (w0 := W0)); focus (simp; done)) | with_reducible apply CellU.alloc | with_reducible refine HC2.out _ _ ?_ | with_reducible refine HC1.out _ _ ?_))) 9 rfl (by first | exact hl1) ?_); intro v1 x1 HO1 HC1))
              refine hK.out _ _ trivial (fun hHeld => ?_)
              clear hK K
              try simp only [Act.put, List.setIfInBounds_toArray, List.set_cons_zero, List.set_cons_succ]
              refine wpAnyH_ready (rs := [5]) (by kernel_rfl) (by simp) ?_
              refine AllReadyH.cons (o := { dst := some 41, op := Op.buildSlice 43 1 #[(0, Operand.const (Value.int IntKind.u8 44))], type := 43, pos := "law.go:111", after := #[], guard := none }) rfl (fun K hK => ?_) ?_
              · go_simp
                refine hK.out _ _ trivial (fun hHeld => ?_)
                clear hK K
                try simp only [Act.put, List.setIfInBounds_toArray, List.set_cons_zero, List.set_cons_succ]
                refine wpAnyH_ready (rs := [6]) (by kernel_rfl) (by simp) ?_
                refine AllReadyH.cons (o := { dst := some 42, op := Op.call { callee := Callee.builtin Builtin.append, args := #[Operand.tmp 40, Operand.tmp 41], argTypes := #[43, 43] }, type := 43, pos := "law.go:111", after := #[{ on := 4, ground := Ground.data }, { on := 5, ground := Ground.data }, { on := 4, ground := Ground.chain }], guard := none }) rfl (fun K hK => ?_) ?_
                · (((refine step_app1 (by rfl) (.tmp 40) (.tmp 41) (by rfl) (w0 := W0) (z := 44) (by (repeat (first | with_reducible exact HO3.out | with_reducible exact HO2.out | with_reducible exact HO1.out | with_reducible exact HO0.out | with_reducible apply OwnU.drew | with_reducible apply OwnU.alloc))) (by rfl) (by rfl) (by (repeat (first | with_reducible exact HO3.out | with_reducible exact HO2.out | with_reducible exact HO1.out | with_reducible exact HO0.out | with_reducible apply OwnU.drew | with_reducible apply OwnU.alloc | with_reducible apply CellU.drew | ((with_reducible apply CellU.new2 (w0 := W0)); focus (simp; done)) | with_reducible apply CellU.alloc | with_reducible refine HC2.out _ _ ?_ | with_reducible refine HC1.out _ _ ?_))) 44 rfl (by first | exact hl2) ?_); intro v2 x2 HO2 HC2))
                  refine hK.out _ _ trivial (fun hHeld => ?_)
                  clear hK K
                  try simp only [Act.put, List.setIfInBounds_toArray, List.set_cons_zero, List.set_cons_succ]
                  refine wpAnyH_ready (rs := [10]) (by kernel_rfl) (by simp) ?_
                  refine AllReadyH.cons (o := { dst := some 46, op := Op.call { callee := Callee.builtin Builtin.append, args := #[Operand.tmp 42, Operand.tmp 45], argTypes := #[43, 43] }, type := 43, pos := "law.go:111", after := #[{ on := 6, ground := Ground.data }, { on := 9, ground := Ground.data }, { on := 6, ground := Ground.chain }], guard := none }) rfl (fun K hK => ?_) ?_
                  · (((refine step_app1 (by rfl) (.tmp 42) (.tmp 45) (by rfl) (w0 := W0) (z := 9) (by (repeat (first | with_reducible exact HO3.out | with_reducible exact HO2.out | with_reducible exact HO1.out | with_reducible exact HO0.out | with_reducible apply OwnU.drew | with_reducible apply OwnU.alloc))) (by rfl) (by rfl) (by (repeat (first | with_reducible exact HO3.out | with_reducible exact HO2.out | with_reducible exact HO1.out | with_reducible exact HO0.out | with_reducible apply OwnU.drew | with_reducible apply OwnU.alloc | with_reducible apply CellU.drew | ((with_reducible apply CellU.new2 (w0 := W0)); focus (simp; done)) | with_reducible apply CellU.alloc | with_reducible refine HC2.out _ _ ?_ | with_reducible refine HC1.out _ _ ?_))) 9 rfl (by first | exact hl3) ?_); intro v3 x3 HO3 HC3))
                    refine hK.out _ _ trivial (fun hHeld => ?_)
                    clear hK K
                    try simp only [Act.put, List.setIfInBounds_toArray, List.set_cons_zero, List.set_cons_succ]
                    refine wpAnyH_take (i := 11) (oi := { dst := some 9, op := Op.assign (Operand.tmp 46), type := 43, pos := "law.go:111", after := #[{ on := 10, ground := Ground.data }, { on := 10, ground := Ground.chain }, { on := 0, ground := Ground.phase }, { on := 1, ground := Ground.phase }, { on := 2, ground := Ground.phase }, { on := 3, ground := Ground.phase }, { on := 4, ground := Ground.phase }, { on := 5, ground := Ground.phase }, { on := 6, ground := Ground.phase }, { on := 7, ground := Ground.phase }, { on := 8, ground := Ground.phase }, { on := 9, ground := Ground.phase }, { on := 10, ground := Ground.phase }], guard := none }) (v := v3) rfl (by kernel_rfl) (by kernel_rfl) (by kernel_rfl) (fun _ _ _ h => h) (Or.inl ⟨by rfl, ?_⟩) (by assumption) ?_
                    · intro w hSw; (try dsimp only at hSw); (try go_simp); try with_reducible rfl
                    try simp only [Act.put, List.setIfInBounds_toArray, List.set_cons_zero, List.set_cons_succ]
                    refine wpAnyH_done (by kernel_rfl) ?_ _
                    refine NoPanic.normal ?_
                    clear hHeld HO1 HO2 HC1 HC2 HC3
                    go_wp2_with fail
                    go_roundw
                    case rel => exact ⟨k + 1, by omega, by go_num, by rw [HT2.out]; exact HO3.out⟩
                    case measure => simp [intOf]; omega
                  exact AllReadyH.nil
                exact AllReadyH.nil
              exact AllReadyH.nil
            refine AllReadyH.cons (o := { dst := some 41, op := Op.buildSlice 43 1 #[(0, Operand.const (Value.int IntKind.u8 44))], type := 43, pos := "law.go:111", after := #[], guard := none }) rfl (fun K hK => ?_) ?_
            · go_simp
              refine hK.out _ _ trivial (fun hHeld => ?_)
              clear hK K
              try simp only [Act.put, List.setIfInBounds_toArray, List.set_cons_zero, List.set_cons_succ]
              refine wpAnyH_ready (rs := [4]) (by kernel_rfl) (by simp) ?_
              refine AllReadyH.cons (o := { dst := some 40, op := Op.call { callee := Callee.builtin Builtin.append, args := #[Operand.tmp 36, Operand.tmp 39], argTypes := #[43, 43] }, type := 43, pos := "law.go:111", after := #[{ on := 0, ground := Ground.data }, { on := 3, ground := Ground.data }], guard := none }) rfl (fun K hK => ?_) ?_
              · (((refine step_app1 (by rfl) (.tmp 36) (.tmp 39) (by rfl) (w0 := W0) (z := 9) (by (repeat (first | with_reducible exact HO3.out | with_reducible exact HO2.out | with_reducible exact HO1.out | with_reducible exact HO0.out | with_reducible apply OwnU.drew | with_reducible apply OwnU.alloc))) (by rfl) (by rfl) (by (repeat (first | with_reducible exact HO3.out | with_reducible exact HO2.out | with_reducible exact HO1.out | with_reducible exact HO0.out | with_reducible apply OwnU.drew | with_reducible apply OwnU.alloc | with_reducible apply CellU.drew | ((with_reducible apply CellU.new2 (w0 := W0)); focus (simp; done)) | with_reducible apply CellU.alloc | with_reducible refine HC2.out _ _ ?_ | with_reducible refine HC1.out _ _ ?_))) 9 rfl (by first | exact hl1) ?_); intro v1 x1 HO1 HC1))
                refine hK.out _ _ trivial (fun hHeld => ?_)
                clear hK K
                try simp only [Act.put, List.setIfInBounds_toArray, List.set_cons_zero, List.set_cons_succ]
                refine wpAnyH_ready (rs := [6]) (by kernel_rfl) (by simp) ?_
                refine AllReadyH.cons (o := { dst := some 42, op := Op.call { callee := Callee.builtin Builtin.append, args := #[Operand.tmp 40, Operand.tmp 41], argTypes := #[43, 43] }, type := 43, pos := "law.go:111", after := #[{ on := 4, ground := Ground.data }, { on := 5, ground := Ground.data }, { on := 4, ground := Ground.chain }], guard := none }) rfl (fun K hK => ?_) ?_
                · (((refine step_app1 (by rfl) (.tmp 40) (.tmp 41) (by rfl) (w0 := W0) (z := 44) (by (repeat (first | with_reducible exact HO3.out | with_reducible exact HO2.out | with_reducible exact HO1.out | with_reducible exact HO0.out | with_reducible apply OwnU.drew | with_reducible apply OwnU.alloc))) (by rfl) (by rfl) (by (repeat (first | with_reducible exact HO3.out | with_reducible exact HO2.out | with_reducible exact HO1.out | with_reducible exact HO0.out | with_reducible apply OwnU.drew | with_reducible apply OwnU.alloc | with_reducible apply CellU.drew | ((with_reducible apply CellU.new2 (w0 := W0)); focus (simp; done)) | with_reducible apply CellU.alloc | with_reducible refine HC2.out _ _ ?_ | with_reducible refine HC1.out _ _ ?_))) 44 rfl (by first | exact hl2) ?_); intro v2 x2 HO2 HC2))
                  refine hK.out _ _ trivial (fun hHeld => ?_)
                  clear hK K
                  try simp only [Act.put, List.setIfInBounds_toArray, List.set_cons_zero, List.set_cons_succ]
                  refine wpAnyH_ready (rs := [10]) (by kernel_rfl) (by simp) ?_
                  refine AllReadyH.cons (o := { dst := some 46, op := Op.call { callee := Callee.builtin Builtin.append, args := #[Operand.tmp 42, Operand.tmp 45], argTypes := #[43, 43] }, type := 43, pos := "law.go:111", after := #[{ on := 6, ground := Ground.data }, { on := 9, ground := Ground.data }, { on := 6, ground := Ground.chain }], guard := none }) rfl (fun K hK => ?_) ?_
                  · (((refine step_app1 (by rfl) (.tmp 42) (.tmp 45) (by rfl) (w0 := W0) (z := 9) (by (repeat (first | with_reducible exact HO3.out | with_reducible exact HO2.out | with_reducible exact HO1.out | with_reducible exact HO0.out | with_reducible apply OwnU.drew | with_reducible apply OwnU.alloc))) (by rfl) (by rfl) (by (repeat (first | with_reducible exact HO3.out | with_reducible exact HO2.out | with_reducible exact HO1.out | with_reducible exact HO0.out | with_reducible apply OwnU.drew | with_reducible apply OwnU.alloc | with_reducible apply CellU.drew | ((with_reducible apply CellU.new2 (w0 := W0)); focus (simp; done)) | with_reducible apply CellU.alloc | with_reducible refine HC2.out _ _ ?_ | with_reducible refine HC1.out _ _ ?_))) 9 rfl (by first | exact hl3) ?_); intro v3 x3 HO3 HC3))
                    refine hK.out _ _ trivial (fun hHeld => ?_)
                    clear hK K
                    try simp only [Act.put, List.setIfInBounds_toArray, List.set_cons_zero, List.set_cons_succ]
                    refine wpAnyH_take (i := 11) (oi := { dst := some 9, op := Op.assign (Operand.tmp 46), type := 43, pos := "law.go:111", after := #[{ on := 10, ground := Ground.data }, { on := 10, ground := Ground.chain }, { on := 0, ground := Ground.phase }, { on := 1, ground := Ground.phase }, { on := 2, ground := Ground.phase }, { on := 3, ground := Ground.phase }, { on := 4, ground := Ground.phase }, { on := 5, ground := Ground.phase }, { on := 6, ground := Ground.phase }, { on := 7, ground := Ground.phase }, { on := 8, ground := Ground.phase }, { on := 9, ground := Ground.phase }, { on := 10, ground := Ground.phase }], guard := none }) (v := v3) rfl (by kernel_rfl) (by kernel_rfl) (by kernel_rfl) (fun _ _ _ h => h) (Or.inl ⟨by rfl, ?_⟩) (by assumption) ?_
                    · intro w hSw; (try dsimp only at hSw); (try go_simp); try with_reducible rfl
                    try simp only [Act.put, List.setIfInBounds_toArray, List.set_cons_zero, List.set_cons_succ]
                    refine wpAnyH_done (by kernel_rfl) ?_ _
                    refine NoPanic.normal ?_
                    clear hHeld HO1 HO2 HC1 HC2 HC3
                    go_wp2_with fail
                    go_roundw
                    case rel => exact ⟨k + 1, by omega, by go_num, by rw [HT2.out]; exact HO3.out⟩
                    case measure => simp [intOf]; omega
                  exact AllReadyH.nil
                exact AllReadyH.nil
              exact AllReadyH.nil
            exact AllReadyH.nil
          refine AllReadyH.cons (o := { dst := some 41, op := Op.buildSlice 43 1 #[(0, Operand.const (Value.int IntKind.u8 44))], type := 43, pos := "law.go:111", after := #[], guard := none }) rfl (fun K hK => ?_) ?_
          · go_simp
            refine hK.out _ _ trivial (fun hHeld => ?_)
            clear hK K
            try simp only [Act.put, List.setIfInBounds_toArray, List.set_cons_zero, List.set_cons_succ]
            refine wpAnyH_ready (rs := [3]) (by kernel_rfl) (by simp) ?_
            refine AllReadyH.cons (o := { dst := some 39, op := Op.buildSlice 43 1 #[(0, Operand.tmp 38)], type := 43, pos := "law.go:111", after := #[{ on := 2, ground := Ground.data }], guard := none }) rfl (fun K hK => ?_) ?_
            · go_simp
              refine hK.out _ _ trivial (fun hHeld => ?_)
              clear hK K
              try simp only [Act.put, List.setIfInBounds_toArray, List.set_cons_zero, List.set_cons_succ]
              refine wpAnyH_ready (rs := [4]) (by kernel_rfl) (by simp) ?_
              refine AllReadyH.cons (o := { dst := some 40, op := Op.call { callee := Callee.builtin Builtin.append, args := #[Operand.tmp 36, Operand.tmp 39], argTypes := #[43, 43] }, type := 43, pos := "law.go:111", after := #[{ on := 0, ground := Ground.data }, { on := 3, ground := Ground.data }], guard := none }) rfl (fun K hK => ?_) ?_
              · (((refine step_app1 (by rfl) (.tmp 36) (.tmp 39) (by rfl) (w0 := W0) (z := 9) (by (repeat (first | with_reducible exact HO3.out | with_reducible exact HO2.out | with_reducible exact HO1.out | with_reducible exact HO0.out | with_reducible apply OwnU.drew | with_reducible apply OwnU.alloc))) (by rfl) (by rfl) (by (repeat (first | with_reducible exact HO3.out | with_reducible exact HO2.out | with_reducible exact HO1.out | with_reducible exact HO0.out | with_reducible apply OwnU.drew | with_reducible apply OwnU.alloc | with_reducible apply CellU.drew | ((with_reducible apply CellU.new2 (w0 := W0)); focus (simp; done)) | with_reducible apply CellU.alloc | with_reducible refine HC2.out _ _ ?_ | with_reducible refine HC1.out _ _ ?_))) 9 rfl (by first | exact hl1) ?_); intro v1 x1 HO1 HC1))
                refine hK.out _ _ trivial (fun hHeld => ?_)
                clear hK K
                try simp only [Act.put, List.setIfInBounds_toArray, List.set_cons_zero, List.set_cons_succ]
                refine wpAnyH_ready (rs := [6]) (by kernel_rfl) (by simp) ?_
                refine AllReadyH.cons (o := { dst := some 42, op := Op.call { callee := Callee.builtin Builtin.append, args := #[Operand.tmp 40, Operand.tmp 41], argTypes := #[43, 43] }, type := 43, pos := "law.go:111", after := #[{ on := 4, ground := Ground.data }, { on := 5, ground := Ground.data }, { on := 4, ground := Ground.chain }], guard := none }) rfl (fun K hK => ?_) ?_
                · (((refine step_app1 (by rfl) (.tmp 40) (.tmp 41) (by rfl) (w0 := W0) (z := 44) (by (repeat (first | with_reducible exact HO3.out | with_reducible exact HO2.out | with_reducible exact HO1.out | with_reducible exact HO0.out | with_reducible apply OwnU.drew | with_reducible apply OwnU.alloc))) (by rfl) (by rfl) (by (repeat (first | with_reducible exact HO3.out | with_reducible exact HO2.out | with_reducible exact HO1.out | with_reducible exact HO0.out | with_reducible apply OwnU.drew | with_reducible apply OwnU.alloc | with_reducible apply CellU.drew | ((with_reducible apply CellU.new2 (w0 := W0)); focus (simp; done)) | with_reducible apply CellU.alloc | with_reducible refine HC2.out _ _ ?_ | with_reducible refine HC1.out _ _ ?_))) 44 rfl (by first | exact hl2) ?_); intro v2 x2 HO2 HC2))
                  refine hK.out _ _ trivial (fun hHeld => ?_)
                  clear hK K
                  try simp only [Act.put, List.setIfInBounds_toArray, List.set_cons_zero, List.set_cons_succ]
                  refine wpAnyH_ready (rs := [10]) (by kernel_rfl) (by simp) ?_
                  refine AllReadyH.cons (o := { dst := some 46, op := Op.call { callee := Callee.builtin Builtin.append, args := #[Operand.tmp 42, Operand.tmp 45], argTypes := #[43, 43] }, type := 43, pos := "law.go:111", after := #[{ on := 6, ground := Ground.data }, { on := 9, ground := Ground.data }, { on := 6, ground := Ground.chain }], guard := none }) rfl (fun K hK => ?_) ?_
                  · (((refine step_app1 (by rfl) (.tmp 42) (.tmp 45) (by rfl) (w0 := W0) (z := 9) (by (repeat (first | with_reducible exact HO3.out | with_reducible exact HO2.out | with_reducible exact HO1.out | with_reducible exact HO0.out | with_reducible apply OwnU.drew | with_reducible apply OwnU.alloc))) (by rfl) (by rfl) (by (repeat (first | with_reducible exact HO3.out | with_reducible exact HO2.out | with_reducible exact HO1.out | with_reducible exact HO0.out | with_reducible apply OwnU.drew | with_reducible apply OwnU.alloc | with_reducible apply CellU.drew | ((with_reducible apply CellU.new2 (w0 := W0)); focus (simp; done)) | with_reducible apply CellU.alloc | with_reducible refine HC2.out _ _ ?_ | with_reducible refine HC1.out _ _ ?_))) 9 rfl (by first | exact hl3) ?_); intro v3 x3 HO3 HC3))
                    refine hK.out _ _ trivial (fun hHeld => ?_)
                    clear hK K
                    try simp only [Act.put, List.setIfInBounds_toArray, List.set_cons_zero, List.set_cons_succ]
                    refine wpAnyH_take (i := 11) (oi := { dst := some 9, op := Op.assign (Operand.tmp 46), type := 43, pos := "law.go:111", after := #[{ on := 10, ground := Ground.data }, { on := 10, ground := Ground.chain }, { on := 0, ground := Ground.phase }, { on := 1, ground := Ground.phase }, { on := 2, ground := Ground.phase }, { on := 3, ground := Ground.phase }, { on := 4, ground := Ground.phase }, { on := 5, ground := Ground.phase }, { on := 6, ground := Ground.phase }, { on := 7, ground := Ground.phase }, { on := 8, ground := Ground.phase }, { on := 9, ground := Ground.phase }, { on := 10, ground := Ground.phase }], guard := none }) (v := v3) rfl (by kernel_rfl) (by kernel_rfl) (by kernel_rfl) (fun _ _ _ h => h) (Or.inl ⟨by rfl, ?_⟩) (by assumption) ?_
                    · intro w hSw; (try dsimp only at hSw); (try go_simp); try with_reducible rfl
                    try simp only [Act.put, List.setIfInBounds_toArray, List.set_cons_zero, List.set_cons_succ]
                    refine wpAnyH_done (by kernel_rfl) ?_ _
                    refine NoPanic.normal ?_
                    clear hHeld HO1 HO2 HC1 HC2 HC3
                    go_wp2_with fail
                    go_roundw
                    case rel => exact ⟨k + 1, by omega, by go_num, by rw [HT2.out]; exact HO3.out⟩
                    case measure => simp [intOf]; omega
                  exact AllReadyH.nil
                exact AllReadyH.nil
              exact AllReadyH.nil
            exact AllReadyH.nil
          exact AllReadyH.nil
        exact AllReadyH.nil
      · obtain ⟨n, hn⟩ : ∃ n, u.toNat = n := ⟨_, rfl⟩
        have hun : s[k].toNat = n := by rw [hu]; exact hn
        have hnq : ((n : Int) == 44) = false := beq_eq_false_iff_ne.2 (fun h => h44 (UInt8.toNat_inj.1 (by rw [hn]; show n = 44; omega)))
        have HU : Hid ((u.toNat : Int) = (n : Nat)) := Lib.hid (by rw [hn])
        have HT2 : Hid (pad 9 (s.data.toList.take (k + 1)) = pad 9 (s.data.toList.take k) ++ [u]) := Lib.hid (by rw [HT.out, pad_cons 9 u [] h44]; rfl)
        clear hu HT hn h44
        go_wp2_with (at_builtin; refine wpList_app1 rfl _ _ rfl (HO0.out.alloc _) rfl rfl (CellU.new HO0.out (by simp)) u HU.out hl1 ?_; intro v1 x1 HO1 HC1)
        go_roundw
        case rel => exact ⟨k + 1, by omega, by go_num, by rw [HT2.out]; exact HO1.out⟩
        case measure => simp [intOf]; omega
    · obtain rfl : k = s.size := by omega
      have hcv := conv_own HO0.out
      rw [List.take_of_length_le (by rw [HLE.out]; exact Nat.le_refl _), HPL.out] at hcv
      have K3 := Lib.hid (K2.out.call HO0.out.2)
      have P3 := Lib.hid (blkKeep P2.out HO0.out.2)
      clear HO0 K2 P2
      have HF0 := Lib.hid (fun (W : World) (h : LaidI W) => textP o a b c m W h)
      have HR := Lib.hid (fun (W : World) h => rightP o a b c m W h)
      go_wp2_with fail
      refine (HP3.out _ K3.out.laid).mono ?_; rintro e3 w3 ⟨rfl, hb⟩
      have K4 := Lib.hid ((K3.out.call hb).alloc (.cells #[.int .i64 o, .int .i64 a, .int .i64 b, .int .i64 c, .int .i64 m] 23))
      have P4 := Lib.hid (blkNew (blkKeep P3.out hb) (.cells #[.int .i64 o, .int .i64 a, .int .i64 b, .int .i64 c, .int .i64 m] 23))
      have Q4 := Lib.hid (block_new w3 (.cells #[.int .i64 o, .int .i64 a, .int .i64 b, .int .i64 c, .int .i64 m] 23))
      clear hb K3 P3 HP3
      have p0 : (w3.alloc (.cells #[.int .i64 o, .int .i64 a, .int .i64 b, .int .i64 c, .int .i64 m] 23)).cell? ⟨p6, 0, none⟩ = some (.int .i64 o) := blk_cell P4.out 0
      have p1 : (w3.alloc (.cells #[.int .i64 o, .int .i64 a, .int .i64 b, .int .i64 c, .int .i64 m] 23)).cell? ⟨p6, 1, none⟩ = some (.int .i64 a) := blk_cell P4.out 1
      have p2 : (w3.alloc (.cells #[.int .i64 o, .int .i64 a, .int .i64 b, .int .i64 c, .int .i64 m] 23)).cell? ⟨p6, 2, none⟩ = some (.int .i64 b) := blk_cell P4.out 2
      have p3 : (w3.alloc (.cells #[.int .i64 o, .int .i64 a, .int .i64 b, .int .i64 c, .int .i64 m] 23)).cell? ⟨p6, 3, none⟩ = some (.int .i64 c) := blk_cell P4.out 3
      have p4 : (w3.alloc (.cells #[.int .i64 o, .int .i64 a, .int .i64 b, .int .i64 c, .int .i64 m] 23)).cell? ⟨p6, 4, none⟩ = some (.int .i64 m) := blk_cell P4.out 4
      have q0 : (w3.alloc (.cells #[.int .i64 o, .int .i64 a, .int .i64 b, .int .i64 c, .int .i64 m] 23)).cell? ⟨w3.heap.size, 0, none⟩ = some (.int .i64 o) := blk_cell Q4.out 0
      have q1 : (w3.alloc (.cells #[.int .i64 o, .int .i64 a, .int .i64 b, .int .i64 c, .int .i64 m] 23)).cell? ⟨w3.heap.size, 1, none⟩ = some (.int .i64 a) := blk_cell Q4.out 1
      have q2 : (w3.alloc (.cells #[.int .i64 o, .int .i64 a, .int .i64 b, .int .i64 c, .int .i64 m] 23)).cell? ⟨w3.heap.size, 2, none⟩ = some (.int .i64 b) := blk_cell Q4.out 2
      have q3 : (w3.alloc (.cells #[.int .i64 o, .int .i64 a, .int .i64 b, .int .i64 c, .int .i64 m] 23)).cell? ⟨w3.heap.size, 3, none⟩ = some (.int .i64 c) := blk_cell Q4.out 3
      have q4 : (w3.alloc (.cells #[.int .i64 o, .int .i64 a, .int .i64 b, .int .i64 c, .int .i64 m] 23)).cell? ⟨w3.heap.size, 4, none⟩ = some (.int .i64 m) := blk_cell Q4.out 4
      rcases HCS.out with ⟨rfl, hri⟩ | ⟨rfl, rfl, rfl, rfl, rfl, he⟩
      · have hpt := parse_text hri
        have HPP : Hid (∀ W : World, LaidI W → Calls Tryd.prog 13 #[.string (arr (textL ⟨o, a, b, c, m⟩))] W fun e' w' => e' = .returned (.tuple #[.agg #[.int .i64 o, .int .i64 a, .int .i64 b, .int .i64 c, .int .i64 m], .int .i64 0]) ∧ Below W.heap.size W w') := Lib.hid (fun (W : World) (h : LaidI W) => by
          have := parseP (arr (textL ⟨o, a, b, c, m⟩)) W (by rw [arr_size]; have := text_len hri; omega) h (by
            rw [arr_list, text_trim hri]
            exact idxAny_ascii _ (by rw [arr_size]; have := text_len hri; omega) (fun j b hb => text_ascii hri b (List.mem_of_getElem? hb)))
          rw [arr_list, hpt] at this
          exact this)
        rw [hri] at HR
        obtain ⟨ti, hti⟩ : ∃ x, arr (textL ⟨o, a, b, c, m⟩) = x := ⟨_, rfl⟩
        rw [hti] at HPP HF0
        clear hti hpt hri
        go_wp2_with fail
        refine (HF0.out _ K4.out.laid).mono ?_; rintro e4 w4 ⟨rfl, hb⟩
        have K5 := Lib.hid (K4.out.call hb)
        have P5 := Lib.hid (blkKeep P4.out hb)
        clear hb p0 p1 p2 p3 p4 q0 q1 q2 q3 q4
        go_wp2_with fail
        refine (HPP.out _ K5.out.laid).mono ?_; rintro e5 w5 ⟨rfl, hb⟩
        have K6 := Lib.hid ((K5.out.call hb).alloc (.cells #[.int .i64 o, .int .i64 a, .int .i64 b, .int .i64 c, .int .i64 m] 23))
        have P6 := Lib.hid (blkNew (blkKeep P5.out hb) (.cells #[.int .i64 o, .int .i64 a, .int .i64 b, .int .i64 c, .int .i64 m] 23))
        have Q6 := Lib.hid (block_new w5 (.cells #[.int .i64 o, .int .i64 a, .int .i64 b, .int .i64 c, .int .i64 m] 23))
        clear hb
        have p0 : (w5.alloc (.cells #[.int .i64 o, .int .i64 a, .int .i64 b, .int .i64 c, .int .i64 m] 23)).cell? ⟨p6, 0, none⟩ = some (.int .i64 o) := blk_cell P6.out 0
        have p1 : (w5.alloc (.cells #[.int .i64 o, .int .i64 a, .int .i64 b, .int .i64 c, .int .i64 m] 23)).cell? ⟨p6, 1, none⟩ = some (.int .i64 a) := blk_cell P6.out 1
        have p2 : (w5.alloc (.cells #[.int .i64 o, .int .i64 a, .int .i64 b, .int .i64 c, .int .i64 m] 23)).cell? ⟨p6, 2, none⟩ = some (.int .i64 b) := blk_cell P6.out 2
        have p3 : (w5.alloc (.cells #[.int .i64 o, .int .i64 a, .int .i64 b, .int .i64 c, .int .i64 m] 23)).cell? ⟨p6, 3, none⟩ = some (.int .i64 c) := blk_cell P6.out 3
        have p4 : (w5.alloc (.cells #[.int .i64 o, .int .i64 a, .int .i64 b, .int .i64 c, .int .i64 m] 23)).cell? ⟨p6, 4, none⟩ = some (.int .i64 m) := blk_cell P6.out 4
        go_wp2_with fail
        refine (HR.out _ K6.out.laid.forms).mono ?_; rintro e6 w6 ⟨rfl, hb⟩
        have HG : Hid (GoalIZb w (.returned (.bool true)) w6) := Lib.hid ⟨rfl, (K6.out.call hb).below⟩
        have P7 := Lib.hid (blkKeep P6.out hb)
        have Q7 := Lib.hid (blkKeep Q6.out hb)
        clear hb p0 p1 p2 p3 p4
        have p0 : w6.cell? ⟨p6, 0, none⟩ = some (.int .i64 o) := blk_cell P7.out 0
        have p1 : w6.cell? ⟨p6, 1, none⟩ = some (.int .i64 a) := blk_cell P7.out 1
        have p2 : w6.cell? ⟨p6, 2, none⟩ = some (.int .i64 b) := blk_cell P7.out 2
        have p3 : w6.cell? ⟨p6, 3, none⟩ = some (.int .i64 c) := blk_cell P7.out 3
        have p4 : w6.cell? ⟨p6, 4, none⟩ = some (.int .i64 m) := blk_cell P7.out 4
        have q0 : w6.cell? ⟨w5.heap.size, 0, none⟩ = some (.int .i64 o) := blk_cell Q7.out 0
        have q1 : w6.cell? ⟨w5.heap.size, 1, none⟩ = some (.int .i64 a) := blk_cell Q7.out 1
        have q2 : w6.cell? ⟨w5.heap.size, 2, none⟩ = some (.int .i64 b) := blk_cell Q7.out 2
        have q3 : w6.cell? ⟨w5.heap.size, 3, none⟩ = some (.int .i64 c) := blk_cell Q7.out 3
        have q4 : w6.cell? ⟨w5.heap.size, 4, none⟩ = some (.int .i64 m) := blk_cell Q7.out 4
        go_wp2_with fail
        go_ret
        exact HG.out
      · have HG : Hid (GoalIZb w (.returned (.bool true)) (w3.alloc (.cells #[.int .i64 0, .int .i64 0, .int .i64 0, .int .i64 0, .int .i64 0] 23))) := Lib.hid ⟨rfl, K4.out.below⟩
        rcases he with rfl | rfl
        · go_wp2_with fail
          go_ret
          exact HG.out
        · go_wp2_with fail
          go_ret
          exact HG.out
end Go.Proofs.YtijcdhkojidgeaaDoor.isaParses
