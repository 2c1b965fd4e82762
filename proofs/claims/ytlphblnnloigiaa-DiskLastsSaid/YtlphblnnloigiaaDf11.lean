/-
  Layer 6: Write.
-/
import Derived.Test.YtlphblnnloigiaaDf10
import Derived.Deep.AppendLies
namespace Go.Proofs.Ytlphblnnloigiaa
set_option linter.unusedVariables false
set_option linter.unusedSimpArgs false
open Go.RowKit

structure WrAt (B : Nat → Prop) (w : World) (db : Nat) (s : Dk) (F a0 : Nat) (t0 : ByteArray) (a : Nat) (t : ByteArray) (P : List Pc) (wl : World) : Prop where
  op : Op B w wl db { s with pend := P }
  eq : P ++ pcs F t.size a t = s.pend ++ pcs F t0.size a0 t0
  sz : a + t.size = a0 + t0.size
  ln : P.length + t.size ≤ 1000000
def WrRel (B : Nat → Prop) (w : World) (db : Nat) (s : Dk) (F a0 : Nat) (t0 : ByteArray) (x y : Value) (wl : World) : Prop := ∃ (a : Nat) (t : ByteArray) (P : List Pc), x = .int .i64 a ∧ y = .string t ∧ WrAt B w db s F a0 t0 a t P wl
def strSize (v : Value) : Nat := match v with | .string t => t.size | _ => 0
theorem WrAt.next {B : Nat → Prop} {w : World} {db : Nat} {s : Dk} {F a0 : Nat} {t0 : ByteArray} {a : Nat} {t : ByteArray} {P : List Pc} {wl : World} (h : WrAt B w db s F a0 t0 a t P wl) (h0 : 0 < t.size) (n : Nat) (hn : n = min t.size (32 - a % 32)) (w2 : World)
    (ho : Op B w w2 db { s with pend := P ++ [⟨F, a, t.extract 0 n⟩] }) : WrAt B w db s F a0 t0 (a + n) (t.extract n t.size) (P ++ [⟨F, a, t.extract 0 n⟩]) w2 := by
  have h1 := h.sz
  have h2 := h.ln
  refine ⟨ho, ?_, ?_, ?_⟩
  · rw [← h.eq, pcs_step F a t h0, ← hn, List.append_assoc]; rfl
  · simp; omega
  · simp; omega

set_option maxRecDepth 100000 in
set_option maxHeartbeats 8000000 in
theorem rawP {B : Nat → Prop} {w : World} {db : Nat} {s : Dk} (h : DiskAt B w db s) (f a : Int) (t : ByteArray) (hn : s.pend.length + t.size ≤ 1000000) :
    Calls Try.prog 29 #[.pointer (some ⟨db, 0, none⟩), .int .i64 f, .int .i64 a, .string t] w fun e w' => e = .returned (.int .i64 (s.raw f a t).1) ∧ Op B w w' db (s.raw f a t).2 := by
  have hb0 := below_new w (.cells #[.int .i64 f] 3)
  have HK := Lib.hid (checkP (h.below hb0) (.slice (some ⟨w.heap.size, 0, none⟩) 1 1) [f] (irow_new1 w f) (by simp))
  rw [chk_one] at HK
  have HR : Hid (s.raw f a t = if s.down = true then (10, s) else if isF f = false then (1, s) else if a < 0 then (1, s) else if 16777216 - (t.size : Int) < a then (7, s) else (0, { s with pend := s.pend ++ pcs f.toNat t.size a.toNat t })) := rfl
  have HO0 : Hid (Op B w (w.alloc (.cells #[.int .i64 f] 3)) db s) := Op.below (Op.refl h) hb0
  generalize s.raw f a t = R at *
  have hcs := chk_cases s f
  have hcd : s.chk f = if s.down = true then 10 else if isF f = false then 1 else 0 := rfl
  clear hb0
  rcases hcs with hc | hc | ⟨hc, hdn, hf0, hf8⟩
  · have HR3 : Hid (R = (10, s)) := by
      show _ = _
      rw [HR.out]
      cases hd : s.down
      · rw [hc, hd] at hcd; cases hf : isF f <;> rw [hf] at hcd <;> simp at hcd
      · rfl
    rw [hc] at HK
    clear hc hcd HR h
    go_enter Try.func29, Try.ntmps29
    go_wp2_with fail
    refine HK.out.mono ?_; rintro e w1 ⟨rfl, rfl⟩
    go_wp2_with fail
    go_ret
    exact ⟨by rw [HR3.out]; rfl, by rw [HR3.out]; exact HO0.out⟩
  · have HR3 : Hid (R = (1, s)) := by
      show _ = _
      rw [HR.out]
      cases hd : s.down
      · cases hf : isF f
        · rfl
        · rw [hc, hd, hf] at hcd; simp at hcd
      · rw [hc, hd] at hcd; simp at hcd
    rw [hc] at HK
    clear hc hcd HR h
    go_enter Try.func29, Try.ntmps29
    go_wp2_with fail
    refine HK.out.mono ?_; rintro e w1 ⟨rfl, rfl⟩
    go_wp2_with fail
    go_ret
    exact ⟨by rw [HR3.out]; rfl, by rw [HR3.out]; exact HO0.out⟩
  · rw [hc] at HK
    rw [hdn, if_neg (by simp), if_neg (by simp [isF, hf0, hf8])] at HR
    clear hc hcd
    obtain ⟨F, rfl⟩ : ∃ F : Nat, f = F := ⟨f.toNat, by omega⟩
    have hF : F < 8 := by omega
    have htz : t.size ≤ 1000000 := by omega
    by_cases ha0 : a < 0
    · have HR3 : Hid (R = (1, s)) := by show _ = _; rw [HR.out, if_pos ha0]
      clear HR h
      go_enter Try.func29, Try.ntmps29
      go_wp2_with fail
      refine HK.out.mono ?_; rintro e w1 ⟨rfl, rfl⟩
      go_wp2_with fail
      go_ret
      exact ⟨by rw [HR3.out]; rfl, by rw [HR3.out]; exact HO0.out⟩
    · rw [if_neg ha0] at HR
      by_cases ha1 : 16777216 - (t.size : Int) < a
      · have HR3 : Hid (R = (7, s)) := by show _ = _; rw [HR.out, if_pos ha1]
        clear HR h
        go_enter Try.func29, Try.ntmps29
        go_wp2_with fail
        refine HK.out.mono ?_; rintro e w1 ⟨rfl, rfl⟩
        go_wp2_with fail
        go_ret
        exact ⟨by rw [HR3.out]; rfl, by rw [HR3.out]; exact HO0.out⟩
      · obtain ⟨a0, rfl⟩ : ∃ a0 : Nat, a = a0 := ⟨a.toNat, by omega⟩
        have HR3 : Hid (R = (0, { s with pend := s.pend ++ pcs F t.size a0 t })) := by
          show _ = _
          rw [HR.out, if_neg ha1, show ((F : Int)).toNat = F by omega, show ((a0 : Int)).toNat = a0 by omega, hdn]
        have hsz : a0 + t.size ≤ 16777216 := by omega
        have HW0 : Hid (WrAt B w db s F a0 t a0 t s.pend (w.alloc (.cells #[.int .i64 (F : Int)] 3))) := ⟨HO0.out, rfl, rfl, hn⟩
        have HOK := Lib.hid h.ok
        have dd1 : decide ((a0 : Int) < 0) = false := by rw [decide_eq_false_iff_not]; omega
        have dd2 : decide (16777216 - (t.size : Int) < (a0 : Int)) = false := by rw [decide_eq_false_iff_not]; omega
        clear HR h
        go_enter Try.func29, Try.ntmps29
        go_wp2_with fail
        refine HK.out.mono ?_; rintro e w1 ⟨rfl, rfl⟩
        clear HK
        go_wp2_with fail
        go_loopw [2, 3, 10] (fun x y _ wl => WrRel B w db s F a0 t x y wl) (fun _ y _ _ => strSize y)
        case atStart => exact ⟨a0, t, s.pend, rfl, rfl, HW0.out⟩
        case round =>
          obtain ⟨a, u, P, rfl, rfl, hW⟩ := hrel
          have hsz2 := hW.sz
          have hln := hW.ln
          by_cases hu0 : u.size = 0
          · have hu : u = bs [] := by
              rw [← bs_data u]
              congr 1
              exact List.eq_nil_of_length_eq_zero (by rw [dl_len]; omega)
            have e1 : u.toList = [] := by rw [hu, Lib.toList_data]; rfl
            have HF : Hid (Op B w wr db { s with pend := s.pend ++ pcs F t.size a0 t }) := by
              have h1 := hW.eq
              rw [pcs_zero F a u hu0, List.append_nil] at h1
              rw [← h1]; exact Lib.hid hW.op
            clear hW hu
            go_wp2_with fail
            go_ret
            exact ⟨by rw [HR3.out]; rfl, by rw [HR3.out]; exact HF.out⟩
          · have hu1 : 0 < u.size := by omega
            have e1 : ¬ u.toList = [] := fun e => hu0 (by rw [← dl_len, ← Lib.toList_data, e]; rfl)
            have e2 : u.toList.isEmpty = false := by
              cases h : u.toList with
              | nil => exact absurd h e1
              | cons a b => rfl
            have e3 : (!u.toList.isEmpty) = true := by rw [e2]; rfl
            obtain ⟨n, hnn⟩ : ∃ n, n = min u.size (32 - a % 32) := ⟨_, rfl⟩
            have hN : min (u.size : Int) (32 - (a : Int) % 32) = (n : Int) := by omega
            have hn1 : n ≤ u.size := by omega
            have hn2 : 0 < n := by omega
            have HNN := Lib.hid hnn
            have HW := Lib.hid hW
            have HNI := Lib.hid hN
            have a1 : (a : Int) ≤ 16777216 := by omega
            clear hW hnn hN
            go_wp2_with fail
            rw [HNI.out]
            obtain ⟨h0, v, uu, d, hv, huu⟩ := HW.out.op.at_
            have c8 := d.c_tail.1
            have f8 := d.free 8
            obtain ⟨i0, hi, hz0, hz1, hz2⟩ := info_parts infoP
            have c8d : wr.drew.cell? ⟨db, 8, none⟩ = some v := c8
            have c8a : (wr.alloc (.cells #[.int .i64 F, .int .i64 a, .string (u.extract 0 n)] 54)).drew.cell? ⟨db, 8, none⟩ = some v := keep_below (below_new wr _) c8
            have HOW : Hid (OwnP wr v P) := d.own
            have HL1 : Hid (P.length + 1 ≤ maxLen) := Lib.hid (by unfold maxLen; omega)
            have HL2 : Hid ((P.length + 1) * 32 ≤ 140737488355328) := Lib.hid (by omega)
            have HA : Hid (∀ (v' : Value) (w2 : World), w2.ownsRow 0 54 3 v' (P.length + 1) (pc P ++ [.int .i64 F, .int .i64 a, .string (u.extract 0 n)]) → (wr.alloc (.cells #[.int .i64 F, .int .i64 a, .string (u.extract 0 n)] 54)).drew.grownBy w2 v.ownBlock → (v'.ownBlock = v.ownBlock ∨ v'.ownBlock = some (wr.heap.size + 1)) → w2.cell? ⟨db, 8, none⟩ = some v ∧ w2.frozen? ⟨db, 8, none⟩ = false ∧ Op B w (w2.setCell ⟨db, 8, none⟩ v') db { s with pend := P ++ [⟨F, a, u.extract 0 n⟩] }) := fun v' w2 h1 h2 h3 => by
              have hg : wr.grownBy w2 v.ownBlock := grown_trans (grown_below (below_new wr _) _) ⟨h2.os, h2.tape, h2.output, h2.size, h2.block⟩
              have hown : OwnP w2 v' (P ++ [⟨F, a, u.extract 0 n⟩]) := by
                unfold OwnP
                rw [List.length_append, pc_append]; exact h1
              have hbl := hg.block db d.bx.lt (fun e => d.n1 e.symm)
              have hok : Dk.ok { s with pend := P ++ [⟨F, a, u.extract 0 n⟩] } := by
                have hk := d.ok
                refine ⟨hk.dl, hk.ds, fun p hp => ?_, ?_, hk.kn, hk.lo, hk.ca⟩
                · rcases List.mem_append.1 hp with hp | hp
                  · exact hk.ps p hp
                  · rw [List.mem_singleton] at hp
                    subst hp
                    have := HNN.out
                    refine ⟨hF, ?_, ?_, ?_⟩ <;> simp <;> omega
                · simp; omega
              have hbk : ∀ k, v'.ownBlock = some k → v.ownBlock = some k ∨ wr.heap.size ≤ k := fun k hk => by
                rcases h3 with h3 | h3
                · exact .inl (by rw [← h3]; exact hk)
                · rw [h3] at hk; injection hk with hk; exact .inr (by omega)
              have hrp := DAt.repend (s := { s with pend := P }) h0 d hv huu hg hown hbk hok
              refine ⟨?_, ?_, HW.out.op.trans hrp⟩
              · rw [← c8]; unfold World.cell?; rw [hbl]
              · rw [← f8]; unfold World.frozen?; rw [hbl]
            have s1 : (0 : Int) ≤ (n : Int) := by omega
            have s2 : (n : Int) ≤ (u.size : Int) := by omega
            have s3 : ((n : Int)).toNat = n := by omega
            clear d f8
            go_region_law ((refine step_append_lies _ (by rfl) _ _ _ (by rfl) 0 54 i0 (.agg #[.int .i64 0, .int .i64 0, .string (bs [])]) 3 32 Try.underlying48 hi hz0 hz1 hz2 rfl (by omega) _ _ _ (by rfl) ((HOW.out.alloc _).drew) ⟨wr.heap.size, 0, none⟩ 1 1 [.int .i64 F, .int .i64 a, .string (u.extract 0 n)] (by rfl) (by rfl) (World.news_of_block (cs := #[.int .i64 F, .int .i64 a, .string (u.extract 0 n)]) (t := 54) (fr := (0, 0)) (heap_alloc_new wr _)) (by simp [Value.oneCell']) (by omega) HL1.out HL2.out (Nat.zero_le _) (wr.heap.size + 1) (by simp) ?_; intro gg cap3 w3 hown3 hgrow3 hat3 hlt3; obtain ⟨hc3, hf3, hn3⟩ := HA.out _ w3 hown3 hgrow3 (by rcases hat3 with h8 | h8; exact .inl h8.symm; exact .inr (by rw [h8]; rfl)); replace hn3 := Lib.hid hn3; clear hown3 hgrow3 hat3 hlt3))
            all_goals
              have HNX := Lib.hid (HW.out.next hu1 n HNN.out _ hn3.out)
              obtain ⟨W5, hW5⟩ : ∃ W5, w3.setCell ⟨db, 8, none⟩ (.slice (some ⟨gg, 0, none⟩) (P.length + 1) cap3) = W5 := ⟨_, rfl⟩
              rw [hW5] at HNX ⊢
              have HSZ : Hid ((u.extract n u.size).size = u.size - n) := by show _ = _; simp
              clear c8 c8d c8a hc3 hf3 hn3 hW5
              have e5 : IntKind.i64.wrap ((a : Int) + (n : Int)) = (a : Int) + (n : Int) := IntWalk.i64_in _ (by omega)
              go_wp2_with fail
              go_quiet (fail)
              clear e5
              have HNY : Hid (WrAt B w db s F a0 t (a + n) (u.extract n u.size) (P ++ [⟨F, a, u.extract 0 n⟩]) (W5.drewN nq)) := ⟨HNX.out.op.below (below_drewN _ _), HNX.out.eq, HNX.out.sz, HNX.out.ln⟩
              go_wp2_with fail
              go_roundw
              case rel => exact ⟨a + n, u.extract n u.size, _, by go_num, rfl, HNY.out⟩
              case measure => simp only [strSize]; rw [HSZ.out]; omega
end Go.Proofs.Ytlphblnnloigiaa
