/-
  Contracts of strings.IndexByte at the digits, and of the program's Hex and Unhex.
-/
import Derived.Test.YtcekmedfphmpcaaDoorHexRef
import Derived.Laws.StandIn
import Derived.Lib.Bytealg
namespace Go.Proofs.YtcekmedfphmpcaaDoor
set_option linter.unusedVariables false
set_option linter.unusedSimpArgs false
open Go.RowKit

def digs : List UInt8 := [48, 49, 50, 51, 52, 53, 54, 55, 56, 57, 97, 98, 99, 100, 101, 102]
/-- The place of a digit, or -1. -/
def hexi (c : UInt8) : Int := if hexv c < 16 then hexv c else -1
theorem index_all : ∀ n, n < 256 → Lib.indexByte digs (UInt8.ofNat n) = hexi (UInt8.ofNat n) := by decide +kernel
theorem index_digs (c : UInt8) : Lib.indexByte digs c = hexi c := by
  have h := index_all c.toNat c.toNat_lt
  rw [UInt8.ofNat_toNat] at h; exact h

theorem entry (s : ByteArray) (c : UInt8) (w : World) : (callFunc 35 #[.string s, .int .u8 (c.toNat : Nat)]).run Tryd.prog w = .ok (.value (.int .i64 (Lib.indexByte s.data.toList c))) w := by
  rw [run_callFunc_indexByte Tryd.func35 (by kernel_rfl) (by kernel_rfl) (by kernel_rfl) (by kernel_rfl), Lib.run_indexByteString]
  have : (c.toNat : Int).toNat.toUInt8 = c := by simp
  rw [this]; rfl

set_option maxRecDepth 100000 in
theorem indexP (c : UInt8) (w : World) : Calls Tryd.prog 21 #[.string { data := #[48, 49, 50, 51, 52, 53, 54, 55, 56, 57, 97, 98, 99, 100, 101, 102] }, .int .u8 (c.toNat : Nat)] w fun e w' => e = .returned (.int .i64 (hexi c)) ∧ w = w' := by
  have he := fun w => entry { data := #[48, 49, 50, 51, 52, 53, 54, 55, 56, 57, 97, 98, 99, 100, 101, 102] } c w
  have hi : Lib.indexByte (#[48, 49, 50, 51, 52, 53, 54, 55, 56, 57, 97, 98, 99, 100, 101, 102] : Array UInt8).toList c = hexi c := index_digs c
  have he2 : ∀ w, (callFunc 35 #[.string { data := #[48, 49, 50, 51, 52, 53, 54, 55, 56, 57, 97, 98, 99, 100, 101, 102] }, .int .u8 (c.toNat : Nat)]).run Tryd.prog w = .ok (.value (.int .i64 (hexi c))) w := fun w => by rw [he w, hi]
  clear he hi
  go_enter Tryd.func21, Tryd.ntmps21
  go_wp2
  go_ret
  exact ⟨rfl, rfl⟩

theorem bits_and15_u8 (c : UInt8) : bits .and .u8 (c.toNat : Int) 15 = ((c.toNat % 16 : Nat) : Int) := by
  have : ∀ n, n < 256 → bits .and .u8 (((UInt8.ofNat n).toNat : Nat) : Int) 15 = (((UInt8.ofNat n).toNat % 16 : Nat) : Int) := by decide +kernel
  have h := this c.toNat c.toNat_lt
  rw [UInt8.ofNat_toNat] at h; exact h
theorem digs_run (n : Nat) (h : n < 16) (w : World) : (Instr.index 9 (.string { data := #[48, 49, 50, 51, 52, 53, 54, 55, 56, 57, 97, 98, 99, 100, 101, 102] }) (.int .u8 (n : Int))).run Tryd.prog w = .ok (.int .u8 ((hexd n).toNat : Nat)) w := by
  have hd : ∀ n (h : n < 16), (({ data := #[48, 49, 50, 51, 52, 53, 54, 55, 56, 57, 97, 98, 99, 100, 101, 102] } : ByteArray)[n]'h) = hexd n := by decide +kernel
  have hs : ({ data := #[48, 49, 50, 51, 52, 53, 54, 55, 56, 57, 97, 98, 99, 100, 101, 102] } : ByteArray).size = 16 := rfl
  rw [run_index_string _ _ _ _ _ Tryd.underlying9, dif_pos ⟨by omega, by rw [hs]; omega⟩, ← hd n h]
  rfl
theorem digs_at : ∀ n (h : n < 16), (({ data := #[48, 49, 50, 51, 52, 53, 54, 55, 56, 57, 97, 98, 99, 100, 101, 102] } : ByteArray)[n]'h) = hexd n := by decide +kernel

set_option maxRecDepth 100000 in
set_option maxHeartbeats 1000000 in
theorem hexP (l : List UInt8) (w : World) (hl : l.length ≤ 1000000) :
    Calls Tryd.prog 18 #[.string (bs l)] w fun e w' => e = .returned (.string (bs (hex l))) ∧ Below w.heap.size w w' := by
  obtain ⟨i0, hi0, hz0, hz1, hz2⟩ := info_parts info5
  obtain ⟨s, hS⟩ : ∃ s, bs l = s := ⟨_, rfl⟩
  have hsz : s.size = l.length := by rw [← hS, bs_size]
  have hs' : s.size ≤ 1000000 := by omega
  have hget : ∀ k (h : k < s.size) (h' : k < l.length), s[k] = l[k] := by subst hS; exact fun k h _ => bs_get l k h
  rw [hS]
  have HG := Lib.hid hget; clear hget
  have HZ := Lib.hid hsz; clear hsz
  have HS := Lib.hid hS; clear hS
  go_enter Tryd.func18, Tryd.ntmps18
  go_wp2_with (at_make; refine wpList_make_own _ rfl _ _ 30 rfl w.heap.size 5 i0 (.int .u8 0) 1 Tryd.underlying30 hi0 hz0 hz1 .i64 .i64 _ (2 * s.size) rfl rfl (by omega) (by rw [hz2]; omega) (by unfold maxLen; omega) (Nat.le_refl _) ?_; intro w0 hown0 hgrow0)
  have hB0 : Below w.heap.size w w0 := (Below.refl _ _).grown hgrow0 (Nat.le_refl _) (fun k hk => by cases hk)
  go_wp2_with fail
  go_loopw [3, 11] (fun b i wr => ∃ k : Nat, k ≤ s.size ∧ i = .int .i64 k ∧ wr.ownsRow w.heap.size 5 1 b (2 * k) (cl (hex (l.take k))) ∧ Below w.heap.size w wr) (fun _ i _ => s.size - (intOf i).toNat)
  case atStart => exact ⟨0, by omega, rfl, hown0, hB0⟩
  case round =>
    obtain ⟨k, hk, rfl, hown, hB⟩ := hrel
    have hbs := hB.size
    by_cases hlt : k < s.size
    · have hkl : k < l.length := by rw [← HZ.out]; exact hlt
      have HT := Lib.hid (take_hex l k hkl)
      have q0 : (0 : Int) ≤ k := by omega
      have q1 : (k : Int) < s.size := by omega
      have hc := s[k].toNat_lt
      have HGk := Lib.hid (HG.out k hlt hkl)
      have q2 := bits_and15_u8 s[k]
      have q3 : (0 : Int) ≤ (s[k].toNat : Int) / 16 := by omega
      have q4 : (s[k].toNat : Int) / 16 < 16 := by omega
      have q5 : (0 : Int) ≤ (s[k].toNat : Int) % 16 := by omega
      have q6 : (s[k].toNat : Int) % 16 < 16 := by omega
      have i1 : ∀ w, (Instr.index 9 (.string { data := #[48, 49, 50, 51, 52, 53, 54, 55, 56, 57, 97, 98, 99, 100, 101, 102] }) (.int .u8 ((s[k].toNat : Int) / 16))).run Tryd.prog w = .ok (.int .u8 ((hexd (s[k].toNat / 16)).toNat : Nat)) w := fun w => digs_run (s[k].toNat / 16) (by omega) w
      have i2 : ∀ w, (Instr.index 9 (.string { data := #[48, 49, 50, 51, 52, 53, 54, 55, 56, 57, 97, 98, 99, 100, 101, 102] }) (.int .u8 ((s[k].toNat : Int) % 16))).run Tryd.prog w = .ok (.int .u8 ((hexd (s[k].toNat % 16)).toNat : Nat)) w := fun w => digs_run (s[k].toNat % 16) (by omega) w
      go_wp2_with fail
      go_region_law (first
        | (refine step_append_lies _ (by rfl) _ _ _ (by rfl) w.heap.size 5 i0 (.int .u8 0) 1 1 Tryd.underlying30 hi0 hz0 hz1 hz2 rfl (by omega) _ _ _ (by rfl) ((hown.alloc _).drew) ⟨wr.heap.size, 0, none⟩ 2 2 [.int .u8 ((hexd (s[k].toNat / 16)).toNat : Nat), .int .u8 ((hexd (s[k].toNat % 16)).toNat : Nat)] (by rfl) (by rfl) (World.news_of_block (cs := #[.int .u8 ((hexd (s[k].toNat / 16)).toNat : Nat), .int .u8 ((hexd (s[k].toNat % 16)).toNat : Nat)]) (t := 5) (fr := (0, 0)) (heap_alloc_new wr _)) (by simp [Value.oneCell']) (by omega) (by unfold maxLen; omega) (by omega) (by simp; omega) (wr.heap.size + 1) (by simp) ?_; intro gg cap w3 hown3 hgrow3 hat3 hlt3))
      all_goals
        clear q2 q3 q4 q5 q6 i1 i2
        go_wp2_with fail
        go_roundw
        case rel => exact ⟨k + 1, by omega, by go_num, by rw [HT.out, cl_append, ← HGk.out]; exact hown3, ((hB.alloc hbs _).drew).grown hgrow3 (by simp; omega) (fun k hk => (hown.lt k hk).1)⟩
        case measure => simp [intOf]; omega
    · obtain rfl : k = s.size := by omega
      have hfull : l.take s.size = l := List.take_of_length_le (by rw [HZ.out]; omega)
      rw [hfull] at hown
      clear hfull
      have hcv := conv_any hown
      go_wp2_with fail
      go_ret
      exact ⟨rfl, hB⟩
end Go.Proofs.YtcekmedfphmpcaaDoor
