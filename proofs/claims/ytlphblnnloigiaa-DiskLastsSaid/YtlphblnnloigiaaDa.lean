/-
  Layer 6: the laws' operations: pick, do.
-/
import Derived.Test.YtlphblnnloigiaaDp
import Derived.IntWalk
namespace Go.Proofs.Ytlphblnnloigiaa
set_option linter.unusedVariables false
set_option linter.unusedSimpArgs false
open Go.RowKit

/-- An operation. -/
structure Ac where
  o : Int
  f : Int
  g : Int
  n : Int
  s : ByteArray
  keep : List Int
/-- What it does. -/
def Dk.act (s : Dk) (a : Ac) : ByteArray × Int × Dk :=
  if a.o % 11 = 0 ∨ a.o % 11 = 1 then (bs [], s.write a.f a.n a.s)
  else if a.o % 11 = 2 then (bs [], s.flush a.f)
  else if a.o % 11 = 3 then (bs [], s.cut a.f a.n)
  else if a.o % 11 = 4 then (bs [], s.turn a.f a.g)
  else if a.o % 11 = 5 then (bs [], 0, s.crash a.keep)
  else if a.o % 11 = 6 then (bs [], 0, s.lose a.n)
  else if a.o % 11 = 7 then (bs [], 0, s.start)
  else if a.o % 11 = 8 then ((s.read a.f).1, (s.read a.f).2, s)
  else if a.o % 11 = 10 then (bs [], 0, s.arm a.n a.keep)
  else (bs [], 0, s)
def av (a : Ac) (k : Value) : Value := .agg #[.int .i64 a.o, .int .i64 a.f, .int .i64 a.g, .int .i64 a.n, .string a.s, k]

theorem tmod11 (n : Int) : (0 ≤ n → n.tmod 11 = n % 11) ∧ (n < 0 → (n.tmod 11 < 0 → n.tmod 11 + 11 = n % 11) ∧ (¬ n.tmod 11 < 0 → n.tmod 11 = n % 11)) ∧ -11 < n.tmod 11 ∧ n.tmod 11 < 11 := by
  have h1 := Int.tmod_eq_emod (a := n) (b := 11)
  split at h1
  · omega
  · have : ¬ (11 : Int) = 0 := by omega
    simp at h1
    omega
set_option maxHeartbeats 1000000 in
theorem pickP (n : Int) (h0 : -9223372036854775808 ≤ n) (h1 : n ≤ 9223372036854775807) (w : World) : Calls Try.prog 8 #[.int .i64 n] w fun e w' => e = .returned (.int .i64 (n % 11)) ∧ w = w' := by
  obtain ⟨t1, t2, t3, t4⟩ := tmod11 n
  have HT : Hid ((n.tmod 11 < 0 → n.tmod 11 + 11 = n % 11) ∧ (¬ n.tmod 11 < 0 → n.tmod 11 = n % 11)) := by
    show _ ∧ _
    by_cases hn : 0 ≤ n
    · have := t1 hn; omega
    · exact t2 (by omega)
  obtain ⟨R, hR⟩ : ∃ R, n % 11 = R := ⟨_, rfl⟩
  rw [hR] at HT ⊢
  obtain ⟨T, hT⟩ : ∃ T, n.tmod 11 = T := ⟨_, rfl⟩
  rw [hT] at HT t3 t4
  have e1 : IntKind.i64.wrap (n.tmod 11) = T := by rw [hT]; exact IntWalk.i64_in _ (by omega)
  have e2 : IntKind.i64.wrap T = T := IntWalk.i64_in _ (by omega)
  clear t1 t2 hR
  by_cases hn : T < 0
  all_goals
    go_enter Try.func8, Try.ntmps8
    go_wp2_with fail
    go_ret
    refine ⟨?_, rfl⟩
    first | (rw [← HT.out.1 hn]; first | rfl | go_num) | (rw [← HT.out.2 hn]; first | rfl | go_num)

def DoPost (B : Nat → Prop) (w : World) (db : Nat) (r : ByteArray × Int × Dk) (e : Ending) (w' : World) : Prop := e = .returned (.tuple #[.string r.1, .int .i64 r.2.1]) ∧ Op B w w' db r.2.2
set_option maxRecDepth 100000 in
set_option maxHeartbeats 8000000 in
theorem doP {B : Nat → Prop} {w : World} {db : Nat} {s : Dk} (h : DiskAt B w db s) (a : Ac) (v : Value) (hr : IRow w w.heap.size v a.keep) (hk : a.keep.length ≤ 1000000) (hn : s.pend.length + a.s.size ≤ 1000000)
    (o0 : -9223372036854775808 ≤ a.o) (o1 : a.o ≤ 9223372036854775807) (n1 : a.n ≤ 9223372036854775807) :
    Calls Try.prog 9 #[.pointer (some ⟨db, 0, none⟩), av a v] w (DoPost B w db (s.act a)) := by
  obtain ⟨o, f, g, n, t, keep⟩ := a
  simp only at hr hk hn o0 o1 n1
  unfold av
  simp only
  have HR : Hid (s.act ⟨o, f, g, n, t, keep⟩ = if o % 11 = 0 ∨ o % 11 = 1 then (bs [], s.write f n t) else if o % 11 = 2 then (bs [], s.flush f) else if o % 11 = 3 then (bs [], s.cut f n) else if o % 11 = 4 then (bs [], s.turn f g) else if o % 11 = 5 then (bs [], 0, s.crash keep) else if o % 11 = 6 then (bs [], 0, s.lose n) else if o % 11 = 7 then (bs [], 0, s.start) else if o % 11 = 8 then ((s.read f).1, (s.read f).2, s) else if o % 11 = 10 then (bs [], 0, s.arm n keep) else (bs [], 0, s)) := rfl
  generalize s.act ⟨o, f, g, n, t, keep⟩ = R at *
  obtain ⟨A, cap, rfl, hrr⟩ := hr
  have hr : IRow w w.heap.size (.slice A keep.length cap) keep := ⟨A, cap, rfl, hrr⟩
  clear hrr
  have hb0 := below_new w (.cells #[.int .i64 o, .int .i64 f, .int .i64 g, .int .i64 n, .string t, .slice A keep.length cap] 30)
  have h1 := h.below hb0
  have hr1 := hr.keep hb0
  have HP := Lib.hid (fun w => pickP o o0 o1 w)
  have HB0 := Lib.hid hb0
  have hko : 0 ≤ o % 11 ∧ o % 11 < 11 := by omega
  obtain ⟨K, hK⟩ : ∃ K, o % 11 = K := ⟨_, rfl⟩
  rw [hK] at HR HP hko
  clear hK o0 o1 hb0 h hr
  have hc : K = 0 ∨ K = 1 ∨ K = 2 ∨ K = 3 ∨ K = 4 ∨ K = 5 ∨ K = 6 ∨ K = 7 ∨ K = 8 ∨ K = 9 ∨ K = 10 := by omega
  clear hko
  rcases hc with rfl | rfl | rfl | rfl | rfl | rfl | rfl | rfl | rfl | rfl | rfl
  · have HR2 : Hid (R = (bs [], s.write f n t)) := HR.out
    have HC := Lib.hid (writeP h1 f n t hn)
    clear h1 hr1 HR
    go_enter Try.func9, Try.ntmps9
    go_wp2_with fail
    refine (HP.out _).mono ?_; rintro e w1 ⟨rfl, rfl⟩
    go_wp2_with fail
    refine HC.out.mono ?_; rintro e w2 ⟨rfl, ho⟩
    have HO := Lib.hid (Op.pre HB0.out ho)
    clear ho
    go_wp2_with fail
    go_ret2
    exact ⟨by rw [HR2.out]; rfl, by rw [HR2.out]; exact HO.out⟩
  · have HR2 : Hid (R = (bs [], s.write f n t)) := HR.out
    have HC := Lib.hid (writeP h1 f n t hn)
    clear h1 hr1 HR
    go_enter Try.func9, Try.ntmps9
    go_wp2_with fail
    refine (HP.out _).mono ?_; rintro e w1 ⟨rfl, rfl⟩
    go_wp2_with fail
    refine HC.out.mono ?_; rintro e w2 ⟨rfl, ho⟩
    have HO := Lib.hid (Op.pre HB0.out ho)
    clear ho
    go_wp2_with fail
    go_ret2
    exact ⟨by rw [HR2.out]; rfl, by rw [HR2.out]; exact HO.out⟩
  · have HR2 : Hid (R = (bs [], s.flush f)) := HR.out
    have HC := Lib.hid (flushP h1 f)
    clear h1 hr1 HR
    go_enter Try.func9, Try.ntmps9
    go_wp2_with fail
    refine (HP.out _).mono ?_; rintro e w1 ⟨rfl, rfl⟩
    go_wp2_with fail
    refine HC.out.mono ?_; rintro e w2 ⟨rfl, ho⟩
    have HO := Lib.hid (Op.pre HB0.out ho)
    clear ho
    go_wp2_with fail
    go_ret2
    exact ⟨by rw [HR2.out]; rfl, by rw [HR2.out]; exact HO.out⟩
  · have HR2 : Hid (R = (bs [], s.cut f n)) := HR.out
    have HC := Lib.hid (cutPP h1 f n)
    clear h1 hr1 HR
    go_enter Try.func9, Try.ntmps9
    go_wp2_with fail
    refine (HP.out _).mono ?_; rintro e w1 ⟨rfl, rfl⟩
    go_wp2_with fail
    refine HC.out.mono ?_; rintro e w2 ⟨rfl, ho⟩
    have HO := Lib.hid (Op.pre HB0.out ho)
    clear ho
    go_wp2_with fail
    go_ret2
    exact ⟨by rw [HR2.out]; rfl, by rw [HR2.out]; exact HO.out⟩
  · have HR2 : Hid (R = (bs [], s.turn f g)) := HR.out
    have HC := Lib.hid (turnP h1 f g)
    clear h1 hr1 HR
    go_enter Try.func9, Try.ntmps9
    go_wp2_with fail
    refine (HP.out _).mono ?_; rintro e w1 ⟨rfl, rfl⟩
    go_wp2_with fail
    refine HC.out.mono ?_; rintro e w2 ⟨rfl, ho⟩
    have HO := Lib.hid (Op.pre HB0.out ho)
    clear ho
    go_wp2_with fail
    go_ret2
    exact ⟨by rw [HR2.out]; rfl, by rw [HR2.out]; exact HO.out⟩
  · have HR2 : Hid (R = (bs [], 0, s.crash keep)) := HR.out
    have HC := Lib.hid (crashP h1 _ keep hr1 (Nat.le_trans hk (by decide)))
    clear h1 hr1 HR
    go_enter Try.func9, Try.ntmps9
    go_wp2_with fail
    refine (HP.out _).mono ?_; rintro e w1 ⟨rfl, rfl⟩
    go_wp2_with fail
    refine HC.out.mono ?_; rintro e w2 ⟨rfl, ho⟩
    have HO := Lib.hid (Op.pre HB0.out ho)
    clear ho
    go_wp2_with fail
    go_ret2
    exact ⟨by rw [HR2.out]; rfl, by rw [HR2.out]; exact HO.out⟩
  · have HR2 : Hid (R = (bs [], 0, s.lose n)) := HR.out
    have HC := Lib.hid (loseP h1 n n1)
    clear h1 hr1 HR
    go_enter Try.func9, Try.ntmps9
    go_wp2_with fail
    refine (HP.out _).mono ?_; rintro e w1 ⟨rfl, rfl⟩
    go_wp2_with fail
    refine HC.out.mono ?_; rintro e w2 ⟨rfl, ho⟩
    have HO := Lib.hid (Op.pre HB0.out ho)
    clear ho
    go_wp2_with fail
    go_ret2
    exact ⟨by rw [HR2.out]; rfl, by rw [HR2.out]; exact HO.out⟩
  · have HR2 : Hid (R = (bs [], 0, s.start)) := HR.out
    have HC := Lib.hid (startP h1)
    clear h1 hr1 HR
    go_enter Try.func9, Try.ntmps9
    go_wp2_with fail
    refine (HP.out _).mono ?_; rintro e w1 ⟨rfl, rfl⟩
    go_wp2_with fail
    refine HC.out.mono ?_; rintro e w2 ⟨rfl, ho⟩
    have HO := Lib.hid (Op.pre HB0.out ho)
    clear ho
    go_wp2_with fail
    go_ret2
    exact ⟨by rw [HR2.out]; rfl, by rw [HR2.out]; exact HO.out⟩
  · have HR2 : Hid (R = ((s.read f).1, (s.read f).2, s)) := HR.out
    have HC := Lib.hid (readP h1 f)
    have HO := Lib.hid (Op.pre HB0.out (Op.refl h1))
    clear h1 hr1 HR
    go_enter Try.func9, Try.ntmps9
    go_wp2_with fail
    refine (HP.out _).mono ?_; rintro e w1 ⟨rfl, rfl⟩
    go_wp2_with fail
    refine HC.out.mono ?_; rintro e w2 ⟨rfl, hb⟩
    have HO2 := Lib.hid (HO.out.below hb)
    clear hb
    go_wp2_with fail
    go_ret2
    exact ⟨by rw [HR2.out]; rfl, by rw [HR2.out]; exact HO2.out⟩
  · have HR2 : Hid (R = (bs [], 0, s)) := HR.out
    have HO := Lib.hid (Op.pre HB0.out (Op.refl h1))
    clear h1 hr1 HR
    go_enter Try.func9, Try.ntmps9
    go_wp2_with fail
    refine (HP.out _).mono ?_; rintro e w1 ⟨rfl, rfl⟩
    go_wp2_with fail
    go_ret2
    exact ⟨by rw [HR2.out]; rfl, by rw [HR2.out]; exact HO.out⟩
  · have HR2 : Hid (R = (bs [], 0, s.arm n keep)) := HR.out
    have HC := Lib.hid (armP h1 n n1 _ keep hr1 hk)
    clear h1 hr1 HR
    go_enter Try.func9, Try.ntmps9
    go_wp2_with fail
    refine (HP.out _).mono ?_; rintro e w1 ⟨rfl, rfl⟩
    go_wp2_with fail
    refine HC.out.mono ?_; rintro e w2 ⟨rfl, ho⟩
    have HO := Lib.hid (Op.pre HB0.out ho)
    clear ho
    go_wp2_with fail
    go_ret2
    exact ⟨by rw [HR2.out]; rfl, by rw [HR2.out]; exact HO.out⟩
end Go.Proofs.Ytlphblnnloigiaa
