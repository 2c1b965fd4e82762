/-
  The law's twin: an operation on the reference's disk.
-/
import Derived.Test.YtcfngdlgllanhaaDRt
import Derived.Test.YtcfngdlgllanhaaDRd
import Derived.Test.YtcfngdlgllanhaaDa
namespace Go.Proofs.Ytcfngdlgllanhaa
set_option linter.unusedVariables false
set_option linter.unusedSimpArgs false
open Go.RowKit

def Dk.ract (s : Dk) (a : Ac) : ByteArray × Int × Dk :=
  if a.o % 11 = 0 ∨ a.o % 11 = 1 then (bs [], s.rwrite a.f a.n a.s) else if a.o % 11 = 2 then (bs [], s.rflush a.f) else if a.o % 11 = 3 then (bs [], s.rcut a.f a.n) else if a.o % 11 = 4 then (bs [], s.rturn a.f a.g) else if a.o % 11 = 5 then (bs [], 0, s.rcrash a.keep) else if a.o % 11 = 6 then (bs [], 0, s.lose a.n) else if a.o % 11 = 7 then (bs [], 0, s.start) else if a.o % 11 = 8 then ((s.read a.f).1, (s.read a.f).2, s) else if a.o % 11 = 10 then (bs [], 0, s.arm a.n a.keep) else (bs [], 0, s)
def TwPost (B : Nat → Prop) (w : World) (db : Nat) (r : ByteArray × Int × Dk) (e : Ending) (w' : World) : Prop := e = .returned (.tuple #[.string r.1, .int .i64 r.2.1]) ∧ ROp B w w' db r.2.2
set_option maxRecDepth 100000 in
set_option maxHeartbeats 8000000 in
theorem twinR {B : Nat → Prop} {w : World} {db : Nat} {s : Dk} (h : RefAt B w db s) (a : Ac) (v : Value) (hr : IRow w w.heap.size v a.keep) (hnu : a.keep ≠ [] → v.ownBlock ≠ some db) (ht : a.s.size ≤ 1000000) (hk : a.keep.length ≤ 1000000) (hn : s.pend.length + a.s.size ≤ 1000000)
    (o0 : -9223372036854775808 ≤ a.o) (o1 : a.o ≤ 9223372036854775807) (n1 : a.n ≤ 9223372036854775807) :
    Calls Try.prog 15 #[.pointer (some ⟨db, 0, none⟩), av a v] w (TwPost B w db (s.ract a)) := by
  obtain ⟨o, f, g, n, t, keep⟩ := a
  simp only at hr hk hn o0 o1 n1 ht
  unfold av
  simp only
  have HR : Hid (s.ract ⟨o, f, g, n, t, keep⟩ = if o % 11 = 0 ∨ o % 11 = 1 then (bs [], s.rwrite f n t) else if o % 11 = 2 then (bs [], s.rflush f) else if o % 11 = 3 then (bs [], s.rcut f n) else if o % 11 = 4 then (bs [], s.rturn f g) else if o % 11 = 5 then (bs [], 0, s.rcrash keep) else if o % 11 = 6 then (bs [], 0, s.lose n) else if o % 11 = 7 then (bs [], 0, s.start) else if o % 11 = 8 then ((s.read f).1, (s.read f).2, s) else if o % 11 = 10 then (bs [], 0, s.arm n keep) else (bs [], 0, s)) := rfl
  generalize s.ract ⟨o, f, g, n, t, keep⟩ = R at *
  obtain ⟨A, cap, rfl, hrr⟩ := hr
  have hr : IRow w w.heap.size (.slice A keep.length cap) keep := ⟨A, cap, rfl, hrr⟩
  clear hrr
  have hb0 := below_new w (.cells #[.int .i64 o, .int .i64 f, .int .i64 g, .int .i64 n, .string t, .slice A keep.length cap] 32)
  have h1 := h.below hb0
  have hr1 := hr.keep hb0
  have HP := Lib.hid (fun w => pickP o o0 o1 w)
  have HB0 := Lib.hid hb0
  have hko : 0 ≤ o % 11 ∧ o % 11 < 11 := by omega
  obtain ⟨K, hK⟩ : ∃ K, o % 11 = K := ⟨_, rfl⟩
  rw [hK] at HR HP hko
  clear hK o0 o1 hb0 h hr
  have hc : K = 0 ∨ K = 1 ∨ K = 2 ∨ K = 3 ∨ K = 4 ∨ K = 5 ∨ K = 6 ∨ K = 7 ∨ K = 8 ∨ K = 9 ∨ K = 10 := by omega
  clear hko
  rcases hc with rfl | rfl | rfl | rfl | rfl | rfl | rfl | rfl | rfl | rfl | rfl
  · have HR2 : Hid (R = (bs [], s.rwrite f n t)) := HR.out
    have HC := Lib.hid (writeR h1 f n t ht hn)
    clear h1 hr1 HR
    go_enter Try.func15, Try.ntmps15
    go_wp2_with fail
    refine (HP.out _).mono ?_; rintro e w1 ⟨rfl, rfl⟩
    go_wp2_with fail
    refine HC.out.mono ?_; rintro e w2 ⟨rfl, ho⟩
    have HO := Lib.hid (ROp.pre HB0.out ho)
    clear ho
    go_wp2_with fail
    go_ret2
    exact ⟨by rw [HR2.out]; rfl, by rw [HR2.out]; exact HO.out⟩
  · have HR2 : Hid (R = (bs [], s.rwrite f n t)) := HR.out
    have HC := Lib.hid (writeR h1 f n t ht hn)
    clear h1 hr1 HR
    go_enter Try.func15, Try.ntmps15
    go_wp2_with fail
    refine (HP.out _).mono ?_; rintro e w1 ⟨rfl, rfl⟩
    go_wp2_with fail
    refine HC.out.mono ?_; rintro e w2 ⟨rfl, ho⟩
    have HO := Lib.hid (ROp.pre HB0.out ho)
    clear ho
    go_wp2_with fail
    go_ret2
    exact ⟨by rw [HR2.out]; rfl, by rw [HR2.out]; exact HO.out⟩
  · have HR2 : Hid (R = (bs [], s.rflush f)) := HR.out
    have HC := Lib.hid (flushR h1 f)
    clear h1 hr1 HR
    go_enter Try.func15, Try.ntmps15
    go_wp2_with fail
    refine (HP.out _).mono ?_; rintro e w1 ⟨rfl, rfl⟩
    go_wp2_with fail
    refine HC.out.mono ?_; rintro e w2 ⟨rfl, ho⟩
    have HO := Lib.hid (ROp.pre HB0.out ho)
    clear ho
    go_wp2_with fail
    go_ret2
    exact ⟨by rw [HR2.out]; rfl, by rw [HR2.out]; exact HO.out⟩
  · have HR2 : Hid (R = (bs [], s.rcut f n)) := HR.out
    have HC := Lib.hid (cutR h1 f n)
    clear h1 hr1 HR
    go_enter Try.func15, Try.ntmps15
    go_wp2_with fail
    refine (HP.out _).mono ?_; rintro e w1 ⟨rfl, rfl⟩
    go_wp2_with fail
    refine HC.out.mono ?_; rintro e w2 ⟨rfl, ho⟩
    have HO := Lib.hid (ROp.pre HB0.out ho)
    clear ho
    go_wp2_with fail
    go_ret2
    exact ⟨by rw [HR2.out]; rfl, by rw [HR2.out]; exact HO.out⟩
  · have HR2 : Hid (R = (bs [], s.rturn f g)) := HR.out
    have HC := Lib.hid (turnR h1 f g)
    clear h1 hr1 HR
    go_enter Try.func15, Try.ntmps15
    go_wp2_with fail
    refine (HP.out _).mono ?_; rintro e w1 ⟨rfl, rfl⟩
    go_wp2_with fail
    refine HC.out.mono ?_; rintro e w2 ⟨rfl, ho⟩
    have HO := Lib.hid (ROp.pre HB0.out ho)
    clear ho
    go_wp2_with fail
    go_ret2
    exact ⟨by rw [HR2.out]; rfl, by rw [HR2.out]; exact HO.out⟩
  · have HR2 : Hid (R = (bs [], 0, s.rcrash keep)) := HR.out
    have HC := Lib.hid (crashR h1 _ keep hr1 hnu)
    clear h1 hr1 HR
    go_enter Try.func15, Try.ntmps15
    go_wp2_with fail
    refine (HP.out _).mono ?_; rintro e w1 ⟨rfl, rfl⟩
    go_wp2_with fail
    refine HC.out.mono ?_; rintro e w2 ⟨rfl, ho⟩
    have HO := Lib.hid (ROp.pre HB0.out ho)
    clear ho
    go_wp2_with fail
    go_ret2
    exact ⟨by rw [HR2.out]; rfl, by rw [HR2.out]; exact HO.out⟩
  · have HR2 : Hid (R = (bs [], 0, s.lose n)) := HR.out
    have HC := Lib.hid (loseR h1 n n1)
    clear h1 hr1 HR
    go_enter Try.func15, Try.ntmps15
    go_wp2_with fail
    refine (HP.out _).mono ?_; rintro e w1 ⟨rfl, rfl⟩
    go_wp2_with fail
    refine HC.out.mono ?_; rintro e w2 ⟨rfl, ho⟩
    have HO := Lib.hid (ROp.pre HB0.out ho)
    clear ho
    go_wp2_with fail
    go_ret2
    exact ⟨by rw [HR2.out]; rfl, by rw [HR2.out]; exact HO.out⟩
  · have HR2 : Hid (R = (bs [], 0, s.start)) := HR.out
    have HC := Lib.hid (startR h1)
    clear h1 hr1 HR
    go_enter Try.func15, Try.ntmps15
    go_wp2_with fail
    refine (HP.out _).mono ?_; rintro e w1 ⟨rfl, rfl⟩
    go_wp2_with fail
    refine HC.out.mono ?_; rintro e w2 ⟨rfl, ho⟩
    have HO := Lib.hid (ROp.pre HB0.out ho)
    clear ho
    go_wp2_with fail
    go_ret2
    exact ⟨by rw [HR2.out]; rfl, by rw [HR2.out]; exact HO.out⟩
  · have HR2 : Hid (R = ((s.read f).1, (s.read f).2, s)) := HR.out
    have HC := Lib.hid (ReadR h1 f)
    have HO := Lib.hid (ROp.pre HB0.out (ROp.refl h1))
    clear h1 hr1 HR
    go_enter Try.func15, Try.ntmps15
    go_wp2_with fail
    refine (HP.out _).mono ?_; rintro e w1 ⟨rfl, rfl⟩
    go_wp2_with fail
    refine HC.out.mono ?_; rintro e w2 ⟨rfl, hb⟩
    have HO2 := Lib.hid (HO.out.below hb)
    clear hb
    go_wp2_with fail
    go_ret2
    exact ⟨by rw [HR2.out]; rfl, by rw [HR2.out]; exact HO2.out⟩
  · have HR2 : Hid (R = (bs [], 0, s)) := HR.out
    have HO := Lib.hid (ROp.pre HB0.out (ROp.refl h1))
    clear h1 hr1 HR
    go_enter Try.func15, Try.ntmps15
    go_wp2_with fail
    refine (HP.out _).mono ?_; rintro e w1 ⟨rfl, rfl⟩
    go_wp2_with fail
    go_ret2
    exact ⟨by rw [HR2.out]; rfl, by rw [HR2.out]; exact HO.out⟩
  · have HR2 : Hid (R = (bs [], 0, s.arm n keep)) := HR.out
    have HC := Lib.hid (armR h1 n n1 _ keep hr1 hk hnu)
    clear h1 hr1 HR
    go_enter Try.func15, Try.ntmps15
    go_wp2_with fail
    refine (HP.out _).mono ?_; rintro e w1 ⟨rfl, rfl⟩
    go_wp2_with fail
    refine HC.out.mono ?_; rintro e w2 ⟨rfl, ho⟩
    have HO := Lib.hid (ROp.pre HB0.out ho)
    clear ho
    go_wp2_with fail
    go_ret2
    exact ⟨by rw [HR2.out]; rfl, by rw [HR2.out]; exact HO.out⟩
end Go.Proofs.Ytcfngdlgllanhaa
