/-
  The walk of IsaBack: its cases.
-/
import Derived.Test.YtijcdhkojidgeaaDoorIL
import Derived.Test.YtijcdhkojidgeaaDoorIB0
import Derived.Test.YtijcdhkojidgeaaDoorIB1
import Derived.Test.YtijcdhkojidgeaaDoorIB2
import Derived.Test.YtijcdhkojidgeaaDoorIB3
import Derived.Test.YtijcdhkojidgeaaDoorIB4
import Derived.Test.YtijcdhkojidgeaaDoorIB5
namespace Go.Proofs.YtijcdhkojidgeaaDoor.isaBack
set_option linter.unusedVariables false
set_option linter.unusedSimpArgs false
open Go.RowKit

theorem walk (w : World) (hL : LaidI w) (i : Value) (o a b c m : Int) (j : Value) (o' a' b' c' m' : Int) (s t : ByteArray)
    (hi : i = .agg #[.int .i64 o, .int .i64 a, .int .i64 b, .int .i64 c, .int .i64 m] ∧ bd64 o ∧ bd64 a ∧ bd64 b ∧ bd64 c ∧ bd64 m)
    (hj : j = .agg #[.int .i64 o', .int .i64 a', .int .i64 b', .int .i64 c', .int .i64 m'] ∧ bd64 o' ∧ bd64 a' ∧ bd64 b' ∧ bd64 c' ∧ bd64 m')
    (ws : s.size ≤ maxLen) (wt : t.size ≤ maxLen) :
    Calls Tryd.prog 4 #[i, j, .string s, .string t] w fun e w' => e = .returned (.bool true) ∧ Below w.heap.size w w' := by
  unfold maxLen at ws wt
  obtain ⟨rfl, _⟩ := hi
  obtain ⟨rfl, _⟩ := hj
  show Calls Tryd.prog _ _ w (Goal w)
  by_cases h : 300 < s.size ∨ 300 < t.size
  · exact longP _ _ s t w ws wt ⟨o, a, b, c, m, rfl⟩ ⟨o', a', b', c', m', rfl⟩ hL h
  have hs : s.size ≤ 300 := by omega
  have ht : t.size ≤ 300 := by omega
  cases hi : rightB ⟨o, a, b, c, m⟩
  · exact noP o a b c m o' a' b' c' m' s t w hL hs ht hi
  cases hj : rightB ⟨o', a', b', c', m'⟩
  · exact oneP o a b c m o' a' b' c' m' s t w hL hs ht hi hj
  by_cases e0 : o = o'
  · subst e0
    by_cases e1 : a = a'
    · subst e1
      by_cases e2 : b = b'
      · subst e2
        by_cases e3 : c = c'
        · subst e3
          by_cases e4 : m = m'
          · subst e4
            exact both5 o a b c m s t w hL hs ht hi
          · exact both4 o a b c m m' s t w hL hs ht hi hj e4
        · exact both3 o a b c m c' m' s t w hL hs ht hi hj e3
      · exact both2 o a b c m b' c' m' s t w hL hs ht hi hj e2
    · exact both1 o a b c m a' b' c' m' s t w hL hs ht hi hj e1
  · exact both0 o a b c m o' a' b' c' m' s t w hL hs ht hi hj e0
end Go.Proofs.YtijcdhkojidgeaaDoor.isaBack
