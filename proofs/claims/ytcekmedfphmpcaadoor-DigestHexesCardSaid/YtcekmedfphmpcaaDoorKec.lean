/-
  Plain SHA3-256 on lists of numbers, and the digits of hexadecimal.
-/
import Derived.Test.YtcekmedfphmpcaaDoorChecked
namespace Go.Proofs.YtcekmedfphmpcaaDoor
set_option linter.unusedVariables false
set_option linter.unusedSimpArgs false

def lat (a : List Nat) (i : Nat) : Nat := a.getD i 0
def rol (x n : Nat) : Nat := if n = 0 then x else x * 2 ^ n % 18446744073709551616 ||| x / 2 ^ (64 - n)
def turns : List Nat := [0, 1, 62, 28, 27, 36, 44, 6, 55, 20, 3, 10, 43, 25, 39, 41, 45, 15, 21, 8, 18, 2, 61, 56, 14]
def consts : List Nat := [1, 32898, 9223372036854808714, 9223372039002292224, 32907, 2147483649, 9223372039002292353, 9223372036854808585, 138, 136, 2147516425, 2147483658, 2147516555, 9223372036854775947, 9223372036854808713, 9223372036854808579, 9223372036854808578, 9223372036854775936, 32778, 9223372039002259466, 9223372039002292353, 9223372036854808704, 2147483649, 9223372039002292232]

def par (a : List Nat) (x : Nat) : Nat := lat a x ^^^ lat a (x + 5) ^^^ lat a (x + 10) ^^^ lat a (x + 15) ^^^ lat a (x + 20)
def parL (a : List Nat) : List Nat := (List.range 5).map (par a)
/-- The lane x + 5 y behind the first step. -/
def theta (a p : List Nat) (i : Nat) : Nat := lat a i ^^^ lat p ((i % 5 + 4) % 5) ^^^ rol (lat p ((i % 5 + 1) % 5)) 1
/-- Where lane j of the second step comes from. -/
def srcOf (j : Nat) : Nat := (3 * (j / 5) + j % 5) % 5 + 5 * (j % 5)
def rho (a p : List Nat) (i : Nat) : Nat := rol (theta a p i) (lat turns i)
def bL (a p : List Nat) : List Nat := (List.range 25).map fun j => rho a p (srcOf j)
def chi (b : List Nat) (i : Nat) : Nat := lat b i ^^^ ((18446744073709551615 - lat b ((i % 5 + 1) % 5 + 5 * (i / 5))) &&& lat b ((i % 5 + 2) % 5 + 5 * (i / 5)))
def chiL (b : List Nat) : List Nat := (List.range 25).map (chi b)
def roundL (a : List Nat) (c : Nat) : List Nat := (chiL (bL a (parL a))).set 0 (chi (bL a (parL a)) 0 ^^^ c)
def permL (a : List Nat) : List Nat := consts.foldl roundL a

def le8 (l : List Nat) : Nat := l.foldr (fun b n => b + 256 * n) 0
def laneOf (l : List Nat) (at_ : Nat) : Nat := le8 ((l.drop at_).take 8)
def padded (l : List Nat) : List Nat :=
  let m := l ++ [6] ++ List.replicate ((136 - (l.length + 1) % 136) % 136) 0
  m.set (m.length - 1) (lat m (m.length - 1) + 128)
def absorb (a l : List Nat) (at_ : Nat) : List Nat := permL ((List.range 25).map fun i => if i < 17 then lat a i ^^^ laneOf l (at_ + 8 * i) else lat a i)
def sponge (l : List Nat) : List Nat := (List.range (l.length / 136)).foldl (fun a k => absorb a l (136 * k)) (List.replicate 25 0)
def bytes8 (x : Nat) : List Nat := (List.range 8).map fun k => x / 256 ^ k % 256
def sumN (l : List Nat) : List Nat := ((sponge (padded l)).take 4).flatMap bytes8

def hexD (n : Nat) : Nat := if n < 10 then 48 + n else 87 + n
def hexN (l : List Nat) : List Nat := l.flatMap fun b => [hexD (b / 16), hexD (b % 16)]

theorem sum_abc : hexN (sumN [97, 98, 99]) = "3a985da74fe225b2045c172d6bd390bd855f086e3e9d525b46bfe24511431532".toUTF8.data.toList.map UInt8.toNat := by decide +kernel
theorem sum_nil : hexN (sumN []) = "a7ffc6f8bf1ed76651c14756a061d662f580ff4de43b49fa82d80a4b80f8434a".toUTF8.data.toList.map UInt8.toNat := by decide +kernel
theorem roundL_length (a : List Nat) (c : Nat) : (roundL a c).length = 25 := by simp [roundL, chiL]
theorem permL_length (a : List Nat) (h : a.length = 25) : (permL a).length = 25 := by
  unfold permL
  have : ∀ (cs : List Nat) (a : List Nat), a.length = 25 → (cs.foldl roundL a).length = 25 := by
    intro cs
    induction cs with
    | nil => intro a h; exact h
    | cons c cs ih => intro a _; exact ih _ (roundL_length a c)
  exact this _ _ h
theorem absorb_length (a l : List Nat) (k : Nat) : (absorb a l k).length = 25 := permL_length _ (by simp)
theorem sponge_length (l : List Nat) : (sponge l).length = 25 := by
  unfold sponge
  have : ∀ (ks : List Nat) (a : List Nat), a.length = 25 → (ks.foldl (fun a k => absorb a l (136 * k)) a).length = 25 := by
    intro ks
    induction ks with
    | nil => intro a h; exact h
    | cons k ks ih => intro a _; exact ih _ (absorb_length a l _)
  exact this _ _ (by simp)
theorem bytes8_length (x : Nat) : (bytes8 x).length = 8 := by simp [bytes8]
theorem flat_bytes8 (l : List Nat) : (l.flatMap bytes8).length = 8 * l.length := by
  induction l with
  | nil => rfl
  | cons x l ih => rw [List.flatMap_cons, List.length_append, bytes8_length, ih, List.length_cons]; omega
theorem sumN_length (l : List Nat) : (sumN l).length = 32 := by
  unfold sumN
  rw [flat_bytes8, List.length_take, sponge_length]; rfl
theorem sumN_byte (l : List Nat) : ∀ x ∈ sumN l, x < 256 := by
  intro x hx
  obtain ⟨y, _, hy⟩ := List.mem_flatMap.1 hx
  obtain ⟨k, _, rfl⟩ := List.mem_map.1 hy
  omega
end Go.Proofs.YtcekmedfphmpcaaDoor
