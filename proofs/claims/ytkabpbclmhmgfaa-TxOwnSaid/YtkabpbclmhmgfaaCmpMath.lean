/-
  Plain mathematics of chapter 2: a number's lowest bytes, the lowest first, what bytes are as a number, a number in the fewest bytes, sums of amounts. No program is imported. No conditions.
-/
import Derived.Test.YtkabpbclmhmgfaaBase
namespace Go.Proofs.Ytkabpbclmhmgfaa.Sha
open Go

/-- The lowest k bytes of n, the lowest first. -/
def leB (n : Nat) : Nat → List UInt8
  | 0 => []
  | k + 1 => leB n k ++ [UInt8.ofNat (n / 256 ^ k)]
theorem leB_length (n : Nat) : ∀ k, (leB n k).length = k
  | 0 => rfl
  | k + 1 => by simp [leB, leB_length n k]
/-- What bytes are as a number. -/
def leN : List UInt8 → Nat
  | [] => 0
  | x :: l => x.toNat + 256 * leN l
theorem leN_snoc (x : UInt8) : ∀ l : List UInt8, leN (l ++ [x]) = leN l + 256 ^ l.length * x.toNat
  | [] => by simp [leN]
  | y :: l => by
    show y.toNat + 256 * leN (l ++ [x]) = y.toNat + 256 * leN l + 256 ^ (l.length + 1) * x.toNat
    rw [leN_snoc x l, Nat.pow_succ, Nat.mul_add, Nat.add_assoc, ← Nat.mul_assoc, Nat.mul_comm 256 (256 ^ l.length)]
theorem leN_lt : ∀ l : List UInt8, leN l < 256 ^ l.length
  | [] => by simp [leN]
  | x :: l => by
    have h := leN_lt l
    have hx := x.toNat_lt
    show x.toNat + 256 * leN l < 256 ^ (l.length + 1)
    rw [Nat.pow_succ]
    omega
theorem pow_next (k : Nat) : 256 ^ (k + 1) = 256 ^ k * 256 := Nat.pow_succ ..
theorem leN_leB (n : Nat) : ∀ k, leN (leB n k) = n % 256 ^ k
  | 0 => by simp [leN, leB, Nat.mod_one]
  | k + 1 => by
    rw [leB, leN_snoc, leN_leB n k, leB_length, UInt8.toNat_ofNat', pow_next, Nat.mod_mul]
theorem leN_leB_of {n k : Nat} (h : n < 256 ^ k) : leN (leB n k) = n := by rw [leN_leB, Nat.mod_eq_of_lt h]
/-- How many bytes Put writes. -/
def lenN (n : Nat) : Nat := if n < 253 then 1 else if n ≤ 65535 then 3 else if n ≤ 4294967295 then 5 else 9
/-- The number in the fewest bytes. -/
def putL (n : Nat) : List UInt8 := if n < 253 then [UInt8.ofNat n] else if n ≤ 65535 then 253 :: leB n 2 else if n ≤ 4294967295 then 254 :: leB n 4 else 255 :: leB n 8
theorem putL_length (n : Nat) : (putL n).length = lenN n := by
  unfold putL lenN
  split
  · rfl
  · split
    · simp [leB_length]
    · split <;> simp [leB_length]
theorem lenN_bd (n : Nat) : 1 ≤ lenN n ∧ lenN n ≤ 9 := by unfold lenN; split <;> (try split) <;> (try split) <;> omega
theorem lenN_eq (n : Nat) : (lenN n = 1 ∧ putL n = [UInt8.ofNat n]) ∨ (lenN n = 3 ∧ putL n = 253 :: leB n 2) ∨ (lenN n = 5 ∧ putL n = 254 :: leB n 4) ∨ (lenN n = 9 ∧ putL n = 255 :: leB n 8) := by
  unfold lenN putL
  by_cases h1 : n < 253
  · rw [if_pos h1, if_pos h1]; exact .inl ⟨rfl, rfl⟩
  by_cases h2 : n ≤ 65535
  · rw [if_neg h1, if_neg h1, if_pos h2, if_pos h2]; exact .inr (.inl ⟨rfl, rfl⟩)
  by_cases h3 : n ≤ 4294967295
  · rw [if_neg h1, if_neg h1, if_neg h2, if_neg h2, if_pos h3, if_pos h3]; exact .inr (.inr (.inl ⟨rfl, rfl⟩))
  · rw [if_neg h1, if_neg h1, if_neg h2, if_neg h2, if_neg h3, if_neg h3]; exact .inr (.inr (.inr ⟨rfl, rfl⟩))
/-- The greatest sum of amounts. -/
def most : Nat := 2100000000000000
/-- All amounts added: how much, and whether that may be. -/
def sumL (l : List Nat) : Nat := if l.sum ≤ most then l.sum else 0
def sumIs (l : List Nat) : Bool := decide (l.sum ≤ most)
theorem sum_take_succ {l : List Nat} {k : Nat} (h : k < l.length) : (l.take (k + 1)).sum = (l.take k).sum + l.getD k 0 := by
  rw [List.take_succ_eq_append_getElem h, List.sum_append]
  simp [List.getD, List.getElem?_eq_getElem h]
theorem sum_take_le (l : List Nat) (k : Nat) : (l.take k).sum ≤ l.sum := by
  have e : l.sum = (l.take k).sum + (l.drop k).sum := by rw [← List.sum_append, List.take_append_drop]
  omega
theorem sum_over {l : List Nat} {k : Nat} (h : k < l.length) (h2 : most < (l.take k).sum + l.getD k 0) : ¬ l.sum ≤ most := by
  have := sum_take_le l (k + 1)
  rw [sum_take_succ h] at this
  omega
end Go.Proofs.Ytkabpbclmhmgfaa.Sha
