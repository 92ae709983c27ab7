/-
  A key clamped, a point's highest bit: by words. Of no program.
-/
import Derived.Test.YtpniinolkflfjaaJoad
namespace Go.Proofs.Xu
open Go.Proofs.Nt
/-- A key's number, clamped. -/
def cl (n : Nat) : Nat := n % 2 ^ 254 / 8 * 8 + 2 ^ 254
theorem and_low3 (x : Nat) (h : x < 4294967296) : x &&& 4294967288 = x / 8 * 8 := by
  apply Nat.eq_of_testBit_eq
  intro i
  rw [Nat.testBit_and, show (4294967288 : Nat) = (2 ^ 29 - 1) * 2 ^ 3 by decide, show x / 8 * 8 = x / 2 ^ 3 * 2 ^ 3 by rfl, Nat.testBit_mul_two_pow, Nat.testBit_mul_two_pow, Nat.testBit_two_pow_sub_one, Nat.testBit_div_two_pow]
  by_cases hi : 3 ≤ i
  · rw [decide_eq_true hi, Bool.true_and, Bool.true_and, show i - 3 + 3 = i by omega]
    by_cases h2 : i - 3 < 29
    · rw [decide_eq_true h2, Bool.and_true]
    · rw [decide_eq_false h2, Bool.and_false]
      have : x < 2 ^ i := Nat.lt_of_lt_of_le h (by rw [show (4294967296 : Nat) = 2 ^ 32 by decide]; exact Nat.pow_le_pow_right (by decide) (by omega))
      rw [Nat.testBit_lt_two_pow this]
  · rw [decide_eq_false hi, Bool.false_and, Bool.and_false, Bool.false_and]
theorem and_top (x : Nat) : x &&& 2147483647 = x % 2147483648 := by
  rw [show (2147483647 : Nat) = 2 ^ 31 - 1 by decide, Nat.and_two_pow_sub_one_eq_mod]
theorem or_30 (x : Nat) (h : x < 2147483648) : x ||| 1073741824 = x % 1073741824 + 1073741824 := by
  apply Nat.eq_of_testBit_eq
  intro i
  have e : x % 1073741824 + 1073741824 = 2 ^ 30 * 1 + x % 2 ^ 30 := by omega
  rw [e, Nat.testBit_or, Nat.testBit_two_pow_mul_add 1 (Nat.mod_lt _ (by decide)), show (1073741824 : Nat) = 2 ^ 30 by decide, Nat.testBit_two_pow]
  by_cases hi : i < 30
  · rw [if_pos hi, Nat.testBit_mod_two_pow, decide_eq_true hi, Bool.true_and, decide_eq_false (by omega), Bool.or_false]
  · rw [if_neg hi]
    by_cases h3 : i = 30
    · subst h3; simp
    · have h4 : x < 2 ^ i := Nat.lt_of_lt_of_le h (by rw [show (2147483648 : Nat) = 2 ^ 31 by decide]; exact Nat.pow_le_pow_right (by decide) (by omega))
      rw [Nat.testBit_lt_two_pow h4, decide_eq_false (by omega), Bool.or_false]
      rw [Nat.testBit_lt_two_pow (Nat.one_lt_two_pow (by omega))]
theorem cl_words {n : Nat} (_ : n < 2 ^ 256) (i : Nat) (_ : i < 8) : (if i = 7 then lb n 7 % 2147483648 % 1073741824 + 1073741824 else if i = 0 then lb n 0 / 8 * 8 else lb n i) = lb (cl n) i := by
  unfold cl
  have h8 : i = 0 ∨ i = 1 ∨ i = 2 ∨ i = 3 ∨ i = 4 ∨ i = 5 ∨ i = 6 ∨ i = 7 := by omega
  unfold lb
  rcases h8 with rfl | rfl | rfl | rfl | rfl | rfl | rfl | rfl
  all_goals simp only [Nat.reducePow, Nat.reduceMul, Nat.reduceEqDiff, if_true, if_false] at *
  all_goals omega
theorem ux_words {n : Nat} (_ : n < 2 ^ 256) (i : Nat) (_ : i < 8) : (if i = 7 then lb n 7 % 2147483648 else lb n i) = lb (n % 2 ^ 255) i := by
  have h8 : i = 0 ∨ i = 1 ∨ i = 2 ∨ i = 3 ∨ i = 4 ∨ i = 5 ∨ i = 6 ∨ i = 7 := by omega
  unfold lb
  rcases h8 with rfl | rfl | rfl | rfl | rfl | rfl | rfl | rfl
  all_goals simp only [Nat.reducePow, Nat.reduceMul, Nat.reduceEqDiff, if_true, if_false] at *
  all_goals omega
end Go.Proofs.Xu
