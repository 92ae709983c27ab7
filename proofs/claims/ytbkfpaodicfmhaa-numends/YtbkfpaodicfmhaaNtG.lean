/-
  Numbers modulo a prime: what the laws of layer 9 say. Of no program.
-/
import Derived.Test.YtbkfpaodicfmhaaNtF
namespace Go.Proofs.Nt
theorem sub_back {m A B : Nat} (hA : A < m) (hB : B < m) : ((A + B) % m + m - B) % m = A := by
  rcases Nat.lt_or_ge (A + B) m with h | h
  · rw [Nat.mod_eq_of_lt h, show A + B + m - B = A + m by omega, Nat.add_mod_right, Nat.mod_eq_of_lt hA]
  · rw [Nat.mod_eq_sub_mod h, Nat.mod_eq_of_lt (show A + B - m < m by omega), show A + B - m + m - B = A by omega, Nat.mod_eq_of_lt hA]
theorem dist_mod (m A B C : Nat) : (A * C % m + C * B % m) % m = (A + B) % m * C % m := by
  rw [← Nat.add_mod, Nat.mod_mul_mod, Nat.add_mul, Nat.mul_comm C B]
theorem turn_mod {m A B : Nat} (hA : A < m) (hB : B < m) : ((A + m - B) % m + (B + m - A) % m) % m = 0 := by
  rw [← Nat.add_mod, show A + m - B + (B + m - A) = m + m by omega, Nat.add_mod_right, Nat.mod_self]
theorem twice_mod (m A : Nat) : A * 2 % m = (A + A) % m := by rw [Nat.mul_two]
/-- A number's inverse. -/
def vi (m A : Nat) : Nat := A ^ (m - 2) % m
theorem vi_lt {m : Nat} (h : Prime m) (A : Nat) : vi m A < m := Nat.mod_lt _ h.pos
theorem vi_mul {m A : Nat} (h : Prime m) (h0 : ¬ A = 0) (hA : A < m) : vi m A * A % m = 1 := by rw [Nat.mul_comm]; exact inv_pow h (by omega) hA
theorem vi_pos {m A : Nat} (h : Prime m) (h0 : ¬ A = 0) (hA : A < m) : ¬ vi m A = 0 := fun e => by
  have := vi_mul h h0 hA
  rw [e, Nat.zero_mul, Nat.zero_mod] at this
  omega
theorem vi_vi {m A : Nat} (h : Prime m) (h0 : ¬ A = 0) (hA : A < m) : vi m (vi m A) = A :=
  inv_one (vi_lt h _) hA (by have := vi_mul h (vi_pos h h0 hA) (vi_lt h A); rwa [Nat.mul_comm] at this) (vi_mul h h0 hA)
theorem square_back {m A : Nat} (h : Prime m) (h0 : ¬ A = 0) (hA : A < m) : A * A % m * vi m A % m = A := by
  rw [Nat.mod_mul_mod, Nat.mul_assoc, ← Nat.mul_mod_mod, Nat.mul_comm A (vi m A), vi_mul h h0 hA, Nat.mul_one, Nat.mod_eq_of_lt hA]
end Go.Proofs.Nt
