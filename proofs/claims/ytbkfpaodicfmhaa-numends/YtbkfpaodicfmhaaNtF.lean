/-
  Montgomery's products of numbers that are held times 2 ^ 256. Of no program.
-/
import Derived.Test.YtbkfpaodicfmhaaNtE
namespace Go.Proofs.Nt
/-- A number as it is held. -/
def jm (m x : Nat) : Nat := x * 2 ^ 256 % m
theorem em_mul {m a b c d : Nat} (h1 : a % m = b % m) (h2 : c % m = d % m) : a * c % m = b * d % m := by rw [Nat.mul_mod, h1, h2, ← Nat.mul_mod]
theorem em_mod (m a : Nat) : a % m % m = a % m := Nat.mod_mod a m
theorem rI {m : Nat} (hm : Prime m) (h2 : ¬ m ∣ 2 ^ 256) : 2 ^ 256 * ((2 ^ 256 % m) ^ (m - 2) % m) % m = 1 % m := by
  have hi := inv_pow hm (Nat.pos_of_ne_zero fun e => h2 (Nat.dvd_of_mod_eq_zero e)) (Nat.mod_lt (2 ^ 256) hm.pos)
  rw [Nat.mod_mul_mod] at hi
  rw [hi]
  exact (Nat.mod_eq_of_lt (by have := hm.1; omega)).symm
theorem mt_jj {m : Nat} (hm : Prime m) (h2 : ¬ m ∣ 2 ^ 256) (x y : Nat) : mt m (jm m x) (jm m y) = jm m (x * y) := by
  unfold mt jm
  have h := rI hm h2
  generalize (2 ^ 256 % m) ^ (m - 2) % m = I at h ⊢
  generalize 2 ^ 256 = R at h ⊢
  have e1 : x * R % m * (y * R % m) * I % m = x * R * (y * R) * I % m := em_mul (em_mul (em_mod m _) (em_mod m _)) rfl
  have e2 : x * R * (y * R) * I % m = x * y * R * (R * I) % m := by
    congr 1
    simp only [Nat.mul_left_comm, Nat.mul_comm]
  rw [e1, e2, em_mul (m := m) (a := x * y * R) rfl h, Nat.mul_one]
theorem mt_jx {m : Nat} (hm : Prime m) (h2 : ¬ m ∣ 2 ^ 256) (x y : Nat) : mt m (jm m x) y = x * y % m := by
  unfold mt jm
  have h := rI hm h2
  generalize (2 ^ 256 % m) ^ (m - 2) % m = I at h ⊢
  generalize 2 ^ 256 = R at h ⊢
  have e1 : x * R % m * y * I % m = x * R * y * I % m := em_mul (em_mul (em_mod m _) rfl) rfl
  have e2 : x * R * y * I % m = x * y * (R * I) % m := by
    congr 1
    simp only [Nat.mul_left_comm, Nat.mul_comm]
  rw [e1, e2, em_mul (m := m) (a := x * y) rfl h, Nat.mul_one]
theorem mt_in {m : Nat} (hm : Prime m) (h2 : ¬ m ∣ 2 ^ 256) (x : Nat) : mt m x (2 ^ 256 * 2 ^ 256 % m) = jm m x := by
  unfold mt jm
  have h := rI hm h2
  generalize (2 ^ 256 % m) ^ (m - 2) % m = I at h ⊢
  generalize 2 ^ 256 = R at h ⊢
  have e1 : x * (R * R % m) * I % m = x * (R * R) * I % m := em_mul (em_mul (a := x) rfl (em_mod m _)) rfl
  have e2 : x * (R * R) * I % m = x * R * (R * I) % m := by
    congr 1
    simp only [Nat.mul_assoc]
  rw [e1, e2, em_mul (m := m) (a := x * R) rfl h, Nat.mul_one]
theorem jm_lt {m : Nat} (h : 0 < m) (x : Nat) : jm m x < m := Nat.mod_lt _ h
/-- One step of a power, the highest bit first. -/
theorem pow_bit (A e i : Nat) : A ^ (e / 2 ^ i) = A ^ (e / 2 ^ (i + 1)) * A ^ (e / 2 ^ (i + 1)) * (if e / 2 ^ i % 2 = 1 then A else 1) := by
  have h1 : e / 2 ^ (i + 1) = e / 2 ^ i / 2 := by rw [Nat.pow_succ, Nat.div_div_eq_div_mul]
  rw [h1, ← Nat.pow_add]
  generalize e / 2 ^ i = y
  rcases Nat.mod_two_eq_zero_or_one y with h | h
  · rw [h, if_neg (by decide), Nat.mul_one, show y / 2 + y / 2 = y by omega]
  · rw [h, if_pos rfl, ← Nat.pow_succ, show (y / 2 + y / 2).succ = y by omega]
end Go.Proofs.Nt
