/-
  Numbers as words of 32 bits: values, comparing, sums, differences. Of no program.
-/
import Derived.Test.YtpniinolkflfjaaJoac
namespace Go.Proofs.Nt
/-- The value of the first n words; a number's words. -/
def nv (d : Nat → Nat) : Nat → Nat
  | 0 => 0
  | n + 1 => nv d n + d n * 2 ^ (32 * n)
def lb (x : Nat) (i : Nat) : Nat := x / 2 ^ (32 * i) % 4294967296
theorem lb_lt (x i : Nat) : lb x i < 4294967296 := Nat.mod_lt _ (by decide)
theorem pw (n : Nat) : 2 ^ (32 * (n + 1)) = 2 ^ (32 * n) * 4294967296 := by rw [Nat.mul_add, Nat.pow_add]
theorem pw_pos (n : Nat) : 0 < 2 ^ (32 * n) := Nat.pow_pos (by decide)
theorem nv_lt {d : Nat → Nat} : ∀ n, (∀ i, i < n → d i < 4294967296) → nv d n < 2 ^ (32 * n)
  | 0, _ => Nat.one_pos
  | n + 1, h => by
    have h1 := nv_lt n (fun i hi => h i (by omega))
    have h2 : d n * 2 ^ (32 * n) ≤ 4294967295 * 2 ^ (32 * n) := Nat.mul_le_mul_right _ (by have := h n (by omega); omega)
    show nv d n + d n * 2 ^ (32 * n) < _
    rw [pw]; omega
theorem nv_congr {d e : Nat → Nat} : ∀ n, (∀ i, i < n → d i = e i) → nv d n = nv e n
  | 0, _ => rfl
  | n + 1, h => by show nv d n + d n * _ = nv e n + e n * _; rw [nv_congr n (fun i hi => h i (by omega)), h n (by omega)]
theorem nv_mod (x : Nat) : ∀ n, nv (lb x) n = x % 2 ^ (32 * n)
  | 0 => (Nat.mod_one x).symm
  | n + 1 => by
    show nv (lb x) n + lb x n * 2 ^ (32 * n) = _
    rw [nv_mod x n, pw, Nat.mod_mul, Nat.mul_comm (lb x n)]; rfl
theorem nv_lb {x n : Nat} (h : x < 2 ^ (32 * n)) : nv (lb x) n = x := by rw [nv_mod, Nat.mod_eq_of_lt h]
theorem lb_nv {d : Nat → Nat} : ∀ n, (∀ i, i < n → d i < 4294967296) → ∀ i, i < n → lb (nv d n) i = d i
  | 0, _, i, hi => absurd hi (by omega)
  | n + 1, h, i, hi => by
    have hl := nv_lt n (fun i hi => h i (by omega))
    have hp := pw_pos n
    by_cases e : i = n
    · subst e
      show (nv d i + d i * 2 ^ (32 * i)) / 2 ^ (32 * i) % 4294967296 = d i
      rw [Nat.add_mul_div_right _ _ hp, Nat.div_eq_of_lt hl, Nat.zero_add, Nat.mod_eq_of_lt (h i (by omega))]
    · have ih := lb_nv n (fun i hi => h i (by omega)) i (by omega)
      rw [← ih]
      show (nv d n + d n * 2 ^ (32 * n)) / 2 ^ (32 * i) % 4294967296 = nv d n / 2 ^ (32 * i) % 4294967296
      obtain ⟨k, hk⟩ : ∃ k, n = i + 1 + k := ⟨n - i - 1, by omega⟩
      have e2 : d n * 2 ^ (32 * n) = (d n * 2 ^ (32 * k) * 4294967296) * 2 ^ (32 * i) := by
        rw [show 32 * n = 32 * k + 32 + 32 * i by omega, Nat.pow_add, Nat.pow_add]
        simp only [Nat.mul_assoc]
      rw [e2, Nat.add_mul_div_right _ _ (pw_pos i), Nat.add_mul_mod_self_right]
/-- The highest word that differs decides. -/
theorem nv_less {d e : Nat → Nat} {i : Nat} (hd : ∀ k, k < i → d k < 4294967296) (hl : d i < e i) : ∀ n, i < n → (∀ k, i < k → k < n → d k = e k) → nv d n < nv e n
  | 0, h, _ => absurd h (by omega)
  | n + 1, h, hk => by
    by_cases e0 : i = n
    · subst e0
      have h1 := nv_lt i hd
      have h2 : (d i + 1) * 2 ^ (32 * i) ≤ e i * 2 ^ (32 * i) := Nat.mul_le_mul_right _ hl
      rw [Nat.add_mul, Nat.one_mul] at h2
      show nv d i + d i * 2 ^ (32 * i) < nv e i + e i * 2 ^ (32 * i)
      omega
    · have ih := nv_less hd hl n (by omega) (fun k h1 h2 => hk k h1 (by omega))
      show nv d n + d n * _ < nv e n + e n * _
      rw [hk n (by omega) (by omega)]
      omega
/-- A sum's carries and words. -/
def pc (d e : Nat → Nat) : Nat → Nat
  | 0 => 0
  | i + 1 => (d i + e i + pc d e i) / 4294967296
def ps (d e : Nat → Nat) (i : Nat) : Nat := (d i + e i + pc d e i) % 4294967296
theorem pc_le {d e : Nat → Nat} (hd : ∀ i, d i < 4294967296) (he : ∀ i, e i < 4294967296) : ∀ i, pc d e i ≤ 1
  | 0 => Nat.zero_le _
  | i + 1 => by
    have := pc_le hd he i
    have h1 := hd i
    have h2 := he i
    show (d i + e i + pc d e i) / 4294967296 ≤ 1
    omega
theorem word_val (s n : Nat) : s % 4294967296 * 2 ^ (32 * n) + s / 4294967296 * 2 ^ (32 * (n + 1)) = s * 2 ^ (32 * n) := by
  rw [pw, Nat.mul_comm (2 ^ (32 * n)), ← Nat.mul_assoc, ← Nat.add_mul, Nat.mul_comm _ 4294967296, Nat.mod_add_div]
theorem ps_val (d e : Nat → Nat) : ∀ n, nv (ps d e) n + pc d e n * 2 ^ (32 * n) = nv d n + nv e n
  | 0 => rfl
  | n + 1 => by
    have ih := ps_val d e n
    show nv (ps d e) n + (d n + e n + pc d e n) % 4294967296 * 2 ^ (32 * n) + (d n + e n + pc d e n) / 4294967296 * 2 ^ (32 * (n + 1)) = nv d n + d n * 2 ^ (32 * n) + (nv e n + e n * 2 ^ (32 * n))
    have h := word_val (d n + e n + pc d e n) n
    have h2 : (d n + e n + pc d e n) * 2 ^ (32 * n) = d n * 2 ^ (32 * n) + e n * 2 ^ (32 * n) + pc d e n * 2 ^ (32 * n) := by rw [Nat.add_mul, Nat.add_mul]
    omega
/-- A difference's borrows and words. -/
def mb (d e : Nat → Nat) : Nat → Nat
  | 0 => 0
  | i + 1 => if d i < e i + mb d e i then 1 else 0
def ms (d e : Nat → Nat) (i : Nat) : Nat := (d i + 4294967296 - e i - mb d e i) % 4294967296
theorem mb_le (d e : Nat → Nat) : ∀ i, mb d e i ≤ 1
  | 0 => Nat.zero_le _
  | i + 1 => by show (if d i < e i + mb d e i then 1 else 0) ≤ 1; split <;> omega
theorem ms_one {x y b : Nat} (hx : x < 4294967296) (hy : y < 4294967296) (hb : b ≤ 1) : (x + 4294967296 - y - b) % 4294967296 + y + b = x + (if x < y + b then 1 else 0) * 4294967296 := by
  split <;> omega
theorem mb_succ (d e : Nat → Nat) (i : Nat) : mb d e (i + 1) = if d i < e i + mb d e i then 1 else 0 := rfl
theorem ms_def (d e : Nat → Nat) (i : Nat) : ms d e i = (d i + 4294967296 - e i - mb d e i) % 4294967296 := rfl
theorem ms_val {d e : Nat → Nat} (hd : ∀ i, d i < 4294967296) (he : ∀ i, e i < 4294967296) (n : Nat) : nv (ms d e) n + nv e n = nv d n + mb d e n * 2 ^ (32 * n) := by
  induction n with
  | zero => simp only [nv, mb, Nat.zero_mul, Nat.add_zero]
  | succ n ih =>
    have h := ms_one (hd n) (he n) (mb_le d e n)
    rw [← mb_succ, ← ms_def] at h
    have h4 : ms d e n * 2 ^ (32 * n) + e n * 2 ^ (32 * n) + mb d e n * 2 ^ (32 * n) = d n * 2 ^ (32 * n) + mb d e (n + 1) * 4294967296 * 2 ^ (32 * n) := by rw [← Nat.add_mul, ← Nat.add_mul, h, Nat.add_mul]
    have h5 : mb d e (n + 1) * 2 ^ (32 * (n + 1)) = mb d e (n + 1) * 4294967296 * 2 ^ (32 * n) := by rw [pw, Nat.mul_comm (2 ^ (32 * n)), ← Nat.mul_assoc]
    show nv (ms d e) n + ms d e n * 2 ^ (32 * n) + (nv e n + e n * 2 ^ (32 * n)) = nv d n + d n * 2 ^ (32 * n) + mb d e (n + 1) * 2 ^ (32 * (n + 1))
    rw [h5]
    generalize mb d e (n + 1) * 4294967296 * 2 ^ (32 * n) = A at *
    generalize ms d e n * 2 ^ (32 * n) = B1 at *
    generalize e n * 2 ^ (32 * n) = B2 at *
    generalize mb d e n * 2 ^ (32 * n) = B3 at *
    generalize d n * 2 ^ (32 * n) = B4 at *
    omega
end Go.Proofs.Nt
