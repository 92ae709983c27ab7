/-
  Numbers: primes, Fermat's theorem, Pocklington's test. Of no program.
-/
import Derived.Below
namespace Go.Proofs.Nt
def Prime (p : Nat) : Prop := 2 ≤ p ∧ ∀ d, d ∣ p → d = 1 ∨ d = p
theorem Prime.pos {p : Nat} (h : Prime p) : 0 < p := by have := h.1; omega
theorem prime_factor : ∀ n, 2 ≤ n → ∃ r, Prime r ∧ r ∣ n := by
  intro n
  induction n using Nat.strongRecOn with
  | ind n ih =>
    intro hn
    by_cases h : Prime n
    · exact ⟨n, h, Nat.dvd_refl n⟩
    · have : ∃ d, d ∣ n ∧ d ≠ 1 ∧ d ≠ n := by
        refine Classical.byContradiction fun c => h ⟨hn, fun d hd => ?_⟩
        refine Classical.byContradiction fun c2 => c ⟨d, hd, fun e => c2 (.inl e), fun e => c2 (.inr e)⟩
      obtain ⟨d, hd, h1, h2⟩ := this
      have hle := Nat.le_of_dvd (by omega) hd
      have h0 : d ≠ 0 := fun e => by subst e; have := Nat.eq_zero_of_zero_dvd hd; omega
      obtain ⟨r, hr, hrd⟩ := ih d (by omega) (by omega)
      exact ⟨r, hr, Nat.dvd_trans hrd hd⟩
theorem Prime.coprime {p a : Nat} (h : Prime p) (ha : ¬ p ∣ a) : Nat.Coprime p a := by
  rcases h.2 _ (Nat.gcd_dvd_left p a) with e | e
  · exact e
  · exact absurd (e ▸ Nat.gcd_dvd_right p a) ha
theorem Prime.dvd_mul {p a b : Nat} (h : Prime p) (hd : p ∣ a * b) : p ∣ a ∨ p ∣ b := by
  by_cases ha : p ∣ a
  · exact .inl ha
  · exact .inr ((h.coprime ha).dvd_of_dvd_mul_left hd)
theorem Prime.dvd_pow {p a : Nat} (h : Prime p) : ∀ n, p ∣ a ^ n → p ∣ a
  | 0, hd => by
    rw [Nat.pow_zero] at hd
    have := Nat.le_of_dvd (by decide) hd
    have := h.1
    omega
  | n + 1, hd => by
    rw [Nat.pow_succ] at hd
    rcases h.dvd_mul hd with e | e
    · exact Prime.dvd_pow h n e
    · exact e
/-- Pascal's numbers. -/
def ch : Nat → Nat → Nat
  | _, 0 => 1
  | 0, _ + 1 => 0
  | n + 1, k + 1 => ch n k + ch n (k + 1)
theorem ch_out : ∀ n k, n < k → ch n k = 0
  | _, 0, h => absurd h (by omega)
  | 0, _ + 1, _ => rfl
  | n + 1, k + 1, h => by show ch n k + ch n (k + 1) = 0; rw [ch_out n k (by omega), ch_out n (k + 1) (by omega)]
theorem ch_self : ∀ n, ch n n = 1
  | 0 => rfl
  | n + 1 => by show ch n n + ch n (n + 1) = 1; rw [ch_self n, ch_out n (n + 1) (by omega)]
theorem ch_zero (n : Nat) : ch n 0 = 1 := by cases n <;> rfl
theorem ch_mul : ∀ n k, (k + 1) * ch (n + 1) (k + 1) = (n + 1) * ch n k
  | 0, 0 => rfl
  | 0, k + 1 => by
    show (k + 1 + 1) * (ch 0 (k + 1) + ch 0 (k + 2)) = 1 * ch 0 (k + 1)
    show (k + 1 + 1) * (0 + 0) = 1 * 0
    omega
  | n + 1, 0 => by
    have h : 1 * ch (n + 1) 1 = (n + 1) * ch n 0 := ch_mul n 0
    show 1 * (ch (n + 1) 0 + ch (n + 1) 1) = (n + 2) * ch (n + 1) 0
    rw [ch_zero]
    rw [ch_zero] at h
    omega
  | n + 1, k + 1 => by
    have h1 := ch_mul n k
    have h2 := ch_mul n (k + 1)
    show (k + 2) * (ch (n + 1) (k + 1) + ch (n + 1) (k + 2)) = (n + 2) * ch (n + 1) (k + 1)
    have e : ch (n + 1) (k + 1) = ch n k + ch n (k + 1) := rfl
    rw [Nat.mul_add, h2]
    have h3 : (k + 2) * ch (n + 1) (k + 1) = (k + 1) * ch (n + 1) (k + 1) + ch (n + 1) (k + 1) := Nat.succ_mul _ _
    have h4 : (n + 2) * ch (n + 1) (k + 1) = (n + 1) * ch (n + 1) (k + 1) + ch (n + 1) (k + 1) := Nat.succ_mul _ _
    have h5 : (n + 1) * ch (n + 1) (k + 1) = (n + 1) * ch n k + (n + 1) * ch n (k + 1) := by rw [e, Nat.mul_add]
    omega
/-- (a + 1) ^ n, summed up. -/
def bs (n a : Nat) : Nat → Nat
  | 0 => 1
  | k + 1 => bs n a k + ch n (k + 1) * a ^ (k + 1)
theorem bs_succ (n a : Nat) : ∀ k, bs (n + 1) a (k + 1) = bs n a (k + 1) + a * bs n a k
  | 0 => by
    show 1 + (ch n 0 + ch n 1) * a ^ 1 = 1 + ch n 1 * a ^ 1 + a * 1
    rw [ch_zero, Nat.add_mul, Nat.pow_one]; omega
  | k + 1 => by
    have h := bs_succ n a k
    show bs (n + 1) a (k + 1) + (ch n (k + 1) + ch n (k + 2)) * a ^ (k + 2) = bs n a (k + 1) + ch n (k + 2) * a ^ (k + 2) + a * (bs n a k + ch n (k + 1) * a ^ (k + 1))
    rw [h, Nat.add_mul, Nat.mul_add, show a * (ch n (k + 1) * a ^ (k + 1)) = ch n (k + 1) * a ^ (k + 2) by rw [Nat.pow_succ a (k + 1), Nat.mul_left_comm, Nat.mul_comm a]]
    omega
theorem bs_pow (a : Nat) : ∀ n, (a + 1) ^ n = bs n a n
  | 0 => rfl
  | n + 1 => by
    rw [bs_succ, Nat.pow_succ, bs_pow a n]
    show bs n a n * (a + 1) = bs n a n + ch n (n + 1) * a ^ (n + 1) + a * bs n a n
    rw [ch_out n (n + 1) (by omega), Nat.zero_mul, Nat.mul_add, Nat.mul_one, Nat.mul_comm]; omega
theorem ch_prime {p k : Nat} (h : Prime p) (h0 : 0 < k) (h1 : k < p) : p ∣ ch p k := by
  obtain ⟨j, rfl⟩ : ∃ j, k = j + 1 := ⟨k - 1, by omega⟩
  obtain ⟨q, rfl⟩ : ∃ q, p = q + 1 := ⟨p - 1, by omega⟩
  have e := ch_mul q j
  have hd : q + 1 ∣ (j + 1) * ch (q + 1) (j + 1) := ⟨_, e⟩
  rcases h.dvd_mul hd with c | c
  · have := Nat.le_of_dvd (by omega) c; omega
  · exact c
theorem bs_prime {p : Nat} (h : Prime p) (a : Nat) : ∀ k, k < p → ∃ t, bs p a k = 1 + p * t
  | 0, _ => ⟨0, rfl⟩
  | k + 1, hk => by
    obtain ⟨t, ht⟩ := bs_prime h a k (by omega)
    obtain ⟨c, hc⟩ := ch_prime h (k := k + 1) (by omega) hk
    refine ⟨t + c * a ^ (k + 1), ?_⟩
    show bs p a k + ch p (k + 1) * a ^ (k + 1) = _
    rw [ht, hc, Nat.mul_add, Nat.mul_assoc]; omega
theorem pow_prime {p : Nat} (h : Prime p) : ∀ a, ∃ t, a ^ p = a + p * t
  | 0 => ⟨0, by have := h.1; rw [Nat.zero_pow (by omega)]; rfl⟩
  | a + 1 => by
    obtain ⟨t, ht⟩ := pow_prime h a
    obtain ⟨q, hq⟩ : ∃ q, p = q + 1 := ⟨p - 1, by have := h.1; omega⟩
    obtain ⟨c, hc⟩ := bs_prime h a q (by omega)
    refine ⟨c + t, ?_⟩
    have e : bs p a p = bs p a q + ch p p * a ^ p := by
      conv => lhs; rw [hq]
      show bs (q + 1) a q + ch (q + 1) (q + 1) * a ^ (q + 1) = _
      rw [← hq]
    rw [bs_pow, e, hc, ch_self, ht, Nat.one_mul, Nat.mul_add]; omega
/-- Fermat. -/
theorem fermat {p a : Nat} (h : Prime p) (ha : ¬ p ∣ a) : a ^ (p - 1) % p = 1 := by
  obtain ⟨t, ht⟩ := pow_prime h a
  obtain ⟨q, hq⟩ : ∃ q, p = q + 1 := ⟨p - 1, by have := h.1; omega⟩
  have h2 := h.1
  have ha0 : 0 < a := Nat.pos_of_ne_zero fun e => ha (e ▸ Nat.dvd_zero p)
  have hp : 0 < a ^ q := Nat.pow_pos ha0
  have e : a * (a ^ q - 1) = p * t := by
    rw [Nat.mul_sub, Nat.mul_one, Nat.mul_comm, ← Nat.pow_succ, show q.succ = p from hq.symm, ht]; omega
  rcases h.dvd_mul (show p ∣ a * (a ^ q - 1) from ⟨t, e⟩) with c | c
  · exact absurd c ha
  · obtain ⟨s, hs⟩ := c
    rw [show p - 1 = q by omega, show a ^ q = 1 + p * s by omega, Nat.add_mul_mod_self_left]
    exact Nat.mod_eq_of_lt (by omega)
theorem pow_mul_one {r x m : Nat} (h : x ^ m % r = 1) (hr : 2 ≤ r) (k : Nat) : x ^ (m * k) % r = 1 := by
  rw [Nat.pow_mul, Nat.pow_mod, h, Nat.one_pow]
  exact Nat.mod_eq_of_lt (by omega)
theorem pow_gcd {r x : Nat} (hr : 2 ≤ r) (m k : Nat) : x ^ m % r = 1 → x ^ k % r = 1 → x ^ Nat.gcd m k % r = 1 := by
  induction m, k using Nat.gcd.induction with
  | H0 k => intro _ h; rw [Nat.gcd_zero_left]; exact h
  | H1 m k hm ih =>
    intro h1 h2
    rw [Nat.gcd_rec]
    refine ih ?_ h1
    have e : x ^ k % r = x ^ (k % m) % r := by
      conv => lhs; rw [← Nat.mod_add_div k m]
      rw [Nat.pow_add, Nat.mul_mod, pow_mul_one h1 hr, Nat.mul_one, Nat.mod_mod]
    rw [← e]; exact h2
theorem dvd_prime_pow {q d e : Nat} (h : Prime q) (hd : d ∣ q ^ (e + 1)) (hne : d ≠ q ^ (e + 1)) : d ∣ q ^ e := by
  obtain ⟨c, hc⟩ := hd
  have hpos : 0 < q ^ (e + 1) := Nat.pow_pos h.pos
  have hc0 : c ≠ 0 := fun e0 => by rw [e0, Nat.mul_zero] at hc; omega
  have hc1 : c ≠ 1 := fun e1 => hne (by rw [hc, e1, Nat.mul_one])
  obtain ⟨s, hs, hsc⟩ := prime_factor c (by omega)
  have hsq : s ∣ q := hs.dvd_pow (e + 1) (hc ▸ Nat.dvd_trans hsc (Nat.dvd_mul_left c d))
  rcases h.2 s hsq with e1 | e1
  · have := hs.1; omega
  · subst e1
    obtain ⟨c', rfl⟩ := hsc
    refine ⟨c', ?_⟩
    have h2 : s * s ^ e = s * (d * c') := by rw [← Nat.mul_left_comm d s c', ← hc, Nat.pow_succ, Nat.mul_comm]
    exact Nat.eq_of_mul_eq_mul_left h.pos h2
/-- Pocklington: what a prime power of n - 1 says of each prime factor. -/
theorem pock_one {n q e b r : Nat} (hq : Prime q) (hr : Prime r) (hrn : r ∣ n) (hd : q ^ (e + 1) ∣ n - 1) (hn : 2 ≤ n)
    (h1 : b ^ (n - 1) % n = 1) (h2 : Nat.Coprime (b ^ ((n - 1) / q) % n + (n - 1)) n) : q ^ (e + 1) ∣ r - 1 := by
  obtain ⟨c, hc⟩ := hd
  have hr2 := hr.1
  have dn : ∀ y, y % n = 1 → y % r = 1 := fun y hy => by
    obtain ⟨k, hk⟩ := hrn
    have e1 : y % n % r = y % r := Nat.mod_mod_of_dvd y ⟨k, hk⟩
    rw [← e1, hy]
    exact Nat.mod_eq_of_lt (by omega)
  have hx1 : (b ^ c) ^ (q ^ (e + 1)) % r = 1 := by
    rw [← Nat.pow_mul, Nat.mul_comm, ← hc]; exact dn _ h1
  have hdiv : (n - 1) / q = q ^ e * c := by
    rw [hc, Nat.pow_succ, Nat.mul_comm (q ^ e) q, Nat.mul_assoc, Nat.mul_div_cancel_left _ hq.pos]
  have hx2 : ¬ (b ^ c) ^ (q ^ e) % r = 1 := fun h => by
    rw [← Nat.pow_mul, Nat.mul_comm, ← hdiv] at h
    have h3 : (b ^ ((n - 1) / q) % n + (n - 1)) % r = 0 := by
      obtain ⟨k, hk⟩ := hrn
      have e1 : b ^ ((n - 1) / q) % n % r = 1 := by rw [Nat.mod_mod_of_dvd _ ⟨k, hk⟩]; exact h
      have e2 : b ^ ((n - 1) / q) % n = 1 + r * (b ^ ((n - 1) / q) % n / r) := by
        have := Nat.mod_add_div (b ^ ((n - 1) / q) % n) r
        omega
      rw [e2, show 1 + r * (b ^ ((n - 1) / q) % n / r) + (n - 1) = r * (b ^ ((n - 1) / q) % n / r + k) by rw [Nat.mul_add, ← hk]; omega]
      exact Nat.mul_mod_right _ _
    have h4 : r ∣ Nat.gcd (b ^ ((n - 1) / q) % n + (n - 1)) n := Nat.dvd_gcd (Nat.dvd_of_mod_eq_zero h3) hrn
    rw [h2] at h4
    have := Nat.le_of_dvd (by decide) h4
    omega
  have hx3 : (b ^ c) ^ (r - 1) % r = 1 := by
    refine fermat hr fun hd => ?_
    have h5 : (b ^ c) ^ (q ^ (e + 1)) % r = 0 := by
      have hne : q ^ (e + 1) ≠ 0 := Nat.ne_of_gt (Nat.pow_pos hq.pos)
      obtain ⟨j, hj⟩ : ∃ j, q ^ (e + 1) = j + 1 := ⟨q ^ (e + 1) - 1, by omega⟩
      rw [hj, Nat.pow_succ]
      exact Nat.mod_eq_zero_of_dvd (Nat.dvd_trans hd (Nat.dvd_mul_left _ _))
    omega
  have hg := pow_gcd hr2 (q ^ (e + 1)) (r - 1) hx1 hx3
  refine Classical.byContradiction fun hno => ?_
  have hne : Nat.gcd (q ^ (e + 1)) (r - 1) ≠ q ^ (e + 1) := fun h => hno (h ▸ Nat.gcd_dvd_right _ _)
  obtain ⟨s, hs⟩ := dvd_prime_pow hq (Nat.gcd_dvd_left _ _) hne
  refine hx2 ?_
  rw [hs]
  exact pow_mul_one hg hr2 s
theorem pock_end {n F : Nat} (hn : 2 ≤ n) (hF : n < F * F) (h : ∀ r, Prime r → r ∣ n → F ∣ r - 1) : Prime n := by
  refine ⟨hn, fun d hd => Classical.byContradiction fun hno => ?_⟩
  obtain ⟨c, hc⟩ := hd
  have big : ∀ x, x ∣ n → 2 ≤ x → F + 1 ≤ x := fun x hx h2 => by
    obtain ⟨r, hr, hrx⟩ := prime_factor x h2
    have h1 := Nat.le_of_dvd (by have := hr.1; omega) (h r hr (Nat.dvd_trans hrx hx))
    have h3 := Nat.le_of_dvd (by omega) hrx
    have := hr.1
    omega
  have hd0 : d ≠ 0 := fun e => by rw [e, Nat.zero_mul] at hc; omega
  have hc0 : c ≠ 0 := fun e => by rw [e, Nat.mul_zero] at hc; omega
  have hc1 : c ≠ 1 := fun e => hno (.inr (by rw [hc, e, Nat.mul_one]))
  have hd1 : d ≠ 1 := fun e => hno (.inl e)
  have b1 := big d ⟨c, hc⟩ (by omega)
  have b2 := big c ⟨d, by rw [hc, Nat.mul_comm]⟩ (by omega)
  have := Nat.mul_le_mul b1 b2
  rw [← hc] at this
  have : F * F ≤ (F + 1) * (F + 1) := Nat.mul_le_mul (by omega) (by omega)
  omega
end Go.Proofs.Nt
