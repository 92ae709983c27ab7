/-
  Numbers: the three moduli of layer 9 are primes, by the kernel. Of no program.
-/
import Derived.Test.YtpniinolkflfjaaJoac
namespace Go.Proofs.Nt
/-- acc * b ^ e modulo n, e below 2 ^ f. -/
def pm (n : Nat) : Nat → Nat → Nat → Nat → Nat
  | 0, _, _, acc => acc % n
  | f + 1, b, e, acc => pm n f (b * b % n) (e / 2) (bif e % 2 == 1 then acc * b % n else acc)
theorem pm_eq (n : Nat) : ∀ f b e acc, e < 2 ^ f → pm n f b e acc = acc * b ^ e % n
  | 0, b, e, acc, h => by
    have : e = 0 := by rw [Nat.pow_zero] at h; omega
    subst this
    show acc % n = _
    rw [Nat.pow_zero, Nat.mul_one]
  | f + 1, b, e, acc, h => by
    have h2 : e / 2 < 2 ^ f := by rw [Nat.pow_succ] at h; omega
    show pm n f (b * b % n) (e / 2) (bif e % 2 == 1 then acc * b % n else acc) = _
    rw [pm_eq n f _ _ _ h2, Nat.mul_mod, ← Nat.pow_mod, ← Nat.mul_mod, ← Nat.pow_two, ← Nat.pow_mul]
    rcases Nat.mod_two_eq_zero_or_one e with h0 | h0
    · rw [h0, show 2 * (e / 2) = e by omega]; rfl
    · rw [h0]
      show acc * b % n * b ^ (2 * (e / 2)) % n = _
      rw [Nat.mod_mul_mod, Nat.mul_assoc, ← Nat.pow_succ', show (2 * (e / 2)).succ = e by omega]
def trial (n : Nat) : Nat → Bool
  | 0 => true
  | d + 1 => (n % (d + 2) != 0) && trial n d
theorem trial_no (n : Nat) : ∀ k, trial n k = true → ∀ d, 2 ≤ d → d ≤ k + 1 → ¬ d ∣ n
  | 0, _, d, h1, h2, _ => by omega
  | k + 1, h, d, h1, h2, hd => by
    have h3 : ((n % (k + 2) != 0) && trial n k) = true := h
    rw [Bool.and_eq_true] at h3
    by_cases e : d = k + 2
    · subst e; rw [Nat.mod_eq_zero_of_dvd hd] at h3; exact absurd h3.1 (by decide)
    · exact trial_no n k h3.2 d h1 (by omega) hd
theorem of_trial {n : Nat} (hn : 2 ≤ n) (h : trial n (n - 2) = true) : Prime n := by
  refine ⟨hn, fun d hd => Classical.byContradiction fun hno => ?_⟩
  have h1 := Nat.le_of_dvd (by omega) hd
  have h0 : d ≠ 0 := fun e => by subst e; have := Nat.eq_zero_of_zero_dvd hd; omega
  exact trial_no n (n - 2) h d (by omega) (by omega) hd
/-- One prime power's part of a certificate, with base 2. -/
def part (n q e : Nat) : Bool := ((n - 1) % q ^ (e + 1) == 0 && pm n 256 2 (n - 1) 1 == 1) && (Nat.gcd (pm n 256 2 ((n - 1) / q) 1 + (n - 1)) n == 1 && Nat.ble n (2 ^ 256))
theorem part_dvd {n q e r : Nat} (hn : 2 ≤ n) (hq : Prime q) (h : part n q e = true) (hr : Prime r) (hrn : r ∣ n) : q ^ (e + 1) ∣ r - 1 := by
  unfold part at h
  rw [Bool.and_eq_true, Bool.and_eq_true, Bool.and_eq_true, beq_iff_eq, beq_iff_eq, beq_iff_eq] at h
  obtain ⟨⟨h1, h2⟩, h3, h4⟩ := h
  have h4 := Nat.le_of_ble_eq_true h4
  rw [pm_eq n _ _ _ _ (by omega), Nat.one_mul] at h2
  rw [pm_eq n _ _ _ _ (by have := Nat.div_le_self (n - 1) q; omega), Nat.one_mul] at h3
  exact pock_one hq hr hrn (Nat.dvd_of_mod_eq_zero h1) hn h2 h3
theorem pock1 {n q e : Nat} (hq : Prime q) (h : part n q e = true) (hn : Nat.ble 2 n = true) (hF : Nat.blt n (q ^ (e + 1) * q ^ (e + 1)) = true) : Prime n :=
  pock_end (Nat.le_of_ble_eq_true hn) (Nat.le_of_ble_eq_true hF) fun _ hr hrn => part_dvd (Nat.le_of_ble_eq_true hn) hq h hr hrn
theorem pow_coprime {a b : Nat} (h : Nat.Coprime a b) (m k : Nat) : Nat.Coprime (a ^ m) (b ^ k) := Nat.Coprime.pow m k h
theorem pock2 {n q e q2 e2 : Nat} (hq : Prime q) (hq2 : Prime q2) (hne : Nat.beq q q2 = false) (h : part n q e = true) (h2 : part n q2 e2 = true) (hn : Nat.ble 2 n = true)
    (hF : Nat.blt n (q ^ (e + 1) * q2 ^ (e2 + 1) * (q ^ (e + 1) * q2 ^ (e2 + 1))) = true) : Prime n :=
  pock_end (Nat.le_of_ble_eq_true hn) (Nat.le_of_ble_eq_true hF) fun r hr hrn =>
    Nat.Coprime.mul_dvd_of_dvd_of_dvd (pow_coprime (hq.coprime fun hd => by
      rcases hq2.2 q hd with c | c
      · have := hq.1; omega
      · rw [c, Nat.beq_refl] at hne; cases hne) _ _)
      (part_dvd (Nat.le_of_ble_eq_true hn) hq h hr hrn) (part_dvd (Nat.le_of_ble_eq_true hn) hq2 h2 hr hrn)
theorem pr_313 : Prime 313 := of_trial (by decide) (by decide +kernel)
theorem pr_5 : Prime 5 := of_trial (by decide) (by decide +kernel)
theorem pr_704251 : Prime 704251 :=
  pock2 (q := 313) (e := 0) (q2 := 5) (e2 := 2) pr_313 pr_5 (by decide) (by decide +kernel) (by decide +kernel) (by decide +kernel) (by decide +kernel)
theorem pr_1087 : Prime 1087 := of_trial (by decide) (by decide +kernel)
theorem pr_4349 : Prime 4349 :=
  pock1 (q := 1087) (e := 0) pr_1087 (by decide +kernel) (by decide +kernel) (by decide +kernel)
theorem pr_78283 : Prime 78283 :=
  pock1 (q := 4349) (e := 0) pr_4349 (by decide +kernel) (by decide +kernel) (by decide +kernel)
theorem pr_46076956964474543 : Prime 46076956964474543 :=
  pock2 (q := 704251) (e := 0) (q2 := 78283) (e2 := 0) pr_704251 pr_78283 (by decide) (by decide +kernel) (by decide +kernel) (by decide +kernel) (by decide +kernel)
theorem pr_919 : Prime 919 := of_trial (by decide) (by decide +kernel)
theorem pr_3677 : Prime 3677 :=
  pock1 (q := 919) (e := 0) pr_919 (by decide +kernel) (by decide +kernel) (by decide +kernel)
theorem pr_197 : Prime 197 := of_trial (by decide) (by decide +kernel)
theorem pr_66417393611 : Prime 66417393611 :=
  pock2 (q := 3677) (e := 0) (q2 := 197) (e2 := 0) pr_3677 pr_197 (by decide) (by decide +kernel) (by decide +kernel) (by decide +kernel) (by decide +kernel)
theorem pr_11290956913871 : Prime 11290956913871 :=
  pock1 (q := 66417393611) (e := 0) pr_66417393611 (by decide +kernel) (by decide +kernel) (by decide +kernel)
theorem pr_774023187263532362759620327192479577272145303 : Prime 774023187263532362759620327192479577272145303 :=
  pock2 (q := 46076956964474543) (e := 0) (q2 := 11290956913871) (e2 := 0) pr_46076956964474543 pr_11290956913871 (by decide) (by decide +kernel) (by decide +kernel) (by decide +kernel) (by decide +kernel)
theorem pr_835945042244614951780389953367877943453916927241 : Prime 835945042244614951780389953367877943453916927241 :=
  pock1 (q := 774023187263532362759620327192479577272145303) (e := 0) pr_774023187263532362759620327192479577272145303 (by decide +kernel) (by decide +kernel) (by decide +kernel)
theorem pr_115792089210356248762697446949407573530086143415290314195533631308867097853951 : Prime 115792089210356248762697446949407573530086143415290314195533631308867097853951 :=
  pock1 (q := 835945042244614951780389953367877943453916927241) (e := 0) pr_835945042244614951780389953367877943453916927241 (by decide +kernel) (by decide +kernel) (by decide +kernel)
theorem pr_43 : Prime 43 := of_trial (by decide) (by decide +kernel)
theorem pr_155317 : Prime 155317 :=
  pock1 (q := 43) (e := 1) pr_43 (by decide +kernel) (by decide +kernel) (by decide +kernel)
theorem pr_191039911 : Prime 191039911 :=
  pock1 (q := 155317) (e := 0) pr_155317 (by decide +kernel) (by decide +kernel) (by decide +kernel)
theorem pr_1511 : Prime 1511 := of_trial (by decide) (by decide +kernel)
theorem pr_3023 : Prime 3023 :=
  pock1 (q := 1511) (e := 0) pr_1511 (by decide +kernel) (by decide +kernel) (by decide +kernel)
theorem pr_208150935158385979 : Prime 208150935158385979 :=
  pock2 (q := 191039911) (e := 0) (q2 := 3023) (e2 := 0) pr_191039911 pr_3023 (by decide) (by decide +kernel) (by decide +kernel) (by decide +kernel) (by decide +kernel)
theorem pr_2624747550333869278416773953 : Prime 2624747550333869278416773953 :=
  pock1 (q := 208150935158385979) (e := 0) pr_208150935158385979 (by decide +kernel) (by decide +kernel) (by decide +kernel)
theorem pr_337 : Prime 337 := of_trial (by decide) (by decide +kernel)
theorem pr_104471 : Prime 104471 :=
  pock1 (q := 337) (e := 0) pr_337 (by decide +kernel) (by decide +kernel) (by decide +kernel)
theorem pr_3969899 : Prime 3969899 :=
  pock1 (q := 104471) (e := 0) pr_104471 (by decide +kernel) (by decide +kernel) (by decide +kernel)
theorem pr_1002328039319 : Prime 1002328039319 :=
  pock1 (q := 3969899) (e := 0) pr_3969899 (by decide +kernel) (by decide +kernel) (by decide +kernel)
theorem pr_115792089210356248762697446949407573529996955224135760342422259061068512044369 : Prime 115792089210356248762697446949407573529996955224135760342422259061068512044369 :=
  pock2 (q := 2624747550333869278416773953) (e := 0) (q2 := 1002328039319) (e2 := 0) pr_2624747550333869278416773953 pr_1002328039319 (by decide) (by decide +kernel) (by decide +kernel) (by decide +kernel) (by decide +kernel)
theorem pr_991 : Prime 991 := of_trial (by decide) (by decide +kernel)
theorem pr_103 : Prime 103 := of_trial (by decide) (by decide +kernel)
theorem pr_8574133 : Prime 8574133 :=
  pock2 (q := 991) (e := 0) (q2 := 103) (e2 := 0) pr_991 pr_103 (by decide) (by decide +kernel) (by decide +kernel) (by decide +kernel) (by decide +kernel)
theorem pr_127 : Prime 127 := of_trial (by decide) (by decide +kernel)
theorem pr_1919519569386763 : Prime 1919519569386763 :=
  pock2 (q := 8574133) (e := 0) (q2 := 127) (e2 := 0) pr_8574133 pr_127 (by decide) (by decide +kernel) (by decide +kernel) (by decide +kernel) (by decide +kernel)
theorem pr_419 : Prime 419 := of_trial (by decide) (by decide +kernel)
theorem pr_97 : Prime 97 := of_trial (by decide) (by decide +kernel)
theorem pr_569003 : Prime 569003 :=
  pock2 (q := 419) (e := 0) (q2 := 97) (e2 := 0) pr_419 pr_97 (by decide) (by decide +kernel) (by decide +kernel) (by decide +kernel) (by decide +kernel)
theorem pr_2773320623 : Prime 2773320623 :=
  pock1 (q := 569003) (e := 0) pr_569003 (by decide +kernel) (by decide +kernel) (by decide +kernel)
theorem pr_72106336199 : Prime 72106336199 :=
  pock1 (q := 2773320623) (e := 0) pr_2773320623 (by decide +kernel) (by decide +kernel) (by decide +kernel)
theorem pr_75445702479781427272750846543864801 : Prime 75445702479781427272750846543864801 :=
  pock2 (q := 1919519569386763) (e := 0) (q2 := 72106336199) (e2 := 0) pr_1919519569386763 pr_72106336199 (by decide) (by decide +kernel) (by decide +kernel) (by decide +kernel) (by decide +kernel)
theorem pr_1723 : Prime 1723 := of_trial (by decide) (by decide +kernel)
theorem pr_430751 : Prime 430751 :=
  pock1 (q := 1723) (e := 0) pr_1723 (by decide +kernel) (by decide +kernel) (by decide +kernel)
theorem pr_173 : Prime 173 := of_trial (by decide) (by decide +kernel)
theorem pr_4153 : Prime 4153 :=
  pock1 (q := 173) (e := 0) pr_173 (by decide +kernel) (by decide +kernel) (by decide +kernel)
theorem pr_31757755568855353 : Prime 31757755568855353 :=
  pock2 (q := 430751) (e := 0) (q2 := 4153) (e2 := 0) pr_430751 pr_4153 (by decide) (by decide +kernel) (by decide +kernel) (by decide +kernel) (by decide +kernel)
theorem pr_74058212732561358302231226437062788676166966415465897661863160754340907 : Prime 74058212732561358302231226437062788676166966415465897661863160754340907 :=
  pock2 (q := 75445702479781427272750846543864801) (e := 0) (q2 := 31757755568855353) (e2 := 0) pr_75445702479781427272750846543864801 pr_31757755568855353 (by decide) (by decide +kernel) (by decide +kernel) (by decide +kernel) (by decide +kernel)
theorem pr_57896044618658097711785492504343953926634992332820282019728792003956564819949 : Prime 57896044618658097711785492504343953926634992332820282019728792003956564819949 :=
  pock1 (q := 74058212732561358302231226437062788676166966415465897661863160754340907) (e := 0) pr_74058212732561358302231226437062788676166966415465897661863160754340907 (by decide +kernel) (by decide +kernel) (by decide +kernel)
/-- A number's inverse: its power by two less than the modulus. -/
theorem inv_pow {m a : Nat} (hm : Prime m) (h0 : 0 < a) (ha : a < m) : a * (a ^ (m - 2) % m) % m = 1 := by
  have h := fermat hm (a := a) (fun hd => by have := Nat.le_of_dvd h0 hd; omega)
  have h2 := hm.1
  rw [Nat.mul_mod_mod, ← Nat.pow_succ', show (m - 2).succ = m - 1 by omega]
  exact h
theorem inv_one {m a b c : Nat} (hb : b < m) (hc : c < m) (h1 : a * b % m = 1) (h2 : a * c % m = 1) : b = c := by
  have e1 : b * (a * c) % m = b := by rw [Nat.mul_mod, h2, Nat.mul_one, Nat.mod_mod, Nat.mod_eq_of_lt hb]
  have e2 : c * (a * b) % m = c := by rw [Nat.mul_mod, h1, Nat.mul_one, Nat.mod_mod, Nat.mod_eq_of_lt hc]
  have e3 : b * (a * c) = c * (a * b) := by rw [Nat.mul_left_comm, Nat.mul_left_comm c a b, Nat.mul_comm c b]
  rw [e3] at e1
  exact e1.symm.trans e2
theorem mod_p : Prime 115792089210356248762697446949407573530086143415290314195533631308867097853951 := pr_115792089210356248762697446949407573530086143415290314195533631308867097853951
theorem mod_n : Prime 115792089210356248762697446949407573529996955224135760342422259061068512044369 := pr_115792089210356248762697446949407573529996955224135760342422259061068512044369
theorem mod_x : Prime 57896044618658097711785492504343953926634992332820282019728792003956564819949 := pr_57896044618658097711785492504343953926634992332820282019728792003956564819949
end Go.Proofs.Nt
