/-
  GHASH's field as pairs of words, of no program: a product by steps of one power is the product by steps of four.
-/
import Derived.Test.YtljhenjbjondkaaJoal
namespace Go.Proofs.Gd
open Go.RowKit Go.Proofs.Gcm
/-- A sum of elements. -/
def pl (p q : Nat × Nat) : Nat × Nat := (p.1 ^^^ q.1, p.2 ^^^ q.2)
/-- An element times x. -/
def xs (p : Nat × Nat) : Nat × Nat := (p.1 / 2 ^^^ p.2 % 2 * 16212958658533785600, p.2 / 2 ^^^ p.1 % 2 * 9223372036854775808)
def up (p : Nat × Nat) : Nat → Nat × Nat
  | 0 => p
  | n + 1 => xs (up p n)
def sc (b : Nat) (p : Nat × Nat) : Nat × Nat := if b = 1 then p else (0, 0)
theorem pl_assoc (p q r : Nat × Nat) : pl (pl p q) r = pl p (pl q r) := by unfold pl; simp only [Nat.xor_assoc]
theorem pl_comm (p q : Nat × Nat) : pl p q = pl q p := by unfold pl; rw [Nat.xor_comm p.1, Nat.xor_comm p.2]
theorem pl_zero (p : Nat × Nat) : pl p (0, 0) = p := by unfold pl; simp only [Nat.xor_zero]
theorem xdiv (a b : Nat) : (a ^^^ b) / 2 = a / 2 ^^^ b / 2 := Nat.xor_div_two_pow (n := 1)
theorem xmod (a b e : Nat) : (a ^^^ b) % 2 * e = (a % 2 * e) ^^^ (b % 2 * e) := by
  have h : (a ^^^ b) % 2 = a % 2 ^^^ b % 2 := Nat.xor_mod_two_pow (n := 1)
  rw [h]
  rcases Nat.mod_two_eq_zero_or_one a with e1 | e1 <;> rcases Nat.mod_two_eq_zero_or_one b with e2 | e2 <;> rw [e1, e2] <;> simp
theorem xor4' (a b c d : Nat) : (a ^^^ b) ^^^ (c ^^^ d) = (a ^^^ c) ^^^ (b ^^^ d) := by
  rw [Nat.xor_assoc, ← Nat.xor_assoc b, Nat.xor_comm b c, Nat.xor_assoc c, ← Nat.xor_assoc]
theorem xs_pl (p q : Nat × Nat) : xs (pl p q) = pl (xs p) (xs q) := by
  unfold xs pl
  simp only [xdiv, xmod]
  exact Prod.ext (xor4' _ _ _ _) (xor4' _ _ _ _)
theorem up_pl (p q : Nat × Nat) (n : Nat) : up (pl p q) n = pl (up p n) (up q n) := by
  induction n with
  | zero => rfl
  | succ n ih => show xs (up (pl p q) n) = _; rw [ih, xs_pl]; rfl
theorem up_zero (n : Nat) : up (0, 0) n = (0, 0) := by
  induction n with
  | zero => rfl
  | succ n ih => show xs (up (0, 0) n) = _; rw [ih]; decide
theorem up_sc (b : Nat) (p : Nat × Nat) (n : Nat) : up (sc b p) n = sc b (up p n) := by
  unfold sc
  split
  · rfl
  · exact up_zero n
theorem up_up (p : Nat × Nat) (n k : Nat) : up (up p n) k = up p (k + n) := by
  induction k with
  | zero => rw [Nat.zero_add]; rfl
  | succ k ih => rw [Nat.succ_add]; show xs (up (up p n) k) = xs (up p (k + n)); rw [ih]
/-- A sum of powers: the bits from m on, n of them. -/
def dS (β : Nat → Nat) (K : Nat × Nat) (m : Nat) : Nat → Nat × Nat
  | 0 => (0, 0)
  | n + 1 => pl (dS β K m n) (sc (β (m + n)) (up K n))
theorem dS_congr {β γ : Nat → Nat} {K : Nat × Nat} {m o : Nat} (n : Nat) (h : ∀ j, j < n → β (m + j) = γ (o + j)) : dS β K m n = dS γ K o n := by
  induction n with
  | zero => rfl
  | succ n ih =>
    show pl (dS β K m n) (sc (β (m + n)) (up K n)) = pl (dS γ K o n) (sc (γ (o + n)) (up K n))
    rw [ih fun j hj => h j (by omega), h n (by omega)]
theorem dS_add (β : Nat → Nat) (K : Nat × Nat) (m k n : Nat) : dS β K m (k + n) = pl (dS β K m k) (up (dS β K (m + k) n) k) := by
  induction n with
  | zero => show dS β K m k = pl _ (up (0, 0) k); rw [up_zero, pl_zero]
  | succ n ih =>
    show pl (dS β K m (k + n)) (sc (β (m + (k + n))) (up K (k + n))) = pl _ (up (pl (dS β K (m + k) n) (sc (β (m + k + n)) (up K n))) k)
    rw [ih, up_pl, up_sc, up_up, pl_assoc, Nat.add_assoc]
/-- The bit that stands for x^i. -/
def bitN (a b i : Nat) : Nat := if 63 < i then b / 2 ^ (127 - i) % 2 else a / 2 ^ (63 - i) % 2
theorem top_bit (a i : Nat) (h : i ≤ 63) : a * 2 ^ i % 18446744073709551616 / 9223372036854775808 = a / 2 ^ (63 - i) % 2 := by
  have e1 : (18446744073709551616 : Nat) = 2 ^ (64 - i) * 2 ^ i := by rw [← Nat.pow_add, show 64 - i + i = 64 by omega]
  have e2 : (9223372036854775808 : Nat) = 2 ^ (63 - i) * 2 ^ i := by rw [← Nat.pow_add, show 63 - i + i = 63 by omega]
  rw [e1, Nat.mul_mod_mul_right, e2, Nat.mul_div_mul_right _ _ (Nat.two_pow_pos i), show 64 - i = 63 - i + 1 by omega, Nat.pow_succ, Nat.mod_mul_right_div_self]
theorem run_ab (s : TS) (ha : s.a < 18446744073709551616) (i : Nat) (h : i ≤ 128) :
    (tRun s i).a = s.a * 2 ^ (min i 64) % 18446744073709551616 ∧ ((tRun s i).b = if i ≤ 64 then s.b else s.b * 2 ^ (i - 64) % 18446744073709551616) := by
  induction i with
  | zero => exact ⟨by show s.a = s.a * 1 % _; omega, by rw [if_pos (by omega)]; rfl⟩
  | succ i ih =>
    obtain ⟨h1, h2⟩ := ih (by omega)
    refine ⟨?_, ?_⟩
    · show (if 63 < i then (tRun s i).a else (tRun s i).a * 2 % 18446744073709551616) = _
      rw [h1]
      split
      · rw [show min i 64 = 64 by omega, show min (i + 1) 64 = 64 by omega]
      · rw [show min i 64 = i by omega, show min (i + 1) 64 = i + 1 by omega, Nat.mod_mul_mod, Nat.pow_succ, Nat.mul_assoc]
    · show (if 63 < i then (tRun s i).b * 2 % 18446744073709551616 else (tRun s i).b) = _
      rw [h2]
      by_cases h63 : 63 < i
      · rw [if_pos h63, if_neg (show ¬ i + 1 ≤ 64 by omega)]
        by_cases h64 : i ≤ 64
        · rw [if_pos h64, show i + 1 - 64 = 1 by omega, Nat.pow_one]
        · rw [if_neg h64, Nat.mod_mul_mod, show i + 1 - 64 = i - 64 + 1 by omega, Nat.pow_succ, Nat.mul_assoc]
      · rw [if_neg h63, if_pos (show i ≤ 64 by omega), if_pos (show i + 1 ≤ 64 by omega)]
theorem run_bit (s : TS) (h : Lt6 s) (i : Nat) (hi : i < 128) : tBit i (tRun s i) = bitN s.a s.b i := by
  obtain ⟨h1, h2⟩ := run_ab s h.1 i (by omega)
  unfold tBit bitN
  by_cases h63 : 63 < i
  · rw [if_pos h63, if_pos h63, h2]
    by_cases h64 : i ≤ 64
    · rw [if_pos h64, show i = 64 by omega]
      have := top_bit s.b 0 (by omega)
      rw [Nat.pow_zero, Nat.mul_one, Nat.mod_eq_of_lt h.2.1] at this
      exact this
    · rw [if_neg h64, top_bit s.b (i - 64) (by omega), show 63 - (i - 64) = 127 - i by omega]
  · rw [if_neg h63, if_neg h63, h1, show min i 64 = i by omega, top_bit s.a i (by omega)]
theorem xor_join (k q r : Nat) (h : r < 2 ^ k) : r ^^^ (q * 2 ^ k) = r + q * 2 ^ k := by
  have h1 := Nat.xor_div_two_pow (a := r) (b := q * 2 ^ k) (n := k)
  have h2 := Nat.xor_mod_two_pow (a := r) (b := q * 2 ^ k) (n := k)
  rw [Nat.div_eq_of_lt h, Nat.mul_div_cancel _ (Nat.two_pow_pos k), Nat.zero_xor] at h1
  rw [Nat.mod_eq_of_lt h, Nat.mul_mod_left, Nat.xor_zero] at h2
  have h3 := Nat.div_add_mod (r ^^^ q * 2 ^ k) (2 ^ k)
  rw [h1, h2, Nat.mul_comm] at h3
  omega
theorem run_cd (s : TS) (h : Lt6 s) (i : Nat) : ((tRun s i).c, (tRun s i).d) = up (s.c, s.d) i := by
  induction i with
  | zero => rfl
  | succ i ih =>
    have hl := tRun_lt s h i
    show ((tStep i (tRun s i)).c, (tStep i (tRun s i)).d) = xs (up (s.c, s.d) i)
    rw [← ih]
    have j := xor_join 63 ((tRun s i).c % 2) ((tRun s i).d / 2) (by have := hl.2.2.2.1; omega)
    have e : (2 : Nat) ^ 63 = 9223372036854775808 := rfl
    rw [e] at j
    unfold xs tStep
    simp only []
    rw [j]
    rcases Nat.mod_two_eq_zero_or_one (tRun s i).d with e1 | e1 <;> rw [e1] <;> simp
theorem run_xy (a b c d : Nat) (ha : a < 18446744073709551616) (hb : b < 18446744073709551616) (hc : c < 18446744073709551616) (hd : d < 18446744073709551616) (i : Nat) (hi : i ≤ 128) :
    ((tRun ⟨a, b, c, d, 0, 0⟩ i).x, (tRun ⟨a, b, c, d, 0, 0⟩ i).y) = dS (bitN a b) (c, d) 0 i := by
  have z : (0 : Nat) < 18446744073709551616 := by decide
  have h : Lt6 ⟨a, b, c, d, 0, 0⟩ := ⟨ha, hb, hc, hd, z, z⟩
  induction i with
  | zero => rfl
  | succ i ih =>
    have ih := ih (by omega)
    have hbit := run_bit _ h i (by omega)
    have hcd := run_cd _ h i
    show ((tStep i (tRun ⟨a, b, c, d, 0, 0⟩ i)).x, (tStep i (tRun ⟨a, b, c, d, 0, 0⟩ i)).y) = pl (dS (bitN a b) (c, d) 0 i) (sc (bitN a b (0 + i)) (up (c, d) i))
    rw [← ih, Nat.zero_add, ← hbit, ← hcd]
    generalize tRun ⟨a, b, c, d, 0, 0⟩ i = r
    unfold sc
    show (if tBit i r = 1 then r.x ^^^ r.c else r.x, if tBit i r = 1 then r.y ^^^ r.d else r.y) = _
    split
    · rfl
    · rw [pl_zero]
/-- The product is a sum of powers. -/
theorem mul_dS (a b c d : Nat) (ha : a < 18446744073709551616) (hb : b < 18446744073709551616) (hc : c < 18446744073709551616) (hd : d < 18446744073709551616) :
    (mulX a b c d, mulY a b c d) = dS (bitN a b) (c, d) 0 128 := run_xy a b c d ha hb hc hd 128 (Nat.le_refl _)
/-- The key's multiple by four bits, behind r of them. -/
def tabR (K : Nat × Nat) (n : Nat) : Nat → Nat × Nat := dS (fun j => n / 2 ^ (3 - j) % 2) K 0
theorem tabR_yes (K : Nat × Nat) (n r : Nat) (h : n / 2 ^ (3 - r) % 2 = 1) : tabR K n (r + 1) = pl (tabR K n r) (up K r) := by
  show pl (tabR K n r) (sc (n / 2 ^ (3 - (0 + r)) % 2) (up K r)) = _
  rw [Nat.zero_add, h]; rfl
theorem tabR_no (K : Nat × Nat) (n r : Nat) (h : ¬ n / 2 ^ (3 - r) % 2 = 1) : tabR K n (r + 1) = tabR K n r := by
  show pl (tabR K n r) (sc (n / 2 ^ (3 - (0 + r)) % 2) (up K r)) = _
  unfold sc
  rw [Nat.zero_add, if_neg h, pl_zero]
/-- The k-th four bits from the end. -/
def nb (a b k : Nat) : Nat := if k < 16 then b / 16 ^ k % 16 else a / 16 ^ (k - 16) % 16
def hor (a b : Nat) (K : Nat × Nat) : Nat → Nat × Nat
  | 0 => (0, 0)
  | k + 1 => pl (up (hor a b K k) 4) (tabR K (nb a b k) 4)
theorem nib (x k j : Nat) (hj : j < 4) : x / 2 ^ (4 * k + (3 - j)) % 2 = x / 16 ^ k % 16 / 2 ^ (3 - j) % 2 := by
  rw [Nat.pow_add, ← Nat.div_div_eq_div_mul, Nat.pow_mul, show (2 : Nat) ^ 4 = 16 from rfl]
  generalize x / 16 ^ k = y
  match j, hj with
  | 0, _ => show y / 8 % 2 = y % 16 / 8 % 2; omega
  | 1, _ => show y / 4 % 2 = y % 16 / 4 % 2; omega
  | 2, _ => show y / 2 % 2 = y % 16 / 2 % 2; omega
  | 3, _ => show y / 1 % 2 = y % 16 / 1 % 2; omega
theorem bit_nb (a b k j : Nat) (hk : k < 32) (hj : j < 4) : bitN a b (124 - 4 * k + j) = nb a b k / 2 ^ (3 - (0 + j)) % 2 := by
  unfold bitN nb
  rw [Nat.zero_add]
  by_cases h : k < 16
  · rw [if_pos (by omega), if_pos h, ← nib b k j hj, show 127 - (124 - 4 * k + j) = 4 * k + (3 - j) by omega]
  · rw [if_neg (by omega), if_neg h, ← nib a (k - 16) j hj, show 63 - (124 - 4 * k + j) = 4 * (k - 16) + (3 - j) by omega]
theorem hor_dS (a b : Nat) (K : Nat × Nat) (k : Nat) (hk : k ≤ 32) : hor a b K k = dS (bitN a b) K (128 - 4 * k) (4 * k) := by
  induction k with
  | zero => rfl
  | succ k ih =>
    show pl (up (hor a b K k) 4) (tabR K (nb a b k) 4) = _
    rw [ih (by omega), show 4 * (k + 1) = 4 + 4 * k by omega, dS_add, show 128 - (4 + 4 * k) + 4 = 128 - 4 * k by omega, show 128 - (4 + 4 * k) = 124 - 4 * k by omega, pl_comm]
    have e : tabR K (nb a b k) 4 = dS (bitN a b) K (124 - 4 * k) 4 := (dS_congr 4 fun j hj => bit_nb a b k j (by omega) hj).symm
    rw [e]
/-- By four bits at a time. -/
theorem hor_mul (a b c d : Nat) (ha : a < 18446744073709551616) (hb : b < 18446744073709551616) (hc : c < 18446744073709551616) (hd : d < 18446744073709551616) :
    hor a b (c, d) 32 = (mulX a b c d, mulY a b c d) := by rw [mul_dS a b c d ha hb hc hd]; exact hor_dS a b (c, d) 32 (Nat.le_refl _)
/-- What comes in for x^128. -/
def ovr (o : Nat) : Nat := o ^^^ o / 2 ^^^ o / 4 ^^^ o / 128
theorem xs_two (a b : Nat) : xs (2 * a, 2 * b) = (a, b) := by
  unfold xs
  simp only [Nat.mul_mod_right, Nat.zero_mul, Nat.xor_zero]
  rw [Nat.mul_div_cancel_left _ (by decide), Nat.mul_div_cancel_left _ (by decide)]
theorem up_sixteen (a b : Nat) : up (16 * a, 16 * b) 4 = (a, b) := by
  show xs (xs (xs (xs (16 * a, 16 * b)))) = (a, b)
  rw [show 16 * a = 2 * (2 * (2 * (2 * a))) by omega, show 16 * b = 2 * (2 * (2 * (2 * b))) by omega, xs_two, xs_two, xs_two, xs_two]
theorem up_small : ∀ c, c < 16 → ∀ d, d < 16 → up (c, d) 4 = (ovr (d * 1152921504606846976), c * 1152921504606846976) := by decide +kernel
theorem up_four (p : Nat × Nat) : up p 4 = (p.1 / 16 ^^^ ovr (p.2 % 16 * 1152921504606846976), p.2 / 16 ^^^ p.1 % 16 * 1152921504606846976) := by
  have j : ∀ x : Nat, 16 * (x / 16) ^^^ x % 16 = x := fun x => by
    have := xor_join 4 (x / 16) (x % 16) (by omega)
    rw [show (2 : Nat) ^ 4 = 16 from rfl] at this
    rw [Nat.xor_comm, Nat.mul_comm, this]; omega
  have e : p = pl (16 * (p.1 / 16), 16 * (p.2 / 16)) (p.1 % 16, p.2 % 16) := Prod.ext (j p.1).symm (j p.2).symm
  have h := up_pl (16 * (p.1 / 16), 16 * (p.2 / 16)) (p.1 % 16, p.2 % 16) 4
  rw [← e, up_sixteen, up_small (p.1 % 16) (by omega) (p.2 % 16) (by omega)] at h
  rw [h]; rfl
theorem ovr_one : ∀ b, b < 2 → ovr (b * 9223372036854775808) = b * 16212958658533785600 := by decide +kernel
theorem xs_one (p : Nat × Nat) : xs p = (p.1 / 2 ^^^ ovr (p.2 % 2 * 9223372036854775808), p.2 / 2 ^^^ p.1 % 2 * 9223372036854775808) := by
  rw [ovr_one _ (by omega)]; rfl
/-- Elements are of two words. -/
def Ok (p : Nat × Nat) : Prop := p.1 < 18446744073709551616 ∧ p.2 < 18446744073709551616
theorem pl_ok {p q : Nat × Nat} (hp : Ok p) (hq : Ok q) : Ok (pl p q) := ⟨xor64_lt hp.1 hq.1, xor64_lt hp.2 hq.2⟩
theorem ok_zero : Ok (0, 0) := ⟨(by decide : (0 : Nat) < 18446744073709551616), (by decide : (0 : Nat) < 18446744073709551616)⟩
theorem xs_ok {p : Nat × Nat} (hp : Ok p) : Ok (xs p) := by
  obtain ⟨h1, h2⟩ := hp
  refine ⟨xor64_lt ?_ ?_, xor64_lt ?_ ?_⟩ <;> omega
theorem up_ok {p : Nat × Nat} (hp : Ok p) (n : Nat) : Ok (up p n) := by
  induction n with
  | zero => exact hp
  | succ n ih => exact xs_ok ih
theorem dS_ok (β : Nat → Nat) {K : Nat × Nat} (hK : Ok K) (m n : Nat) : Ok (dS β K m n) := by
  induction n with
  | zero => exact ok_zero
  | succ n ih =>
    refine pl_ok ih ?_
    unfold sc
    split
    · exact up_ok hK n
    · exact ok_zero
theorem tabR_ok {K : Nat × Nat} (hK : Ok K) (n r : Nat) : Ok (tabR K n r) := dS_ok _ hK _ _
theorem hor_ok (a b : Nat) {K : Nat × Nat} (hK : Ok K) (k : Nat) : Ok (hor a b K k) := by
  cases k with
  | zero => exact ok_zero
  | succ k =>
    refine pl_ok (up_ok ?_ 4) (tabR_ok hK _ _)
    induction k with
    | zero => exact ok_zero
    | succ k ih => exact pl_ok (up_ok ih 4) (tabR_ok hK _ _)
end Go.Proofs.Gd
