/-
  The number that five limbs say, modulo 2^130 - 5. Of no program.
-/
import Derived.Test.YtljhenjbjondkaaGreatJoad
namespace Go.Proofs.Pol
/-- The number; the modulus. -/
def val (d : Nat → Nat) : Nat := d 0 + d 1 * 67108864 + d 2 * 4503599627370496 + d 3 * 302231454903657293676544 + d 4 * 20282409603651670423947251286016
def p130 : Nat := 1361129467683753853853498429727072845819
theorem limb (a : Nat) : a % 67108864 + 67108864 * (a / 67108864) = a := Nat.mod_add_div a 67108864
/-- Carried limbs say the same number, less a multiple of the modulus. -/
theorem val_car (d : Nat → Nat) : val (carS d) + cc d 5 * p130 = val d := by
  have e0 : d 0 % 67108864 + 67108864 * cc d 1 = d 0 := by have := limb (d 0); show d 0 % 67108864 + 67108864 * ((d 0 + 0) / 67108864) = d 0; rw [Nat.add_zero]; exact this
  have e1 : (d 1 + cc d 1) % 67108864 + 67108864 * cc d 2 = d 1 + cc d 1 := limb _
  have e2 : (d 2 + cc d 2) % 67108864 + 67108864 * cc d 3 = d 2 + cc d 2 := limb _
  have e3 : (d 3 + cc d 3) % 67108864 + 67108864 * cc d 4 = d 3 + cc d 3 := limb _
  have e4 : (d 4 + cc d 4) % 67108864 + 67108864 * cc d 5 = d 4 + cc d 4 := limb _
  have c0 : carS d 0 = d 0 % 67108864 + 5 * cc d 5 := rfl
  have c1 : carS d 1 = (d 1 + cc d 1) % 67108864 := rfl
  have c2 : carS d 2 = (d 2 + cc d 2) % 67108864 := rfl
  have c3 : carS d 3 = (d 3 + cc d 3) % 67108864 := rfl
  have c4 : carS d 4 = (d 4 + cc d 4) % 67108864 := rfl
  unfold val p130
  rw [c0, c1, c2, c3, c4]
  generalize d 0 % 67108864 = x0 at e0
  generalize (d 1 + cc d 1) % 67108864 = x1 at e1
  generalize (d 2 + cc d 2) % 67108864 = x2 at e2
  generalize (d 3 + cc d 3) % 67108864 = x3 at e3
  generalize (d 4 + cc d 4) % 67108864 = x4 at e4
  generalize cc d 1 = k1 at *
  generalize cc d 2 = k2 at *
  generalize cc d 3 = k3 at *
  generalize cc d 4 = k4 at *
  generalize cc d 5 = k5 at *
  omega
theorem val_car_mod (d : Nat → Nat) : val (carS d) % p130 = val d % p130 := by
  rw [← val_car d, Nat.add_mul_mod_self_right]
theorem prS_0 (h r : Nat → Nat) : prS h r 25 0 = 0 + h 0 * r 0 + 5 * (h 1 * r 4) + 5 * (h 2 * r 3) + 5 * (h 3 * r 2) + 5 * (h 4 * r 1) := rfl
theorem prS_1 (h r : Nat → Nat) : prS h r 25 1 = 0 + h 0 * r 1 + h 1 * r 0 + 5 * (h 2 * r 4) + 5 * (h 3 * r 3) + 5 * (h 4 * r 2) := rfl
theorem prS_2 (h r : Nat → Nat) : prS h r 25 2 = 0 + h 0 * r 2 + h 1 * r 1 + h 2 * r 0 + 5 * (h 3 * r 4) + 5 * (h 4 * r 3) := rfl
theorem prS_3 (h r : Nat → Nat) : prS h r 25 3 = 0 + h 0 * r 3 + h 1 * r 2 + h 2 * r 1 + h 3 * r 0 + 5 * (h 4 * r 4) := rfl
theorem prS_4 (h r : Nat → Nat) : prS h r 25 4 = 0 + h 0 * r 4 + h 1 * r 3 + h 2 * r 2 + h 3 * r 1 + h 4 * r 0 := rfl
theorem mul4 (a b x y : Nat) : a * x * (b * y) = a * b * (x * y) := Nat.mul_mul_mul_comm a x b y
/-- A product of two sums of five. -/
theorem expand (a0 a1 a2 a3 a4 b0 b1 b2 b3 b4 B1 B2 B3 B4 : Nat) : (a0 + a1 * B1 + a2 * B2 + a3 * B3 + a4 * B4) * (b0 + b1 * B1 + b2 * B2 + b3 * B3 + b4 * B4) =
    (a0 * b0 + a0 * b1 * B1 + a0 * b2 * B2 + a0 * b3 * B3 + a0 * b4 * B4) + (a1 * b0 * B1 + a1 * b1 * (B1 * B1) + a1 * b2 * (B1 * B2) + a1 * b3 * (B1 * B3) + a1 * b4 * (B1 * B4)) + (a2 * b0 * B2 + a2 * b1 * (B2 * B1) + a2 * b2 * (B2 * B2) + a2 * b3 * (B2 * B3) + a2 * b4 * (B2 * B4)) + (a3 * b0 * B3 + a3 * b1 * (B3 * B1) + a3 * b2 * (B3 * B2) + a3 * b3 * (B3 * B3) + a3 * b4 * (B3 * B4)) + (a4 * b0 * B4 + a4 * b1 * (B4 * B1) + a4 * b2 * (B4 * B2) + a4 * b3 * (B4 * B3) + a4 * b4 * (B4 * B4)) := by
  rw [Nat.add_mul, Nat.add_mul, Nat.add_mul, Nat.add_mul]
  have r0 : a0 * (b0 + b1 * B1 + b2 * B2 + b3 * B3 + b4 * B4) = (a0 * b0 + a0 * b1 * B1 + a0 * b2 * B2 + a0 * b3 * B3 + a0 * b4 * B4) := by
    rw [Nat.mul_add, Nat.mul_add, Nat.mul_add, Nat.mul_add, ← Nat.mul_assoc a0 b1 B1, ← Nat.mul_assoc a0 b2 B2, ← Nat.mul_assoc a0 b3 B3, ← Nat.mul_assoc a0 b4 B4]
  have r1 : a1 * B1 * (b0 + b1 * B1 + b2 * B2 + b3 * B3 + b4 * B4) = (a1 * b0 * B1 + a1 * b1 * (B1 * B1) + a1 * b2 * (B1 * B2) + a1 * b3 * (B1 * B3) + a1 * b4 * (B1 * B4)) := by
    rw [Nat.mul_add, Nat.mul_add, Nat.mul_add, Nat.mul_add, Nat.mul_right_comm a1 B1 b0, mul4 a1 b1 B1 B1, mul4 a1 b2 B1 B2, mul4 a1 b3 B1 B3, mul4 a1 b4 B1 B4]
  have r2 : a2 * B2 * (b0 + b1 * B1 + b2 * B2 + b3 * B3 + b4 * B4) = (a2 * b0 * B2 + a2 * b1 * (B2 * B1) + a2 * b2 * (B2 * B2) + a2 * b3 * (B2 * B3) + a2 * b4 * (B2 * B4)) := by
    rw [Nat.mul_add, Nat.mul_add, Nat.mul_add, Nat.mul_add, Nat.mul_right_comm a2 B2 b0, mul4 a2 b1 B2 B1, mul4 a2 b2 B2 B2, mul4 a2 b3 B2 B3, mul4 a2 b4 B2 B4]
  have r3 : a3 * B3 * (b0 + b1 * B1 + b2 * B2 + b3 * B3 + b4 * B4) = (a3 * b0 * B3 + a3 * b1 * (B3 * B1) + a3 * b2 * (B3 * B2) + a3 * b3 * (B3 * B3) + a3 * b4 * (B3 * B4)) := by
    rw [Nat.mul_add, Nat.mul_add, Nat.mul_add, Nat.mul_add, Nat.mul_right_comm a3 B3 b0, mul4 a3 b1 B3 B1, mul4 a3 b2 B3 B2, mul4 a3 b3 B3 B3, mul4 a3 b4 B3 B4]
  have r4 : a4 * B4 * (b0 + b1 * B1 + b2 * B2 + b3 * B3 + b4 * B4) = (a4 * b0 * B4 + a4 * b1 * (B4 * B1) + a4 * b2 * (B4 * B2) + a4 * b3 * (B4 * B3) + a4 * b4 * (B4 * B4)) := by
    rw [Nat.mul_add, Nat.mul_add, Nat.mul_add, Nat.mul_add, Nat.mul_right_comm a4 B4 b0, mul4 a4 b1 B4 B1, mul4 a4 b2 B4 B2, mul4 a4 b3 B4 B3, mul4 a4 b4 B4 B4]
  rw [r0, r1, r2, r3, r4]
/-- The product's sums say the product, less a multiple of the modulus. -/
theorem val_pr (h r : Nat → Nat) : val (prS h r 25) + (h 1 * r 4 + h 2 * r 3 + h 3 * r 2 + h 4 * r 1 + (h 2 * r 4 + h 3 * r 3 + h 4 * r 2) * 67108864 + (h 3 * r 4 + h 4 * r 3) * 4503599627370496 + h 4 * r 4 * 302231454903657293676544) * p130 = val h * val r := by
  have e := expand (h 0) (h 1) (h 2) (h 3) (h 4) (r 0) (r 1) (r 2) (r 3) (r 4) 67108864 4503599627370496 302231454903657293676544 20282409603651670423947251286016
  unfold val p130
  rw [e, prS_0, prS_1, prS_2, prS_3, prS_4]
  clear e
  generalize h 0 * r 0 = a00; generalize h 0 * r 1 = a01; generalize h 0 * r 2 = a02; generalize h 0 * r 3 = a03; generalize h 0 * r 4 = a04
  generalize h 1 * r 0 = a10; generalize h 1 * r 1 = a11; generalize h 1 * r 2 = a12; generalize h 1 * r 3 = a13; generalize h 1 * r 4 = a14
  generalize h 2 * r 0 = a20; generalize h 2 * r 1 = a21; generalize h 2 * r 2 = a22; generalize h 2 * r 3 = a23; generalize h 2 * r 4 = a24
  generalize h 3 * r 0 = a30; generalize h 3 * r 1 = a31; generalize h 3 * r 2 = a32; generalize h 3 * r 3 = a33; generalize h 3 * r 4 = a34
  generalize h 4 * r 0 = a40; generalize h 4 * r 1 = a41; generalize h 4 * r 2 = a42; generalize h 4 * r 3 = a43; generalize h 4 * r 4 = a44
  omega
theorem val_mul (h r : Nat → Nat) : val (mulS h r) % p130 = val h * val r % p130 := by
  unfold mulS
  rw [val_car_mod, val_car_mod, ← val_pr h r, Nat.add_mul_mod_self_right]
theorem val_mid (f : Nat → Nat) : val (mid f 5) + cc f 5 * 1361129467683753853853498429727072845824 = val f := by
  have e0 : f 0 % 67108864 + 67108864 * cc f 1 = f 0 := by have := limb (f 0); show f 0 % 67108864 + 67108864 * ((f 0 + 0) / 67108864) = f 0; rw [Nat.add_zero]; exact this
  have e1 : (f 1 + cc f 1) % 67108864 + 67108864 * cc f 2 = f 1 + cc f 1 := limb _
  have e2 : (f 2 + cc f 2) % 67108864 + 67108864 * cc f 3 = f 2 + cc f 2 := limb _
  have e3 : (f 3 + cc f 3) % 67108864 + 67108864 * cc f 4 = f 3 + cc f 3 := limb _
  have e4 : (f 4 + cc f 4) % 67108864 + 67108864 * cc f 5 = f 4 + cc f 4 := limb _
  have c0 : mid f 5 0 = f 0 % 67108864 := rfl
  have c1 : mid f 5 1 = (f 1 + cc f 1) % 67108864 := rfl
  have c2 : mid f 5 2 = (f 2 + cc f 2) % 67108864 := rfl
  have c3 : mid f 5 3 = (f 3 + cc f 3) % 67108864 := rfl
  have c4 : mid f 5 4 = (f 4 + cc f 4) % 67108864 := rfl
  unfold val
  rw [c0, c1, c2, c3, c4]
  generalize f 0 % 67108864 = x0 at e0
  generalize (f 1 + cc f 1) % 67108864 = x1 at e1
  generalize (f 2 + cc f 2) % 67108864 = x2 at e2
  generalize (f 3 + cc f 3) % 67108864 = x3 at e3
  generalize (f 4 + cc f 4) % 67108864 = x4 at e4
  generalize cc f 1 = k1 at *
  generalize cc f 2 = k2 at *
  generalize cc f 3 = k3 at *
  generalize cc f 4 = k4 at *
  generalize cc f 5 = k5 at *
  omega
theorem val_five (d : Nat → Nat) : val (five d) = val d + 5 := by
  have c0 : five d 0 = d 0 + 5 := rfl
  have c1 : five d 1 = d 1 := rfl
  have c2 : five d 2 = d 2 := rfl
  have c3 : five d 3 = d 3 := rfl
  have c4 : five d 4 = d 4 := rfl
  unfold val
  rw [c0, c1, c2, c3, c4]; omega
theorem val_lt {d : Nat → Nat} (h0 : d 0 < 67108864) (h1 : d 1 < 67108864) (h2 : d 2 < 67108864) (h3 : d 3 < 67108864) (h4 : d 4 < 67108864) : val d < 1361129467683753853853498429727072845824 := by
  unfold val; omega
theorem mid_lt (f : Nat → Nat) (i : Nat) (h : i < 5) : mid f 5 i < 67108864 := by unfold mid; rw [if_pos h]; exact Nat.mod_lt _ (by decide)
/-- The least limbs say the remainder. -/
theorem val_least {d : Nat → Nat} (h0 : d 0 < 67108874) (h1 : d 1 < 67108864) (h2 : d 2 < 67108864) (h3 : d 3 < 67108864) (h4 : d 4 < 67108864) : val (least d) = val d % p130 := by
  have hv : val d < 1361129467683753853853498429727072845834 := by unfold val; omega
  have e := val_mid (five d)
  rw [val_five] at e
  have hm := val_lt (mid_lt (five d) 0 (by decide)) (mid_lt (five d) 1 (by decide)) (mid_lt (five d) 2 (by decide)) (mid_lt (five d) 3 (by decide)) (mid_lt (five d) 4 (by decide))
  unfold least p130
  generalize cc (five d) 5 = k at e ⊢
  by_cases hk : 0 < k
  · rw [if_pos hk]
    generalize val (mid (five d) 5) = m at e hm ⊢
    generalize val d = v at e hv ⊢
    have k1 : k = 1 := by omega
    subst k1
    have : v = m + 1361129467683753853853498429727072845819 := by omega
    rw [this, Nat.add_mod_right, Nat.mod_eq_of_lt (by omega)]
  · rw [if_neg hk]
    generalize val (mid (five d) 5) = m at e hm
    generalize val d = v at e hv ⊢
    rw [Nat.mod_eq_of_lt (by omega)]
theorem cc_small {e : Nat → Nat} (h0 : e 0 < 171866062848) (h1 : e 1 < 67108864) (h2 : e 2 < 67108864) (h3 : e 3 < 67108864) (h4 : e 4 < 67108864) : cc e 5 ≤ 1 := by
  have k1 : cc e 1 ≤ 2561 := by show (e 0 + 0) / 67108864 ≤ 2561; omega
  have k2 : cc e 2 ≤ 1 := by show (e 1 + cc e 1) / 67108864 ≤ 1; omega
  have k3 : cc e 3 ≤ 1 := by show (e 2 + cc e 2) / 67108864 ≤ 1; omega
  have k4 : cc e 4 ≤ 1 := by show (e 3 + cc e 3) / 67108864 ≤ 1; omega
  show (e 4 + cc e 4) / 67108864 ≤ 1; omega
theorem car_high (d : Nat → Nat) (i : Nat) (h : 0 < i) : carS d i < 67108864 := by
  unfold carS; rw [if_neg (by omega), Nat.add_zero]; exact Nat.mod_lt _ (by decide)
/-- What finish makes of limbs: the least number that they say. -/
theorem val_end {h : Nat → Nat} (hh : ∀ i, h i < 1152921504606846976) : val (endL h) = val h % p130 := by
  have hc := cc_small (e := carS h) (carS_lt hh 0) (car_high h 1 (by decide)) (car_high h 2 (by decide)) (car_high h 3 (by decide)) (car_high h 4 (by decide))
  have h0 : carS (carS h) 0 < 67108874 := by
    have : carS (carS h) 0 = (carS h 0 + 0) % 67108864 + 5 * cc (carS h) 5 := rfl
    rw [this]
    have := Nat.mod_lt (carS h 0 + 0) (show 67108864 > 0 by decide)
    omega
  unfold endL
  rw [val_least h0 (car_high _ 1 (by decide)) (car_high _ 2 (by decide)) (car_high _ 3 (by decide)) (car_high _ 4 (by decide)), val_car_mod, val_car_mod]
end Go.Proofs.Pol
/-
  Poly1305 in numbers: bytes and bits as a number, a number's limbs and bytes, the sum of a text's blocks. Of no program.
-/
namespace Go.Proofs.Pol
open Go.RowKit
open Go.Proofs.Aes (byt byt_lt)
/-- Bits as a number; bytes, the lowest first. -/
def bN (f : Nat → Nat) : Nat → Nat
  | 0 => 0
  | n + 1 => bN f n + f n * 2 ^ n
def leB (b : Nat → Nat) : Nat → Nat
  | 0 => 0
  | n + 1 => leB b n + b n * 256 ^ n
/-- Limb q of a number. -/
def lmb (x q : Nat) : Nat := x / 2 ^ (26 * q) % 67108864
/-- A byte's bits. -/
def bitB (b : Nat → Nat) (i : Nat) : Nat := b (i / 8) / 2 ^ (i % 8) % 2
theorem bitB_le (b : Nat → Nat) (i : Nat) : bitB b i ≤ 1 := by unfold bitB; omega
theorem bN_lt {f : Nat → Nat} (hf : ∀ i, f i ≤ 1) (n : Nat) : bN f n < 2 ^ n := by
  induction n with
  | zero => show 0 < 1; decide
  | succ n ih =>
    show bN f n + f n * 2 ^ n < 2 ^ (n + 1)
    have h2 : f n * 2 ^ n ≤ 1 * 2 ^ n := Nat.mul_le_mul_right _ (hf n)
    rw [Nat.pow_succ]; omega
theorem leB_lt {b : Nat → Nat} (hb : ∀ i, b i < 256) (n : Nat) : leB b n < 256 ^ n := by
  induction n with
  | zero => show 0 < 1; decide
  | succ n ih =>
    show leB b n + b n * 256 ^ n < 256 ^ (n + 1)
    have h2 : b n * 256 ^ n ≤ 255 * 256 ^ n := Nat.mul_le_mul_right _ (by have := hb n; omega)
    rw [Nat.pow_succ]; omega
theorem leB_congr {b c : Nat → Nat} (n : Nat) (h : ∀ i, i < n → b i = c i) : leB b n = leB c n := by
  induction n with
  | zero => rfl
  | succ n ih =>
    show leB b n + b n * 256 ^ n = leB c n + c n * 256 ^ n
    rw [ih fun i hi => h i (by omega), h n (by omega)]
/-- A number's lowest bits, one by one. -/
theorem low_bits (y n : Nat) (g : Nat → Nat) (hg : ∀ k, k < n → g k = y / 2 ^ k % 2) : bN g n = y % 2 ^ n := by
  induction n with
  | zero => show 0 = y % 1; omega
  | succ n ih =>
    show bN g n + g n * 2 ^ n = _
    rw [ih fun k hk => hg k (by omega), hg n (by omega), Nat.mod_pow_succ, Nat.mul_comm]
theorem bN_add (f : Nat → Nat) (m n : Nat) : bN f (m + n) = bN f m + bN (fun k => f (m + k)) n * 2 ^ m := by
  induction n with
  | zero => show bN f m = bN f m + 0 * 2 ^ m; omega
  | succ n ih =>
    show bN f (m + n) + f (m + n) * 2 ^ (m + n) = bN f m + (bN (fun k => f (m + k)) n + f (m + n) * 2 ^ n) * 2 ^ m
    rw [ih, Nat.add_mul, Nat.pow_add, Nat.mul_comm (2 ^ m) (2 ^ n), Nat.mul_assoc (f (m + n)) (2 ^ n) (2 ^ m)]; omega
theorem bits_bytes {b : Nat → Nat} (hb : ∀ i, b i < 256) (m : Nat) : bN (bitB b) (8 * m) = leB b m := by
  induction m with
  | zero => rfl
  | succ m ih =>
    rw [show 8 * (m + 1) = 8 * m + 8 by omega, bN_add, ih]
    show leB b m + _ * _ = leB b m + b m * 256 ^ m
    rw [low_bits (b m) 8 _ (fun k hk => by
      show b ((8 * m + k) / 8) / 2 ^ ((8 * m + k) % 8) % 2 = _
      rw [show (8 * m + k) / 8 = m by omega, show (8 * m + k) % 8 = k by omega]), Nat.mod_eq_of_lt (hb m), Nat.pow_mul]
theorem lmb_lt (x q : Nat) : lmb x q < 67108864 := Nat.mod_lt _ (by decide)
/-- Ahead of bit n its limb holds the bits below it alone. -/
theorem lmb_low {f : Nat → Nat} (hf : ∀ i, f i ≤ 1) (n : Nat) : bN f n / 2 ^ (26 * (n / 26)) < 2 ^ (n % 26) := by
  have h := bN_lt hf n
  rw [show n = 26 * (n / 26) + n % 26 by omega, Nat.pow_add] at h
  rw [show 26 * (n / 26) + n % 26 = n by omega] at h
  exact Nat.div_lt_of_lt_mul h
theorem pow26 : (67108864 : Nat) = 2 ^ 26 := rfl
theorem lmb_here {f : Nat → Nat} (hf : ∀ i, f i ≤ 1) (n : Nat) : lmb (bN f n) (n / 26) < 2 ^ (n % 26) := by
  unfold lmb
  have h1 := lmb_low hf n
  have h2 := Nat.mod_le (bN f n / 2 ^ (26 * (n / 26))) 67108864
  omega
theorem pow_pos2 (k : Nat) : 0 < 2 ^ k := Nat.pow_pos (by decide)
theorem lmb_step {f : Nat → Nat} (hf : ∀ i, f i ≤ 1) (n q : Nat) : (if q = n / 26 then lmb (bN f n) (n / 26) + f n * 2 ^ (n % 26) else lmb (bN f n) q) = lmb (bN f (n + 1)) q := by
  have e : bN f (n + 1) = bN f n + f n * 2 ^ n := rfl
  rw [e]
  by_cases h : q = n / 26
  · rw [if_pos h]
    subst h
    have h1 := lmb_low hf n
    have h3 : f n * 2 ^ (n % 26) ≤ 1 * 2 ^ (n % 26) := Nat.mul_le_mul_right _ (hf n)
    have h4 : 2 ^ (n % 26) * 2 ≤ 67108864 := by
      rw [pow26, ← Nat.pow_succ]
      exact Nat.pow_le_pow_right (by decide) (by have := Nat.mod_lt n (show 26 > 0 by decide); omega)
    have h5 : (bN f n + f n * 2 ^ n) / 2 ^ (26 * (n / 26)) = bN f n / 2 ^ (26 * (n / 26)) + f n * 2 ^ (n % 26) := by
      have e2 : f n * 2 ^ n = f n * 2 ^ (n % 26) * 2 ^ (26 * (n / 26)) := by
        rw [Nat.mul_assoc, ← Nat.pow_add, show n % 26 + 26 * (n / 26) = n by omega]
      rw [e2, Nat.add_mul_div_right _ _ (pow_pos2 _)]
    unfold lmb
    rw [h5, Nat.mod_eq_of_lt (show bN f n / 2 ^ (26 * (n / 26)) < 67108864 by omega), Nat.mod_eq_of_lt (show bN f n / 2 ^ (26 * (n / 26)) + f n * 2 ^ (n % 26) < 67108864 by omega)]
  · rw [if_neg h]
    unfold lmb
    by_cases h2 : q < n / 26
    · have e2 : f n * 2 ^ n = f n * 2 ^ (n - 26 * q) * 2 ^ (26 * q) := by
        rw [Nat.mul_assoc, ← Nat.pow_add, show n - 26 * q + 26 * q = n by omega]
      have e3 : f n * 2 ^ (n - 26 * q) = f n * 2 ^ (n - 26 * q - 26) * 67108864 := by
        rw [pow26, Nat.mul_assoc, ← Nat.pow_add, show n - 26 * q - 26 + 26 = n - 26 * q by omega]
      rw [e2, Nat.add_mul_div_right _ _ (pow_pos2 _), e3, Nat.add_mul_mod_self_right]
    · have h3 : n + 1 ≤ 26 * q := by omega
      have h4 : 2 ^ (n + 1) ≤ 2 ^ (26 * q) := Nat.pow_le_pow_right (by decide) h3
      have h5 := bN_lt hf (n + 1)
      rw [e] at h5
      rw [Nat.div_eq_of_lt (by omega), Nat.div_eq_of_lt (by omega)]
theorem val_lmb (x : Nat) (hx : x < 1361129467683753853853498429727072845824) : val (lmb x) = x := by
  have d0 : lmb x 0 = x % 67108864 := by unfold lmb; rw [show 2 ^ (26 * 0) = 1 from rfl, Nat.div_one]
  have d1 : lmb x 1 = x / 67108864 % 67108864 := rfl
  have d2 : lmb x 2 = x / 67108864 / 67108864 % 67108864 := by unfold lmb; rw [Nat.div_div_eq_div_mul]
  have d3 : lmb x 3 = x / 67108864 / 67108864 / 67108864 % 67108864 := by unfold lmb; rw [Nat.div_div_eq_div_mul, Nat.div_div_eq_div_mul]
  have d4 : lmb x 4 = x / 67108864 / 67108864 / 67108864 / 67108864 % 67108864 := by unfold lmb; rw [Nat.div_div_eq_div_mul, Nat.div_div_eq_div_mul, Nat.div_div_eq_div_mul]
  unfold val
  rw [d0, d1, d2, d3, d4]
  have e0 := limb x
  generalize x / 67108864 = x1 at e0 ⊢
  have e1 := limb x1
  generalize x1 / 67108864 = x2 at e1 ⊢
  have e2 := limb x2
  generalize x2 / 67108864 = x3 at e2 ⊢
  have e3 := limb x3
  generalize x3 / 67108864 = x4 at e3 ⊢
  generalize x % 67108864 = y0 at e0 ⊢
  generalize x1 % 67108864 = y1 at e1 ⊢
  generalize x2 % 67108864 = y2 at e2 ⊢
  generalize x3 % 67108864 = y3 at e3 ⊢
  have h4 : x4 < 67108864 := by omega
  rw [Nat.mod_eq_of_lt h4]
  omega
/-- Limbs below 2^26 are their number's. -/
theorem lmb_val {d : Nat → Nat} (h0 : d 0 < 67108864) (h1 : d 1 < 67108864) (h2 : d 2 < 67108864) (h3 : d 3 < 67108864) (h4 : d 4 < 67108864) (q : Nat) (hq : q < 5) : lmb (val d) q = d q := by
  have d0 : lmb (val d) 0 = val d % 67108864 := by unfold lmb; rw [show 2 ^ (26 * 0) = 1 from rfl, Nat.div_one]
  have d1 : lmb (val d) 1 = val d / 67108864 % 67108864 := rfl
  have d2 : lmb (val d) 2 = val d / 4503599627370496 % 67108864 := rfl
  have d3 : lmb (val d) 3 = val d / 302231454903657293676544 % 67108864 := rfl
  have d4 : lmb (val d) 4 = val d / 20282409603651670423947251286016 % 67108864 := rfl
  have e : val d = d 0 + d 1 * 67108864 + d 2 * 4503599627370496 + d 3 * 302231454903657293676544 + d 4 * 20282409603651670423947251286016 := rfl
  generalize val d = V at *
  refine lt5 (P := fun q => lmb V q = d q) ?_ ?_ ?_ ?_ ?_ q hq
  · rw [d0]; omega
  · rw [d1]; omega
  · rw [d2]; omega
  · rw [d3]; omega
  · rw [d4]; omega
theorem mod_bit (x r : Nat) (h : r < 26) : x % 67108864 / 2 ^ r % 2 = x / 2 ^ r % 2 := by
  have e : (67108864 : Nat) = 2 ^ r * (2 * 2 ^ (25 - r)) := by rw [pow26, ← Nat.pow_succ', ← Nat.pow_add, show r + (25 - r).succ = 26 by omega]
  rw [e, Nat.mod_mul_right_div_self, Nat.mod_mul_right_mod]
/-- Bit j, byte i of limbs below 2^26. -/
theorem bitL_val {d : Nat → Nat} (h0 : d 0 < 67108864) (h1 : d 1 < 67108864) (h2 : d 2 < 67108864) (h3 : d 3 < 67108864) (h4 : d 4 < 67108864) (j : Nat) (hj : j < 130) : bitL d j = val d / 2 ^ j % 2 := by
  unfold bitL
  rw [← lmb_val h0 h1 h2 h3 h4 (j / 26) (by omega)]
  unfold lmb
  rw [mod_bit _ _ (Nat.mod_lt _ (by decide)), Nat.div_div_eq_div_mul, ← Nat.pow_add, show 26 * (j / 26) + j % 26 = j by omega]
theorem byteL_bN (d : Nat → Nat) (i k : Nat) : byteL d i k = bN (fun k => bitL d (8 * i + k)) k := by
  induction k with
  | zero => rfl
  | succ k ih => show byteL d i k + _ = bN _ k + _; rw [ih]
theorem byteL_val {d : Nat → Nat} (h0 : d 0 < 67108864) (h1 : d 1 < 67108864) (h2 : d 2 < 67108864) (h3 : d 3 < 67108864) (h4 : d 4 < 67108864) (i : Nat) (hi : i < 16) : byteL d i 8 = val d / 256 ^ i % 256 := by
  rw [byteL_bN, low_bits (val d / 2 ^ (8 * i)) 8 _ (fun k hk => by rw [bitL_val h0 h1 h2 h3 h4 _ (by omega), Nat.pow_add, ← Nat.div_div_eq_div_mul]), Nat.pow_mul]
/-- The tag of a sum and a pad. -/
def tagS (x p : Nat) : ByteArray := strOfNums ((List.range 16).map fun i => (((x + p) / 256 ^ i % 256 : Nat) : Int))
theorem tagS_size (x p : Nat) : (tagS x p).size = 16 := by simp [tagS, strOfNums_size]
theorem pow256_pos (i : Nat) : 0 < 256 ^ i := Nat.pow_pos (by decide)
theorem carry_step (A v b P : Nat) (hP : 0 < P) : (A + P * v + b * P) / P = A / P + v + b := by
  rw [Nat.add_mul_div_right _ _ hP, Nat.add_mul_div_left _ _ hP]
theorem sumL_val (d : Nat → Nat) (s : ByteArray) (V : Nat) (hV : ∀ i, i < 16 → byteL d i 8 = V / 256 ^ i % 256) (i : Nat) (hi : i ≤ 16) : sumL d s i = (V % 256 ^ i + leB (byt s) i) / 256 ^ i := by
  induction i with
  | zero => show 0 = (V % 1 + 0) / 1; omega
  | succ i ih =>
    show (sumL d s i + byteL d i 8 + byt s i) / 256 = (V % 256 ^ (i + 1) + (leB (byt s) i + byt s i * 256 ^ i)) / 256 ^ (i + 1)
    rw [ih (by omega), hV i (by omega), Nat.mod_pow_succ, Nat.pow_succ, ← Nat.div_div_eq_div_mul]
    have e := carry_step (V % 256 ^ i + leB (byt s) i) (V / 256 ^ i % 256) (byt s i) (256 ^ i) (pow256_pos i)
    rw [← e]
    congr 2
    omega
theorem finB_val (d : Nat → Nat) (s : ByteArray) (V : Nat) (hV : ∀ i, i < 16 → byteL d i 8 = V / 256 ^ i % 256) (i : Nat) (hi : i < 16) : finB d s i = (V % 256 ^ (i + 1) + leB (byt s) (i + 1)) / 256 ^ i % 256 := by
  unfold finB
  show _ = (V % 256 ^ (i + 1) + (leB (byt s) i + byt s i * 256 ^ i)) / 256 ^ i % 256
  rw [sumL_val d s V hV i (by omega), hV i hi, Nat.mod_pow_succ]
  have e := carry_step (V % 256 ^ i + leB (byt s) i) (V / 256 ^ i % 256) (byt s i) (256 ^ i) (pow256_pos i)
  rw [← e]
  congr 2
  omega
theorem leB_mod {b : Nat → Nat} (hb : ∀ i, b i < 256) (n k : Nat) : leB b (n + k) % 256 ^ n = leB b n := by
  induction k with
  | zero => exact Nat.mod_eq_of_lt (leB_lt hb n)
  | succ k ih =>
    show (leB b (n + k) + b (n + k) * 256 ^ (n + k)) % 256 ^ n = _
    rw [Nat.pow_add, Nat.mul_comm (256 ^ n), ← Nat.mul_assoc, Nat.add_mul_mod_self_right, ih]
theorem byte_mod (x i : Nat) : x / 256 ^ i % 256 = x % 256 ^ (i + 1) / 256 ^ i := by rw [Nat.pow_succ, Nat.mod_mul_right_div_self]
/-- What finish writes, of limbs below 2^26. -/
theorem finS_val {d : Nat → Nat} (h0 : d 0 < 67108864) (h1 : d 1 < 67108864) (h2 : d 2 < 67108864) (h3 : d 3 < 67108864) (h4 : d 4 < 67108864) (s : ByteArray) : finS d s = tagS (val d) (leB (byt s) 16) := by
  unfold finS tagS
  congr 1
  apply List.map_congr_left
  intro i hi
  have hi : i < 16 := List.mem_range.1 hi
  have hm := leB_mod (b := byt s) (byt_lt s) (i + 1) (15 - i)
  rw [show i + 1 + (15 - i) = 16 by omega] at hm
  rw [finB_val d s (val d) (fun i hi => byteL_val h0 h1 h2 h3 h4 i hi) i hi, byte_mod, byte_mod, ← hm, Nat.add_mod (val d) (leB (byt s) 16)]
end Go.Proofs.Pol
