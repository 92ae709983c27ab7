/-
  The number that five limbs say, modulo 2^130 - 5. Of no program.
-/
import Derived.Test.YtljhenjbjondkaaJoac
namespace Go.Proofs.Pol
/-- The number; the modulus. -/
def val (d : Nat → Nat) : Nat := d 0 + d 1 * 67108864 + d 2 * 4503599627370496 + d 3 * 302231454903657293676544 + d 4 * 20282409603651670423947251286016
def p130 : Nat := 1361129467683753853853498429727072845819
theorem limb (a : Nat) : a % 67108864 + 67108864 * (a / 67108864) = a := Nat.mod_add_div a 67108864
/-- Carried limbs say the same number, less a multiple of the modulus. -/
theorem val_car (d : Nat → Nat) : val (carS d) + cc d 5 * p130 = val d := by
  have e0 : d 0 % 67108864 + 67108864 * cc d 1 = d 0 := by have := limb (d 0); show d 0 % 67108864 + 67108864 * ((d 0 + 0) / 67108864) = d 0; rw [Nat.add_zero]; exact this
  have e1 : (d 1 + cc d 1) % 67108864 + 67108864 * cc d 2 = d 1 + cc d 1 := limb _
  have e2 : (d 2 + cc d 2) % 67108864 + 67108864 * cc d 3 = d 2 + cc d 2 := limb _
  have e3 : (d 3 + cc d 3) % 67108864 + 67108864 * cc d 4 = d 3 + cc d 3 := limb _
  have e4 : (d 4 + cc d 4) % 67108864 + 67108864 * cc d 5 = d 4 + cc d 4 := limb _
  have c0 : carS d 0 = d 0 % 67108864 + 5 * cc d 5 := rfl
  have c1 : carS d 1 = (d 1 + cc d 1) % 67108864 := rfl
  have c2 : carS d 2 = (d 2 + cc d 2) % 67108864 := rfl
  have c3 : carS d 3 = (d 3 + cc d 3) % 67108864 := rfl
  have c4 : carS d 4 = (d 4 + cc d 4) % 67108864 := rfl
  unfold val p130
  rw [c0, c1, c2, c3, c4]
  generalize d 0 % 67108864 = x0 at e0
  generalize (d 1 + cc d 1) % 67108864 = x1 at e1
  generalize (d 2 + cc d 2) % 67108864 = x2 at e2
  generalize (d 3 + cc d 3) % 67108864 = x3 at e3
  generalize (d 4 + cc d 4) % 67108864 = x4 at e4
  generalize cc d 1 = k1 at *
  generalize cc d 2 = k2 at *
  generalize cc d 3 = k3 at *
  generalize cc d 4 = k4 at *
  generalize cc d 5 = k5 at *
  omega
theorem val_car_mod (d : Nat → Nat) : val (carS d) % p130 = val d % p130 := by
  rw [← val_car d, Nat.add_mul_mod_self_right]
theorem prS_0 (h r : Nat → Nat) : prS h r 25 0 = 0 + h 0 * r 0 + 5 * (h 1 * r 4) + 5 * (h 2 * r 3) + 5 * (h 3 * r 2) + 5 * (h 4 * r 1) := rfl
theorem prS_1 (h r : Nat → Nat) : prS h r 25 1 = 0 + h 0 * r 1 + h 1 * r 0 + 5 * (h 2 * r 4) + 5 * (h 3 * r 3) + 5 * (h 4 * r 2) := rfl
theorem prS_2 (h r : Nat → Nat) : prS h r 25 2 = 0 + h 0 * r 2 + h 1 * r 1 + h 2 * r 0 + 5 * (h 3 * r 4) + 5 * (h 4 * r 3) := rfl
theorem prS_3 (h r : Nat → Nat) : prS h r 25 3 = 0 + h 0 * r 3 + h 1 * r 2 + h 2 * r 1 + h 3 * r 0 + 5 * (h 4 * r 4) := rfl
theorem prS_4 (h r : Nat → Nat) : prS h r 25 4 = 0 + h 0 * r 4 + h 1 * r 3 + h 2 * r 2 + h 3 * r 1 + h 4 * r 0 := rfl
theorem mul4 (a b x y : Nat) : a * x * (b * y) = a * b * (x * y) := Nat.mul_mul_mul_comm a x b y
/-- A product of two sums of five. -/
theorem expand (a0 a1 a2 a3 a4 b0 b1 b2 b3 b4 B1 B2 B3 B4 : Nat) : (a0 + a1 * B1 + a2 * B2 + a3 * B3 + a4 * B4) * (b0 + b1 * B1 + b2 * B2 + b3 * B3 + b4 * B4) =
    (a0 * b0 + a0 * b1 * B1 + a0 * b2 * B2 + a0 * b3 * B3 + a0 * b4 * B4) + (a1 * b0 * B1 + a1 * b1 * (B1 * B1) + a1 * b2 * (B1 * B2) + a1 * b3 * (B1 * B3) + a1 * b4 * (B1 * B4)) + (a2 * b0 * B2 + a2 * b1 * (B2 * B1) + a2 * b2 * (B2 * B2) + a2 * b3 * (B2 * B3) + a2 * b4 * (B2 * B4)) + (a3 * b0 * B3 + a3 * b1 * (B3 * B1) + a3 * b2 * (B3 * B2) + a3 * b3 * (B3 * B3) + a3 * b4 * (B3 * B4)) + (a4 * b0 * B4 + a4 * b1 * (B4 * B1) + a4 * b2 * (B4 * B2) + a4 * b3 * (B4 * B3) + a4 * b4 * (B4 * B4)) := by
  rw [Nat.add_mul, Nat.add_mul, Nat.add_mul, Nat.add_mul]
  have r0 : a0 * (b0 + b1 * B1 + b2 * B2 + b3 * B3 + b4 * B4) = (a0 * b0 + a0 * b1 * B1 + a0 * b2 * B2 + a0 * b3 * B3 + a0 * b4 * B4) := by
    rw [Nat.mul_add, Nat.mul_add, Nat.mul_add, Nat.mul_add, ← Nat.mul_assoc a0 b1 B1, ← Nat.mul_assoc a0 b2 B2, ← Nat.mul_assoc a0 b3 B3, ← Nat.mul_assoc a0 b4 B4]
  have r1 : a1 * B1 * (b0 + b1 * B1 + b2 * B2 + b3 * B3 + b4 * B4) = (a1 * b0 * B1 + a1 * b1 * (B1 * B1) + a1 * b2 * (B1 * B2) + a1 * b3 * (B1 * B3) + a1 * b4 * (B1 * B4)) := by
    rw [Nat.mul_add, Nat.mul_add, Nat.mul_add, Nat.mul_add, Nat.mul_right_comm a1 B1 b0, mul4 a1 b1 B1 B1, mul4 a1 b2 B1 B2, mul4 a1 b3 B1 B3, mul4 a1 b4 B1 B4]
  have r2 : a2 * B2 * (b0 + b1 * B1 + b2 * B2 + b3 * B3 + b4 * B4) = (a2 * b0 * B2 + a2 * b1 * (B2 * B1) + a2 * b2 * (B2 * B2) + a2 * b3 * (B2 * B3) + a2 * b4 * (B2 * B4)) := by
    rw [Nat.mul_add, Nat.mul_add, Nat.mul_add, Nat.mul_add, Nat.mul_right_comm a2 B2 b0, mul4 a2 b1 B2 B1, mul4 a2 b2 B2 B2, mul4 a2 b3 B2 B3, mul4 a2 b4 B2 B4]
  have r3 : a3 * B3 * (b0 + b1 * B1 + b2 * B2 + b3 * B3 + b4 * B4) = (a3 * b0 * B3 + a3 * b1 * (B3 * B1) + a3 * b2 * (B3 * B2) + a3 * b3 * (B3 * B3) + a3 * b4 * (B3 * B4)) := by
    rw [Nat.mul_add, Nat.mul_add, Nat.mul_add, Nat.mul_add, Nat.mul_right_comm a3 B3 b0, mul4 a3 b1 B3 B1, mul4 a3 b2 B3 B2, mul4 a3 b3 B3 B3, mul4 a3 b4 B3 B4]
  have r4 : a4 * B4 * (b0 + b1 * B1 + b2 * B2 + b3 * B3 + b4 * B4) = (a4 * b0 * B4 + a4 * b1 * (B4 * B1) + a4 * b2 * (B4 * B2) + a4 * b3 * (B4 * B3) + a4 * b4 * (B4 * B4)) := by
    rw [Nat.mul_add, Nat.mul_add, Nat.mul_add, Nat.mul_add, Nat.mul_right_comm a4 B4 b0, mul4 a4 b1 B4 B1, mul4 a4 b2 B4 B2, mul4 a4 b3 B4 B3, mul4 a4 b4 B4 B4]
  rw [r0, r1, r2, r3, r4]
/-- The product's sums say the product, less a multiple of the modulus. -/
theorem val_pr (h r : Nat → Nat) : val (prS h r 25) + (h 1 * r 4 + h 2 * r 3 + h 3 * r 2 + h 4 * r 1 + (h 2 * r 4 + h 3 * r 3 + h 4 * r 2) * 67108864 + (h 3 * r 4 + h 4 * r 3) * 4503599627370496 + h 4 * r 4 * 302231454903657293676544) * p130 = val h * val r := by
  have e := expand (h 0) (h 1) (h 2) (h 3) (h 4) (r 0) (r 1) (r 2) (r 3) (r 4) 67108864 4503599627370496 302231454903657293676544 20282409603651670423947251286016
  unfold val p130
  rw [e, prS_0, prS_1, prS_2, prS_3, prS_4]
  clear e
  generalize h 0 * r 0 = a00; generalize h 0 * r 1 = a01; generalize h 0 * r 2 = a02; generalize h 0 * r 3 = a03; generalize h 0 * r 4 = a04
  generalize h 1 * r 0 = a10; generalize h 1 * r 1 = a11; generalize h 1 * r 2 = a12; generalize h 1 * r 3 = a13; generalize h 1 * r 4 = a14
  generalize h 2 * r 0 = a20; generalize h 2 * r 1 = a21; generalize h 2 * r 2 = a22; generalize h 2 * r 3 = a23; generalize h 2 * r 4 = a24
  generalize h 3 * r 0 = a30; generalize h 3 * r 1 = a31; generalize h 3 * r 2 = a32; generalize h 3 * r 3 = a33; generalize h 3 * r 4 = a34
  generalize h 4 * r 0 = a40; generalize h 4 * r 1 = a41; generalize h 4 * r 2 = a42; generalize h 4 * r 3 = a43; generalize h 4 * r 4 = a44
  omega
theorem val_mul (h r : Nat → Nat) : val (mulS h r) % p130 = val h * val r % p130 := by
  unfold mulS
  rw [val_car_mod, val_car_mod, ← val_pr h r, Nat.add_mul_mod_self_right]
theorem val_mid (f : Nat → Nat) : val (mid f 5) + cc f 5 * 1361129467683753853853498429727072845824 = val f := by
  have e0 : f 0 % 67108864 + 67108864 * cc f 1 = f 0 := by have := limb (f 0); show f 0 % 67108864 + 67108864 * ((f 0 + 0) / 67108864) = f 0; rw [Nat.add_zero]; exact this
  have e1 : (f 1 + cc f 1) % 67108864 + 67108864 * cc f 2 = f 1 + cc f 1 := limb _
  have e2 : (f 2 + cc f 2) % 67108864 + 67108864 * cc f 3 = f 2 + cc f 2 := limb _
  have e3 : (f 3 + cc f 3) % 67108864 + 67108864 * cc f 4 = f 3 + cc f 3 := limb _
  have e4 : (f 4 + cc f 4) % 67108864 + 67108864 * cc f 5 = f 4 + cc f 4 := limb _
  have c0 : mid f 5 0 = f 0 % 67108864 := rfl
  have c1 : mid f 5 1 = (f 1 + cc f 1) % 67108864 := rfl
  have c2 : mid f 5 2 = (f 2 + cc f 2) % 67108864 := rfl
  have c3 : mid f 5 3 = (f 3 + cc f 3) % 67108864 := rfl
  have c4 : mid f 5 4 = (f 4 + cc f 4) % 67108864 := rfl
  unfold val
  rw [c0, c1, c2, c3, c4]
  generalize f 0 % 67108864 = x0 at e0
  generalize (f 1 + cc f 1) % 67108864 = x1 at e1
  generalize (f 2 + cc f 2) % 67108864 = x2 at e2
  generalize (f 3 + cc f 3) % 67108864 = x3 at e3
  generalize (f 4 + cc f 4) % 67108864 = x4 at e4
  generalize cc f 1 = k1 at *
  generalize cc f 2 = k2 at *
  generalize cc f 3 = k3 at *
  generalize cc f 4 = k4 at *
  generalize cc f 5 = k5 at *
  omega
theorem val_five (d : Nat → Nat) : val (five d) = val d + 5 := by
  have c0 : five d 0 = d 0 + 5 := rfl
  have c1 : five d 1 = d 1 := rfl
  have c2 : five d 2 = d 2 := rfl
  have c3 : five d 3 = d 3 := rfl
  have c4 : five d 4 = d 4 := rfl
  unfold val
  rw [c0, c1, c2, c3, c4]; omega
theorem val_lt {d : Nat → Nat} (h0 : d 0 < 67108864) (h1 : d 1 < 67108864) (h2 : d 2 < 67108864) (h3 : d 3 < 67108864) (h4 : d 4 < 67108864) : val d < 1361129467683753853853498429727072845824 := by
  unfold val; omega
theorem mid_lt (f : Nat → Nat) (i : Nat) (h : i < 5) : mid f 5 i < 67108864 := by unfold mid; rw [if_pos h]; exact Nat.mod_lt _ (by decide)
/-- The least limbs say the remainder. -/
theorem val_least {d : Nat → Nat} (h0 : d 0 < 67108874) (h1 : d 1 < 67108864) (h2 : d 2 < 67108864) (h3 : d 3 < 67108864) (h4 : d 4 < 67108864) : val (least d) = val d % p130 := by
  have hv : val d < 1361129467683753853853498429727072845834 := by unfold val; omega
  have e := val_mid (five d)
  rw [val_five] at e
  have hm := val_lt (mid_lt (five d) 0 (by decide)) (mid_lt (five d) 1 (by decide)) (mid_lt (five d) 2 (by decide)) (mid_lt (five d) 3 (by decide)) (mid_lt (five d) 4 (by decide))
  unfold least p130
  generalize cc (five d) 5 = k at e ⊢
  by_cases hk : 0 < k
  · rw [if_pos hk]
    generalize val (mid (five d) 5) = m at e hm ⊢
    generalize val d = v at e hv ⊢
    have k1 : k = 1 := by omega
    subst k1
    have : v = m + 1361129467683753853853498429727072845819 := by omega
    rw [this, Nat.add_mod_right, Nat.mod_eq_of_lt (by omega)]
  · rw [if_neg hk]
    generalize val (mid (five d) 5) = m at e hm
    generalize val d = v at e hv ⊢
    rw [Nat.mod_eq_of_lt (by omega)]
theorem cc_small {e : Nat → Nat} (h0 : e 0 < 171866062848) (h1 : e 1 < 67108864) (h2 : e 2 < 67108864) (h3 : e 3 < 67108864) (h4 : e 4 < 67108864) : cc e 5 ≤ 1 := by
  have k1 : cc e 1 ≤ 2561 := by show (e 0 + 0) / 67108864 ≤ 2561; omega
  have k2 : cc e 2 ≤ 1 := by show (e 1 + cc e 1) / 67108864 ≤ 1; omega
  have k3 : cc e 3 ≤ 1 := by show (e 2 + cc e 2) / 67108864 ≤ 1; omega
  have k4 : cc e 4 ≤ 1 := by show (e 3 + cc e 3) / 67108864 ≤ 1; omega
  show (e 4 + cc e 4) / 67108864 ≤ 1; omega
theorem car_high (d : Nat → Nat) (i : Nat) (h : 0 < i) : carS d i < 67108864 := by
  unfold carS; rw [if_neg (by omega), Nat.add_zero]; exact Nat.mod_lt _ (by decide)
/-- What finish makes of limbs: the least number that they say. -/
theorem val_end {h : Nat → Nat} (hh : ∀ i, h i < 1152921504606846976) : val (endL h) = val h % p130 := by
  have hc := cc_small (e := carS h) (carS_lt hh 0) (car_high h 1 (by decide)) (car_high h 2 (by decide)) (car_high h 3 (by decide)) (car_high h 4 (by decide))
  have h0 : carS (carS h) 0 < 67108874 := by
    have : carS (carS h) 0 = (carS h 0 + 0) % 67108864 + 5 * cc (carS h) 5 := rfl
    rw [this]
    have := Nat.mod_lt (carS h 0 + 0) (show 67108864 > 0 by decide)
    omega
  unfold endL
  rw [val_least h0 (car_high _ 1 (by decide)) (car_high _ 2 (by decide)) (car_high _ 3 (by decide)) (car_high _ 4 (by decide)), val_car_mod, val_car_mod]
end Go.Proofs.Pol
