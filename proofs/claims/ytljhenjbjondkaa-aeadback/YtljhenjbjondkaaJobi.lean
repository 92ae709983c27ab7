/-
  The developers' poly in numbers: what limbs, sums, products and the reduced number say. Of no program.
-/
import Derived.Test.YtljhenjbjondkaaJobg
namespace Go.Proofs.Pd
open Go.RowKit
open Go.Proofs.Aes (byt byt_lt)
open Go.Proofs.Pol (val p130 prS prS_lt prS_4 term_lt val_pr cc cc_lt mid mid_lt five least val_car_mod val_least val_five limb lt5 leB leB_lt leB_congr cc5 rB rB_lt rN maskL maskB maskB_lt carS tagS blkN blkL blkB blkB_lt fillS litS litB runN runK run_append zS zS_size zS_byt p130_pos padN)
theorem val_limF (l h t : Nat) (hl : l < 18446744073709551616) (_hh : h < 18446744073709551616) :
    val (limF l h t) = l + 18446744073709551616 * h + 340282366920938463463374607431768211456 * t := by
  unfold val
  rw [limF_0, limF_1, limF_2, limF_3, limF_4]
  have e1 : h * 4096 % 18446744073709551616 = 4096 * (h % 4503599627370496) := by rw [show (18446744073709551616 : Nat) = 4096 * 4503599627370496 from rfl, Nat.mul_comm h, Nat.mul_mod_mul_left]
  rw [e1]
  have e2 : (l / 4503599627370496 + 4096 * (h % 4503599627370496)) % 67108864 = l / 4503599627370496 + 4096 * (h % 16384) := by omega
  rw [e2]
  omega
theorem limF_lt (l h t : Nat) (hh : h < 18446744073709551616) (ht : t ≤ 1) (i : Nat) : limF l h t i < 67108864 := by
  unfold limF
  split
  · exact Nat.mod_lt _ (by decide)
  · split
    · exact Nat.mod_lt _ (by decide)
    · split
      · exact Nat.mod_lt _ (by decide)
      · split
        · exact Nat.mod_lt _ (by decide)
        · omega
theorem carD_0 (d : Nat → Nat) : carD d 0 = (mid d 5 0 + 5 * cc d 5) % 67108864 := if_pos rfl
theorem carD_1 (d : Nat → Nat) : carD d 1 = mid d 5 1 + (mid d 5 0 + 5 * cc d 5) / 67108864 := by unfold carD; rw [if_neg (by decide), if_pos rfl]
theorem carD_up (d : Nat → Nat) (i : Nat) (hi : 2 ≤ i) : carD d i = mid d 5 i := by unfold carD; rw [if_neg (by omega), if_neg (by omega)]
theorem carS_0 (d : Nat → Nat) : carS d 0 = mid d 5 0 + 5 * cc d 5 := rfl
theorem carS_1 (d : Nat → Nat) : carS d 1 = mid d 5 1 := rfl
theorem val_carD (d : Nat → Nat) : val (carD d) = val (carS d) := by
  have c2 : carS d 2 = mid d 5 2 := rfl
  have c3 : carS d 3 = mid d 5 3 := rfl
  have c4 : carS d 4 = mid d 5 4 := rfl
  unfold val
  rw [carD_0, carD_1, carD_up d 2 (by decide), carD_up d 3 (by decide), carD_up d 4 (by decide), carS_0, carS_1, c2, c3, c4]
  have e := limb (mid d 5 0 + 5 * cc d 5)
  generalize mid d 5 0 + 5 * cc d 5 = x at e ⊢
  omega
theorem val_carD_mod (d : Nat → Nat) : val (carD d) % p130 = val d % p130 := by rw [val_carD, val_car_mod]
/-- The limbs that a sum under way has. -/
def Good (h : Nat → Nat) : Prop := h 0 < 67108864 ∧ h 1 < 67108928 ∧ ∀ i, 2 ≤ i → h i < 67108864
theorem Good.all {h : Nat → Nat} (g : Good h) (i : Nat) : h i < 67108928 := by
  by_cases e0 : i = 0
  · subst e0; have := g.1; omega
  · by_cases e1 : i = 1
    · subst e1; exact g.2.1
    · have := g.2.2 i (by omega); omega
theorem good_zero : Good fun _ => 0 := ⟨Nat.zero_lt_succ _, Nat.zero_lt_succ _, fun _ _ => Nat.zero_lt_succ _⟩
theorem prS_high (h r : Nat → Nat) (k t : Nat) (ht : 5 ≤ t) : prS h r k t = 0 := by
  induction k with
  | zero => rfl
  | succ k ih =>
    show (if t = (k / 5 + k % 5) % 5 then _ else prS h r k t) = 0
    rw [if_neg (by omega), ih]
/-- A product's limbs. -/
def mulD (h r : Nat → Nat) : Nat → Nat := carD (prS h r 25)
theorem mulD_good {h r : Nat → Nat} (hh : ∀ i, h i < 134218752) (hr : ∀ i, r i < 67108864) : Good (mulD h r) := by
  have hd : ∀ t, prS h r 25 t < 1152921504606846976 := fun t => by have := prS_lt hh hr 25 t; omega
  have h4 : prS h r 25 4 < 45036339871088641 := by
    rw [prS_4]
    have a0 := (term_lt hh hr 0 4).1
    have a1 := (term_lt hh hr 1 3).1
    have a2 := (term_lt hh hr 2 2).1
    have a3 := (term_lt hh hr 3 1).1
    have a4 := (term_lt hh hr 4 0).1
    omega
  have hi : ∀ t, 5 ≤ t → prS h r 25 t = 0 := fun t ht => prS_high h r 25 t ht
  unfold mulD
  generalize prS h r 25 = d at hd h4 hi
  have c5 : cc d 5 = (d 4 + cc d 4) / 67108864 := rfl
  have l4 := cc_lt hd 4
  have m0 := mid_lt d 0 (by decide)
  have m1 := mid_lt d 1 (by decide)
  refine ⟨?_, ?_, fun i hi2 => ?_⟩
  · rw [carD_0]; exact Nat.mod_lt _ (by decide)
  · rw [carD_1]
    generalize cc d 4 = k4 at c5 l4
    generalize cc d 5 = k5 at c5 ⊢
    generalize mid d 5 0 = x0 at m0 ⊢
    generalize mid d 5 1 = x1 at m1 ⊢
    omega
  · rw [carD_up d i hi2]
    by_cases h5 : i < 5
    · exact mid_lt d i h5
    · unfold mid; rw [if_neg h5, hi i (by omega)]; decide
/-- A round: a sum and a block's number, times the factor. -/
theorem round_mod {h b r : Nat → Nat} {A x R : Nat} (hA : val h % p130 = A) (hb : val b = x) (hr : val r = R) : val (mulD (fun i => h i + b i) r) % p130 = (A + x) * R % p130 := by
  unfold mulD
  have e : val (fun i => h i + b i) = val h + val b := by unfold val; simp only []; omega
  rw [val_carD_mod, ← Nat.add_mul_mod_self_right (val (prS _ r 25)), val_pr, e, hb, hr, ← hA, Nat.mul_mod, Nat.mul_mod (val h % p130 + x), Nat.mod_add_mod]
/-- The reduced number's limbs. -/
def redD (h : Nat → Nat) : Nat → Nat := least (carD h)
theorem carD_small {h : Nat → Nat} (g : Good h) (i : Nat) (hi : i < 5) : carD h i < 67108864 := by
  obtain ⟨c1, c2, c3, c4, c5⟩ := cc5 h
  have h0 := g.1
  have h1 := g.2.1
  have h2 := g.2.2 2 (by decide)
  have h3 := g.2.2 3 (by decide)
  have h4 := g.2.2 4 (by decide)
  have m0 : mid h 5 0 = (h 0 + 0) % 67108864 := rfl
  have m1 : mid h 5 1 = (h 1 + cc h 1) % 67108864 := rfl
  by_cases e0 : i = 0
  · subst e0; rw [carD_0]; exact Nat.mod_lt _ (by decide)
  · by_cases e1 : i = 1
    · subst e1
      rw [carD_1, m0, m1]
      generalize cc h 1 = k1 at *
      generalize cc h 2 = k2 at *
      generalize cc h 3 = k3 at *
      generalize cc h 4 = k4 at *
      generalize cc h 5 = k5 at *
      omega
    · rw [carD_up h i (by omega)]; exact mid_lt h i hi
theorem red_val {h : Nat → Nat} (g : Good h) : val (redD h) = val h % p130 := by
  unfold redD
  rw [val_least (Nat.lt_trans (carD_small g 0 (by decide)) (by decide)) (carD_small g 1 (by decide)) (carD_small g 2 (by decide)) (carD_small g 3 (by decide)) (carD_small g 4 (by decide)), val_carD_mod]
theorem red_lt {h : Nat → Nat} (g : Good h) (i : Nat) (hi : i < 5) : redD h i < 67108864 := by
  unfold redD least
  split
  · exact mid_lt _ i hi
  · exact carD_small g i hi
/-- The lower 128 bits in two words. -/
def lowW (d : Nat → Nat) : Nat := d 0 + d 1 * 67108864 + d 2 * 4503599627370496 % 18446744073709551616
def highW (d : Nat → Nat) : Nat := d 2 / 4096 + d 3 * 16384 + d 4 * 1099511627776 % 18446744073709551616
theorem words_val {d : Nat → Nat} (hd : ∀ i, i < 5 → d i < 67108864) : lowW d < 18446744073709551616 ∧ highW d < 18446744073709551616 ∧ lowW d + 18446744073709551616 * highW d = val d % 340282366920938463463374607431768211456 := by
  have h0 := hd 0 (by decide)
  have h1 := hd 1 (by decide)
  have h2 := hd 2 (by decide)
  have h3 := hd 3 (by decide)
  have h4 := hd 4 (by decide)
  unfold lowW highW val
  generalize d 0 = d0 at *
  generalize d 1 = d1 at *
  generalize d 2 = d2 at *
  generalize d 3 = d3 at *
  generalize d 4 = d4 at *
  have e2 : d2 * 4503599627370496 % 18446744073709551616 = 4503599627370496 * (d2 % 4096) := by rw [show (18446744073709551616 : Nat) = 4503599627370496 * 4096 from rfl, Nat.mul_comm d2, Nat.mul_mod_mul_left]
  have e4 : d4 * 1099511627776 % 18446744073709551616 = 1099511627776 * (d4 % 16777216) := by rw [show (18446744073709551616 : Nat) = 1099511627776 * 16777216 from rfl, Nat.mul_comm d4, Nat.mul_mod_mul_left]
  rw [e2, e4]
  refine ⟨by omega, by omega, ?_⟩
  omega
/-- Bytes, the lowest first, in two halves; with bits cleared. -/
theorem leB_add (b : Nat → Nat) (m n : Nat) : leB b (m + n) = leB b m + leB (fun i => b (m + i)) n * 256 ^ m := by
  induction n with
  | zero => show leB b m = leB b m + 0 * 256 ^ m; omega
  | succ n ih =>
    show leB b (m + n) + b (m + n) * 256 ^ (m + n) = leB b m + (leB (fun i => b (m + i)) n + b (m + n) * 256 ^ n) * 256 ^ m
    rw [ih, Nat.add_mul, Nat.pow_add, Nat.mul_comm (256 ^ m) (256 ^ n), Nat.mul_assoc (b (m + n)) (256 ^ n) (256 ^ m)]; omega
theorem and_join (a b x y k : Nat) (hx : x < 2 ^ k) (hy : y < 2 ^ k) : (x + a * 2 ^ k) &&& (y + b * 2 ^ k) = (x &&& y) + (a &&& b) * 2 ^ k := by
  have hxy : x &&& y < 2 ^ k := Nat.lt_of_le_of_lt Nat.and_le_left hx
  rw [Nat.add_comm x, Nat.add_comm y, Nat.add_comm (x &&& y), Nat.mul_comm a, Nat.mul_comm b, Nat.mul_comm (a &&& b)]
  apply Nat.eq_of_testBit_eq
  intro j
  rw [Nat.testBit_and, Nat.testBit_two_pow_mul_add _ hx, Nat.testBit_two_pow_mul_add _ hy, Nat.testBit_two_pow_mul_add _ hxy]
  split <;> rw [Nat.testBit_and]
theorem leB_and {b m : Nat → Nat} (hb : ∀ i, b i < 256) (hm : ∀ i, m i < 256) (n : Nat) : leB b n &&& leB m n = leB (fun i => b i &&& m i) n := by
  induction n with
  | zero => show 0 &&& 0 = 0; rfl
  | succ n ih =>
    show (leB b n + b n * 256 ^ n) &&& (leB m n + m n * 256 ^ n) = leB (fun i => b i &&& m i) n + (b n &&& m n) * 256 ^ n
    have e : 256 ^ n = 2 ^ (8 * n) := by rw [Nat.pow_mul]
    have h1 := leB_lt hb n
    have h2 := leB_lt hm n
    rw [e] at h1 h2 ⊢
    rw [and_join _ _ _ _ _ h1 h2, ih]
theorem two64 : (256 : Nat) ^ 8 = 18446744073709551616 := rfl
theorem two128 : (256 : Nat) ^ 16 = 340282366920938463463374607431768211456 := rfl
theorem leB_8 {b : Nat → Nat} (hb : ∀ i, b i < 256) : leB b 8 < 18446744073709551616 := leB_lt hb 8
theorem leB_16 (b : Nat → Nat) : leB b 16 = leB b 8 + 18446744073709551616 * leB (fun i => b (8 + i)) 8 := by
  rw [show 16 = 8 + 8 from rfl, leB_add, two64, Nat.mul_comm]
/-- A key's factor and pad, in words. -/
def facW (key : ByteArray) (o : Nat) : Nat := leB (fun i => rB key (o + i)) 8
def padW (key : ByteArray) (o : Nat) : Nat := leB (fun i => byt key (16 + (o + i))) 8
theorem facW_lt (key : ByteArray) (o : Nat) : facW key o < 18446744073709551616 := leB_8 fun _ => rB_lt _ _
theorem padW_lt (key : ByteArray) (o : Nat) : padW key o < 18446744073709551616 := leB_8 fun _ => byt_lt _ _
theorem mask_low : leB (fun i => maskB (0 + i)) 8 = 1152921487695413247 := by decide +kernel
theorem mask_high : leB (fun i => maskB (8 + i)) 8 = 1152921487695413244 := by decide +kernel
theorem fac_low (key : ByteArray) : leB (fun i => byt key (0 + i)) 8 &&& 1152921487695413247 = facW key 0 := by
  rw [← mask_low, leB_and (fun _ => byt_lt _ _) (fun _ => maskB_lt _)]; rfl
theorem fac_high (key : ByteArray) : leB (fun i => byt key (8 + i)) 8 &&& 1152921487695413244 = facW key 8 := by
  rw [← mask_high, leB_and (fun _ => byt_lt _ _) (fun _ => maskB_lt _)]; rfl
def facL (key : ByteArray) : Nat → Nat := limF (facW key 0) (facW key 8) 0
theorem facL_lt (key : ByteArray) (i : Nat) : facL key i < 67108864 := limF_lt _ _ _ (facW_lt _ _) (by decide) i
theorem facW_0 (key : ByteArray) : facW key 0 = leB (rB key) 8 := leB_congr 8 fun i _ => by rw [Nat.zero_add]
theorem padW_0 (key : ByteArray) : padW key 0 = leB (fun i => byt key (16 + i)) 8 := leB_congr 8 fun i _ => by rw [Nat.zero_add]
theorem facL_val (key : ByteArray) : val (facL key) = rN key := by
  have e8 : facW key 8 = leB (fun i => rB key (8 + i)) 8 := rfl
  unfold facL rN
  rw [val_limF _ _ _ (facW_lt _ _) (facW_lt _ _), leB_16, facW_0, e8, Nat.mul_zero, Nat.add_zero]
theorem padW_val (key : ByteArray) : padW key 0 + 18446744073709551616 * padW key 8 = padN key := by
  have e8 : padW key 8 = leB (fun i => byt key (16 + (8 + i))) 8 := rfl
  unfold padN
  rw [leB_16, padW_0, e8]
/-- The tag's two words; its bytes. -/
theorem tag_words (L H V pl ph : Nat) (_hL : L < 18446744073709551616) (_hH : H < 18446744073709551616) (_hp : pl < 18446744073709551616) (_hq : ph < 18446744073709551616) (hV : L + 18446744073709551616 * H = V % 340282366920938463463374607431768211456) :
    (L + pl + 0) % 18446744073709551616 = (V + (pl + 18446744073709551616 * ph)) % 18446744073709551616 ∧
    (H + ph + (L + pl + 0) / 18446744073709551616) % 18446744073709551616 = (V + (pl + 18446744073709551616 * ph)) / 18446744073709551616 % 18446744073709551616 := by
  omega
theorem pow_split (i : Nat) (hi : i < 8) : 18446744073709551616 = 256 ^ i * (256 * 256 ^ (7 - i)) := by
  rw [← two64, ← Nat.pow_succ', ← Nat.pow_add, show i + (7 - i).succ = 8 by omega]
theorem byte_low (x i : Nat) (hi : i < 8) : x % 18446744073709551616 / 256 ^ i % 256 = x / 256 ^ i % 256 := by
  rw [pow_split i hi, Nat.mod_mul_right_div_self, Nat.mod_mul_right_mod]
theorem byte_high (x i : Nat) (hi : i < 8) : x / 18446744073709551616 % 18446744073709551616 / 256 ^ i % 256 = x / 256 ^ (8 + i) % 256 := by
  rw [byte_low _ i hi, ← two64, Nat.div_div_eq_div_mul, ← Nat.pow_add]
end Go.Proofs.Pd
