/-
  The developers' poly in numbers: what limbs, sums, products and the reduced number say. Of no program.
-/
import Derived.Test.YtljhenjbjondkaaGreatJobm
import Derived.Laws.Externs
namespace Go.Proofs.Pd
open Go.RowKit
open Go.Proofs.Aes (byt byt_lt)
open Go.Proofs.Pol (val p130 prS prS_lt prS_4 term_lt val_pr cc cc_lt mid mid_lt five least val_car_mod val_least val_five limb lt5 leB leB_lt leB_congr cc5 rB rB_lt rN maskL maskB maskB_lt carS tagS blkN blkL blkB blkB_lt fillS litS litB runN runK run_append zS zS_size zS_byt p130_pos padN)
theorem val_limF (l h t : Nat) (hl : l < 18446744073709551616) (_hh : h < 18446744073709551616) :
    val (limF l h t) = l + 18446744073709551616 * h + 340282366920938463463374607431768211456 * t := by
  unfold val
  rw [limF_0, limF_1, limF_2, limF_3, limF_4]
  have e1 : h * 4096 % 18446744073709551616 = 4096 * (h % 4503599627370496) := by rw [show (18446744073709551616 : Nat) = 4096 * 4503599627370496 from rfl, Nat.mul_comm h, Nat.mul_mod_mul_left]
  rw [e1]
  have e2 : (l / 4503599627370496 + 4096 * (h % 4503599627370496)) % 67108864 = l / 4503599627370496 + 4096 * (h % 16384) := by omega
  rw [e2]
  omega
theorem limF_lt (l h t : Nat) (hh : h < 18446744073709551616) (ht : t ≤ 1) (i : Nat) : limF l h t i < 67108864 := by
  unfold limF
  split
  · exact Nat.mod_lt _ (by decide)
  · split
    · exact Nat.mod_lt _ (by decide)
    · split
      · exact Nat.mod_lt _ (by decide)
      · split
        · exact Nat.mod_lt _ (by decide)
        · omega
theorem carD_0 (d : Nat → Nat) : carD d 0 = (mid d 5 0 + 5 * cc d 5) % 67108864 := if_pos rfl
theorem carD_1 (d : Nat → Nat) : carD d 1 = mid d 5 1 + (mid d 5 0 + 5 * cc d 5) / 67108864 := by unfold carD; rw [if_neg (by decide), if_pos rfl]
theorem carD_up (d : Nat → Nat) (i : Nat) (hi : 2 ≤ i) : carD d i = mid d 5 i := by unfold carD; rw [if_neg (by omega), if_neg (by omega)]
theorem carS_0 (d : Nat → Nat) : carS d 0 = mid d 5 0 + 5 * cc d 5 := rfl
theorem carS_1 (d : Nat → Nat) : carS d 1 = mid d 5 1 := rfl
theorem val_carD (d : Nat → Nat) : val (carD d) = val (carS d) := by
  have c2 : carS d 2 = mid d 5 2 := rfl
  have c3 : carS d 3 = mid d 5 3 := rfl
  have c4 : carS d 4 = mid d 5 4 := rfl
  unfold val
  rw [carD_0, carD_1, carD_up d 2 (by decide), carD_up d 3 (by decide), carD_up d 4 (by decide), carS_0, carS_1, c2, c3, c4]
  have e := limb (mid d 5 0 + 5 * cc d 5)
  generalize mid d 5 0 + 5 * cc d 5 = x at e ⊢
  omega
theorem val_carD_mod (d : Nat → Nat) : val (carD d) % p130 = val d % p130 := by rw [val_carD, val_car_mod]
/-- The limbs that a sum under way has. -/
def Good (h : Nat → Nat) : Prop := h 0 < 67108864 ∧ h 1 < 67108928 ∧ ∀ i, 2 ≤ i → h i < 67108864
theorem Good.all {h : Nat → Nat} (g : Good h) (i : Nat) : h i < 67108928 := by
  by_cases e0 : i = 0
  · subst e0; have := g.1; omega
  · by_cases e1 : i = 1
    · subst e1; exact g.2.1
    · have := g.2.2 i (by omega); omega
theorem good_zero : Good fun _ => 0 := ⟨Nat.zero_lt_succ _, Nat.zero_lt_succ _, fun _ _ => Nat.zero_lt_succ _⟩
theorem prS_high (h r : Nat → Nat) (k t : Nat) (ht : 5 ≤ t) : prS h r k t = 0 := by
  induction k with
  | zero => rfl
  | succ k ih =>
    show (if t = (k / 5 + k % 5) % 5 then _ else prS h r k t) = 0
    rw [if_neg (by omega), ih]
/-- A product's limbs. -/
def mulD (h r : Nat → Nat) : Nat → Nat := carD (prS h r 25)
theorem mulD_good {h r : Nat → Nat} (hh : ∀ i, h i < 134218752) (hr : ∀ i, r i < 67108864) : Good (mulD h r) := by
  have hd : ∀ t, prS h r 25 t < 1152921504606846976 := fun t => by have := prS_lt hh hr 25 t; omega
  have h4 : prS h r 25 4 < 45036339871088641 := by
    rw [prS_4]
    have a0 := (term_lt hh hr 0 4).1
    have a1 := (term_lt hh hr 1 3).1
    have a2 := (term_lt hh hr 2 2).1
    have a3 := (term_lt hh hr 3 1).1
    have a4 := (term_lt hh hr 4 0).1
    omega
  have hi : ∀ t, 5 ≤ t → prS h r 25 t = 0 := fun t ht => prS_high h r 25 t ht
  unfold mulD
  generalize prS h r 25 = d at hd h4 hi
  have c5 : cc d 5 = (d 4 + cc d 4) / 67108864 := rfl
  have l4 := cc_lt hd 4
  have m0 := mid_lt d 0 (by decide)
  have m1 := mid_lt d 1 (by decide)
  refine ⟨?_, ?_, fun i hi2 => ?_⟩
  · rw [carD_0]; exact Nat.mod_lt _ (by decide)
  · rw [carD_1]
    generalize cc d 4 = k4 at c5 l4
    generalize cc d 5 = k5 at c5 ⊢
    generalize mid d 5 0 = x0 at m0 ⊢
    generalize mid d 5 1 = x1 at m1 ⊢
    omega
  · rw [carD_up d i hi2]
    by_cases h5 : i < 5
    · exact mid_lt d i h5
    · unfold mid; rw [if_neg h5, hi i (by omega)]; decide
/-- A round: a sum and a block's number, times the factor. -/
theorem round_mod {h b r : Nat → Nat} {A x R : Nat} (hA : val h % p130 = A) (hb : val b = x) (hr : val r = R) : val (mulD (fun i => h i + b i) r) % p130 = (A + x) * R % p130 := by
  unfold mulD
  have e : val (fun i => h i + b i) = val h + val b := by unfold val; simp only []; omega
  rw [val_carD_mod, ← Nat.add_mul_mod_self_right (val (prS _ r 25)), val_pr, e, hb, hr, ← hA, Nat.mul_mod, Nat.mul_mod (val h % p130 + x), Nat.mod_add_mod]
/-- The reduced number's limbs. -/
def redD (h : Nat → Nat) : Nat → Nat := least (carD h)
theorem carD_small {h : Nat → Nat} (g : Good h) (i : Nat) (hi : i < 5) : carD h i < 67108864 := by
  obtain ⟨c1, c2, c3, c4, c5⟩ := cc5 h
  have h0 := g.1
  have h1 := g.2.1
  have h2 := g.2.2 2 (by decide)
  have h3 := g.2.2 3 (by decide)
  have h4 := g.2.2 4 (by decide)
  have m0 : mid h 5 0 = (h 0 + 0) % 67108864 := rfl
  have m1 : mid h 5 1 = (h 1 + cc h 1) % 67108864 := rfl
  by_cases e0 : i = 0
  · subst e0; rw [carD_0]; exact Nat.mod_lt _ (by decide)
  · by_cases e1 : i = 1
    · subst e1
      rw [carD_1, m0, m1]
      generalize cc h 1 = k1 at *
      generalize cc h 2 = k2 at *
      generalize cc h 3 = k3 at *
      generalize cc h 4 = k4 at *
      generalize cc h 5 = k5 at *
      omega
    · rw [carD_up h i (by omega)]; exact mid_lt h i hi
theorem red_val {h : Nat → Nat} (g : Good h) : val (redD h) = val h % p130 := by
  unfold redD
  rw [val_least (Nat.lt_trans (carD_small g 0 (by decide)) (by decide)) (carD_small g 1 (by decide)) (carD_small g 2 (by decide)) (carD_small g 3 (by decide)) (carD_small g 4 (by decide)), val_carD_mod]
theorem red_lt {h : Nat → Nat} (g : Good h) (i : Nat) (hi : i < 5) : redD h i < 67108864 := by
  unfold redD least
  split
  · exact mid_lt _ i hi
  · exact carD_small g i hi
/-- The lower 128 bits in two words. -/
def lowW (d : Nat → Nat) : Nat := d 0 + d 1 * 67108864 + d 2 * 4503599627370496 % 18446744073709551616
def highW (d : Nat → Nat) : Nat := d 2 / 4096 + d 3 * 16384 + d 4 * 1099511627776 % 18446744073709551616
theorem words_val {d : Nat → Nat} (hd : ∀ i, i < 5 → d i < 67108864) : lowW d < 18446744073709551616 ∧ highW d < 18446744073709551616 ∧ lowW d + 18446744073709551616 * highW d = val d % 340282366920938463463374607431768211456 := by
  have h0 := hd 0 (by decide)
  have h1 := hd 1 (by decide)
  have h2 := hd 2 (by decide)
  have h3 := hd 3 (by decide)
  have h4 := hd 4 (by decide)
  unfold lowW highW val
  generalize d 0 = d0 at *
  generalize d 1 = d1 at *
  generalize d 2 = d2 at *
  generalize d 3 = d3 at *
  generalize d 4 = d4 at *
  have e2 : d2 * 4503599627370496 % 18446744073709551616 = 4503599627370496 * (d2 % 4096) := by rw [show (18446744073709551616 : Nat) = 4503599627370496 * 4096 from rfl, Nat.mul_comm d2, Nat.mul_mod_mul_left]
  have e4 : d4 * 1099511627776 % 18446744073709551616 = 1099511627776 * (d4 % 16777216) := by rw [show (18446744073709551616 : Nat) = 1099511627776 * 16777216 from rfl, Nat.mul_comm d4, Nat.mul_mod_mul_left]
  rw [e2, e4]
  refine ⟨by omega, by omega, ?_⟩
  omega
/-- Bytes, the lowest first, in two halves; with bits cleared. -/
theorem leB_add (b : Nat → Nat) (m n : Nat) : leB b (m + n) = leB b m + leB (fun i => b (m + i)) n * 256 ^ m := by
  induction n with
  | zero => show leB b m = leB b m + 0 * 256 ^ m; omega
  | succ n ih =>
    show leB b (m + n) + b (m + n) * 256 ^ (m + n) = leB b m + (leB (fun i => b (m + i)) n + b (m + n) * 256 ^ n) * 256 ^ m
    rw [ih, Nat.add_mul, Nat.pow_add, Nat.mul_comm (256 ^ m) (256 ^ n), Nat.mul_assoc (b (m + n)) (256 ^ n) (256 ^ m)]; omega
theorem and_join (a b x y k : Nat) (hx : x < 2 ^ k) (hy : y < 2 ^ k) : (x + a * 2 ^ k) &&& (y + b * 2 ^ k) = (x &&& y) + (a &&& b) * 2 ^ k := by
  have hxy : x &&& y < 2 ^ k := Nat.lt_of_le_of_lt Nat.and_le_left hx
  rw [Nat.add_comm x, Nat.add_comm y, Nat.add_comm (x &&& y), Nat.mul_comm a, Nat.mul_comm b, Nat.mul_comm (a &&& b)]
  apply Nat.eq_of_testBit_eq
  intro j
  rw [Nat.testBit_and, Nat.testBit_two_pow_mul_add _ hx, Nat.testBit_two_pow_mul_add _ hy, Nat.testBit_two_pow_mul_add _ hxy]
  split <;> rw [Nat.testBit_and]
theorem leB_and {b m : Nat → Nat} (hb : ∀ i, b i < 256) (hm : ∀ i, m i < 256) (n : Nat) : leB b n &&& leB m n = leB (fun i => b i &&& m i) n := by
  induction n with
  | zero => show 0 &&& 0 = 0; rfl
  | succ n ih =>
    show (leB b n + b n * 256 ^ n) &&& (leB m n + m n * 256 ^ n) = leB (fun i => b i &&& m i) n + (b n &&& m n) * 256 ^ n
    have e : 256 ^ n = 2 ^ (8 * n) := by rw [Nat.pow_mul]
    have h1 := leB_lt hb n
    have h2 := leB_lt hm n
    rw [e] at h1 h2 ⊢
    rw [and_join _ _ _ _ _ h1 h2, ih]
theorem two64 : (256 : Nat) ^ 8 = 18446744073709551616 := rfl
theorem two128 : (256 : Nat) ^ 16 = 340282366920938463463374607431768211456 := rfl
theorem leB_8 {b : Nat → Nat} (hb : ∀ i, b i < 256) : leB b 8 < 18446744073709551616 := leB_lt hb 8
theorem leB_16 (b : Nat → Nat) : leB b 16 = leB b 8 + 18446744073709551616 * leB (fun i => b (8 + i)) 8 := by
  rw [show 16 = 8 + 8 from rfl, leB_add, two64, Nat.mul_comm]
/-- A key's factor and pad, in words. -/
def facW (key : ByteArray) (o : Nat) : Nat := leB (fun i => rB key (o + i)) 8
def padW (key : ByteArray) (o : Nat) : Nat := leB (fun i => byt key (16 + (o + i))) 8
theorem facW_lt (key : ByteArray) (o : Nat) : facW key o < 18446744073709551616 := leB_8 fun _ => rB_lt _ _
theorem padW_lt (key : ByteArray) (o : Nat) : padW key o < 18446744073709551616 := leB_8 fun _ => byt_lt _ _
theorem mask_low : leB (fun i => maskB (0 + i)) 8 = 1152921487695413247 := by decide +kernel
theorem mask_high : leB (fun i => maskB (8 + i)) 8 = 1152921487695413244 := by decide +kernel
theorem fac_low (key : ByteArray) : leB (fun i => byt key (0 + i)) 8 &&& 1152921487695413247 = facW key 0 := by
  rw [← mask_low, leB_and (fun _ => byt_lt _ _) (fun _ => maskB_lt _)]; rfl
theorem fac_high (key : ByteArray) : leB (fun i => byt key (8 + i)) 8 &&& 1152921487695413244 = facW key 8 := by
  rw [← mask_high, leB_and (fun _ => byt_lt _ _) (fun _ => maskB_lt _)]; rfl
def facL (key : ByteArray) : Nat → Nat := limF (facW key 0) (facW key 8) 0
theorem facL_lt (key : ByteArray) (i : Nat) : facL key i < 67108864 := limF_lt _ _ _ (facW_lt _ _) (by decide) i
theorem facW_0 (key : ByteArray) : facW key 0 = leB (rB key) 8 := leB_congr 8 fun i _ => by rw [Nat.zero_add]
theorem padW_0 (key : ByteArray) : padW key 0 = leB (fun i => byt key (16 + i)) 8 := leB_congr 8 fun i _ => by rw [Nat.zero_add]
theorem facL_val (key : ByteArray) : val (facL key) = rN key := by
  have e8 : facW key 8 = leB (fun i => rB key (8 + i)) 8 := rfl
  unfold facL rN
  rw [val_limF _ _ _ (facW_lt _ _) (facW_lt _ _), leB_16, facW_0, e8, Nat.mul_zero, Nat.add_zero]
theorem padW_val (key : ByteArray) : padW key 0 + 18446744073709551616 * padW key 8 = padN key := by
  have e8 : padW key 8 = leB (fun i => byt key (16 + (8 + i))) 8 := rfl
  unfold padN
  rw [leB_16, padW_0, e8]
/-- The tag's two words; its bytes. -/
theorem tag_words (L H V pl ph : Nat) (_hL : L < 18446744073709551616) (_hH : H < 18446744073709551616) (_hp : pl < 18446744073709551616) (_hq : ph < 18446744073709551616) (hV : L + 18446744073709551616 * H = V % 340282366920938463463374607431768211456) :
    (L + pl + 0) % 18446744073709551616 = (V + (pl + 18446744073709551616 * ph)) % 18446744073709551616 ∧
    (H + ph + (L + pl + 0) / 18446744073709551616) % 18446744073709551616 = (V + (pl + 18446744073709551616 * ph)) / 18446744073709551616 % 18446744073709551616 := by
  omega
theorem pow_split (i : Nat) (hi : i < 8) : 18446744073709551616 = 256 ^ i * (256 * 256 ^ (7 - i)) := by
  rw [← two64, ← Nat.pow_succ', ← Nat.pow_add, show i + (7 - i).succ = 8 by omega]
theorem byte_low (x i : Nat) (hi : i < 8) : x % 18446744073709551616 / 256 ^ i % 256 = x / 256 ^ i % 256 := by
  rw [pow_split i hi, Nat.mod_mul_right_div_self, Nat.mod_mul_right_mod]
theorem byte_high (x i : Nat) (hi : i < 8) : x / 18446744073709551616 % 18446744073709551616 / 256 ^ i % 256 = x / 256 ^ (8 + i) % 256 := by
  rw [byte_low _ i hi, ← two64, Nat.div_div_eq_div_mul, ← Nat.pow_add]
end Go.Proofs.Pd
/-
  The developers' poly: a reduced number's words, sums of 128 bits, eight bytes as a word, a text filled up to a block.
-/
namespace Go.Proofs.Pd
open Go.RowKit
open Go.Proofs.Aes (byt byt_lt get_byt)
open Go.Proofs.Pol (lmL lmA lmA_get lmA_congr lmA_one lmA_size lt5 leB leB_lt leB_congr zS zS_size)
open Go.Proofs.Im (wpList_box_to wp_region_quiet_tail)
theorem shl_at (x k : Nat) (K : Int) (hK : K = (k : Int)) : IntKind.u64.wrap ((x : Int) * K) = ((x * k % 18446744073709551616 : Nat) : Int) := by
  subst hK
  show _ % 18446744073709551616 = _
  omega
theorem shl_of (x k y : Nat) (K : Int) (hK : K = (k : Int)) (h : x * k % 18446744073709551616 = y) : IntKind.u64.wrap ((x : Int) * K) = (y : Int) := by rw [shl_at x k K hK, h]
theorem mod_same (x y : Nat) (h : x = y) (hy : y < 18446744073709551616) : x % 18446744073709551616 = y := by rw [h]; exact Nat.mod_eq_of_lt hy
set_option maxHeartbeats 2000000 in
theorem words_any (d : Nat → Nat) (w : World) (hd : ∀ i, i < 5 → d i < 67108864) :
    Calls Tryz.prog 81 #[.agg (lmA d)] w fun e w' => e = .returned (.tuple #[.int .u64 (lowW d : Nat), .int .u64 (highW d : Nat)]) ∧ Below w.heap.size w w' := by
  have hR := RQ.new w d
  have c0 := hR.at_ 0 (d 0) (by decide) rfl
  have c1 := hR.at_ 1 (d 1) (by decide) rfl
  have c2 := hR.at_ 2 (d 2) (by decide) rfl
  have c3 := hR.at_ 3 (d 3) (by decide) rfl
  have c4 := hR.at_ 4 (d 4) (by decide) rfl
  have HB : Hid (Below w.heap.size w (w.alloc (.cells (lmA d) 84))) := (Below.refl _ _).alloc (Nat.le_refl _) _
  have HL : Hid (lowW d = d 0 + d 1 * 67108864 + d 2 * 4503599627370496 % 18446744073709551616) := rfl
  have HH : Hid (highW d = d 2 / 4096 + d 3 * 16384 + d 4 * 1099511627776 % 18446744073709551616) := rfl
  have h0 := hd 0 (by decide)
  have h1 := hd 1 (by decide)
  have h2 := hd 2 (by decide)
  have h3 := hd 3 (by decide)
  have h4 := hd 4 (by decide)
  generalize lowW d = lo at HL ⊢
  generalize highW d = hi at HH ⊢
  generalize d 0 = d0 at *
  generalize d 1 = d1 at *
  generalize d 2 = d2 at *
  generalize d 3 = d3 at *
  generalize d 4 = d4 at *
  obtain ⟨p1, e1⟩ : ∃ z, d1 * 67108864 = z := ⟨_, rfl⟩
  obtain ⟨p2, e2⟩ : ∃ z, d2 * 4503599627370496 % 18446744073709551616 = z := ⟨_, rfl⟩
  obtain ⟨p3, e3⟩ : ∃ z, d3 * 16384 = z := ⟨_, rfl⟩
  obtain ⟨p4, e4⟩ : ∃ z, d4 * 1099511627776 % 18446744073709551616 = z := ⟨_, rfl⟩
  obtain ⟨t2, e5⟩ : ∃ z, d2 / 4096 = z := ⟨_, rfl⟩
  obtain ⟨q1, e6⟩ : ∃ z, d0 + p1 = z := ⟨_, rfl⟩
  obtain ⟨q3, e7⟩ : ∃ z, t2 + p3 = z := ⟨_, rfl⟩
  have b1 : p1 < 18446744073709551616 := by omega
  have b3 : p3 < 18446744073709551616 := by omega
  have s1 := shl_of d1 67108864 p1 67108864 rfl (mod_same _ _ e1 b1)
  have s2 := shl_of d2 4503599627370496 p2 4503599627370496 rfl e2
  have s3 := shl_of d3 16384 p3 16384 rfl (mod_same _ _ e3 b3)
  have s4 := shl_of d4 1099511627776 p4 1099511627776 rfl e4
  have k2 : p2 % 4503599627370496 = 0 ∧ p2 < 18446744073709551616 := by rw [← e2]; omega
  have k4 : p4 % 1099511627776 = 0 ∧ p4 < 18446744073709551616 := by rw [← e4]; omega
  have s5 : (d2 : Int) / 4096 = (t2 : Int) := by omega
  have o1 := or_add d0 p1 26 h0 (by rw [show (2 : Nat) ^ 26 = 67108864 from rfl]; omega) (by omega) (by decide)
  have o2 := or_add q1 p2 52 (by rw [show (2 : Nat) ^ 52 = 4503599627370496 from rfl]; omega) k2.1 k2.2 (by decide)
  have o3 := or_add t2 p3 14 (by rw [show (2 : Nat) ^ 14 = 16384 from rfl]; omega) (by rw [show (2 : Nat) ^ 14 = 16384 from rfl]; omega) (by omega) (by decide)
  have o4 := or_add q3 p4 40 (by rw [show (2 : Nat) ^ 40 = 1099511627776 from rfl]; omega) k4.1 k4.2 (by decide)
  rw [e6] at o1
  rw [e7] at o3
  have HL : Hid (q1 + p2 = lo) := by show _ = _; rw [HL.out, e2, e1, e6]
  have HH : Hid (q3 + p4 = hi) := by show _ = _; rw [HH.out, e4, e3, e5, e7]
  rw [HL.out] at o2
  rw [HH.out] at o4
  clear k2 k4 b1 b3 e1 e2 e3 e4 e5 e6 e7 h0 h1 h2 h3 h4 hR hd
  generalize hA : lmA d = A at *
  go_enter Tryz.func81, Tryz.ntmps81
  go_upto_region 0 with (fail)
  apply wp_region_lit
  refine wpList_box_to rfl 84 _ rfl A (by kernel_rfl) w.heap.size rfl ?_
  simp only [Act.put, List.setIfInBounds_toArray, List.set_cons_zero, List.set_cons_succ]
  clear hA
  generalize w.alloc (.cells A 84) = w1 at HB c0 c1 c2 c3 c4 ⊢
  go_wp2_with (fail)
  go_quiet (fail)
  go_wp2_with (fail)
  go_ret2
  exact ⟨rfl, Lw.below_drewN HB.out nq⟩
theorem add64_at (x y c : Int) (hx : 0 ≤ x) (hy : 0 ≤ y) (hc0 : 0 ≤ c) (hc : c ≤ 1) (w : World) : (callFunc 104 #[.int .u64 x, .int .u64 y, .int .u64 c]).run Tryz.prog w =
    .ok (.value (.tuple #[.int .u64 ((x + y + c) % 18446744073709551616), .int .u64 ((x + y + c) / 18446744073709551616)])) w := by
  rw [run_callFunc_extern Tryz.func104 (by kernel_rfl) (by kernel_rfl) (by kernel_rfl) (e := add64Entry) (by kernel_rfl), run_add64 x y c hx hy hc0 hc]
  rfl
set_option maxHeartbeats 1000000 in
theorem sum128_any (a b c d : Nat) (w : World) (ha : a < 18446744073709551616) (hc : c < 18446744073709551616) :
    Calls Tryz.prog 82 #[.int .u64 a, .int .u64 b, .int .u64 c, .int .u64 d] w fun e w' => e = .returned (.tuple #[.int .u64 ((a + c + 0) % 18446744073709551616 : Nat), .int .u64 ((b + d + (a + c + 0) / 18446744073709551616) % 18446744073709551616 : Nat)]) ∧ w' = w := by
  obtain ⟨k, hk⟩ : ∃ k, (a + c + 0) / 18446744073709551616 = k := ⟨_, rfl⟩
  obtain ⟨x, hx⟩ : ∃ x, (a + c + 0) % 18446744073709551616 = x := ⟨_, rfl⟩
  obtain ⟨y, hy⟩ : ∃ y, (b + d + k) % 18446744073709551616 = y := ⟨_, rfl⟩
  have h1 : (callFunc 104 #[.int .u64 (a : Int), .int .u64 (c : Int), .int .u64 0]).run Tryz.prog w = .ok (.value (.tuple #[.int .u64 (x : Int), .int .u64 (k : Int)])) w := by
    have e1 : ((a : Int) + (c : Int) + 0) % 18446744073709551616 = (x : Int) := by omega
    have e2 : ((a : Int) + (c : Int) + 0) / 18446744073709551616 = (k : Int) := by omega
    rw [add64_at a c 0 (by omega) (by omega) (by omega) (by omega), e1, e2]
  obtain ⟨z, h2⟩ : ∃ z : Int, (callFunc 104 #[.int .u64 (b : Int), .int .u64 (d : Int), .int .u64 (k : Int)]).run Tryz.prog w = .ok (.value (.tuple #[.int .u64 (y : Int), .int .u64 z])) w := by
    have e1 : ((b : Int) + (d : Int) + (k : Int)) % 18446744073709551616 = (y : Int) := by omega
    rw [add64_at b d k (by omega) (by omega) (by omega) (by omega), e1]
    exact ⟨_, rfl⟩
  rw [hk, hx, hy]
  clear hk hx hy ha hc
  go_enter Tryz.func82, Tryz.ntmps82
  go_wp2_with (first | simp only [h1] | simp only [h2])
  go_ret2
  exact ⟨rfl, rfl⟩
theorem shl_var (b z : Nat) (hb : b < 256) (hz : z ≤ 56) : IntKind.u64.wrap ((b : Int) * 2 ^ z) = ((b * 2 ^ z : Nat) : Int) := by
  have h1 : 2 ^ z ≤ 2 ^ 56 := Nat.pow_le_pow_right (by decide) hz
  have h2 : b * 2 ^ z ≤ 255 * 2 ^ 56 := Nat.mul_le_mul (by omega) h1
  rw [show (2 : Nat) ^ 56 = 72057594037927936 from rfl] at h2
  have e : (b : Int) * 2 ^ z = ((b * 2 ^ z : Nat) : Int) := by rw [Int.natCast_mul, Int.natCast_pow]; rfl
  rw [e]
  show _ % 18446744073709551616 = _
  omega
theorem or_next (s : ByteArray) (i : Nat) (hi : i < 8) : bits .or .u64 ((leB (byt s) i : Nat) : Int) ((byt s i * 2 ^ (8 * i) : Nat) : Int) = ((leB (byt s) (i + 1) : Nat) : Int) := by
  have h1 := leB_lt (byt_lt s) i
  have h2 := leB_lt (byt_lt s) (i + 1)
  have e : (256 : Nat) ^ i = 2 ^ (8 * i) := by rw [Nat.pow_mul]
  have h3 : (256 : Nat) ^ (i + 1) ≤ 256 ^ 8 := Nat.pow_le_pow_right (by decide) (by omega)
  rw [two64] at h3
  have e2 : leB (byt s) (i + 1) = leB (byt s) i + byt s i * 2 ^ (8 * i) := by show leB (byt s) i + byt s i * 256 ^ i = _; rw [e]
  rw [e] at h1
  rw [e2] at h2 ⊢
  exact or_add _ _ (8 * i) h1 (Nat.mul_mod_left _ _) (by omega) (by omega)
set_option maxHeartbeats 1000000 in
theorem word_any (s : ByteArray) (w : World) (hs : 8 ≤ s.size) :
    Calls Tryz.prog 75 #[.string s] w fun e w' => e = .returned (.int .u64 ((leB (byt s) 8 : Nat) : Int)) ∧ w' = w := by
  have HS := Lib.hid hs
  clear hs
  go_enter Tryz.func75, Tryz.ntmps75
  go_wp2_with (fail)
  go_loopw [3, 5] (fun x v wx => ∃ i : Nat, Hid (i ≤ 8) ∧ v = .int .i64 i ∧ x = .int .u64 ((leB (byt s) i : Nat) : Int) ∧ Hid (wx = w)) (fun _ v _ => 8 - (intOf v).toNat)
  case atStart => exact ⟨0, Nat.zero_le _, rfl, rfl, rfl⟩
  case round =>
    obtain ⟨i, hi, rfl, rfl, HW⟩ := hrel
    by_cases hlt : i < 8
    · have il : ((i : Int) < 8) = True := eq_true (by omega)
      have i1 : (i : Int) < (s.size : Int) := by have := HS.out; omega
      have HI := Lib.hid hlt
      have v1 : ∀ h : i < s.size, (s[i]'h).toNat = byt s i := fun h => get_byt s _ h
      have HO := Lib.hid (or_next s i hlt)
      have HL := Lib.hid (byt_lt s i)
      obtain ⟨Y, hY⟩ : ∃ Y, leB (byt s) (i + 1) = Y := ⟨_, rfl⟩
      rw [hY] at HO
      have HY := Lib.hid hY
      clear hY
      generalize leB (byt s) i = X at HO ⊢
      generalize byt s i = b at v1 HO HL
      clear hlt
      go_upto_region 5 with (fail)
      clear il
      apply wp_region_lit
      refine Lw.wpList_val rfl (.int .u64 (X : Int)) wr (by go_simp) ?_
      refine Lw.wpList_val rfl (.string s) wr (by go_simp) ?_
      refine Lw.wpList_val rfl (.int .i64 (i : Int)) wr (by go_simp) ?_
      refine Lw.wpList_val rfl (.int .u8 (b : Int)) wr (by go_simp) ?_
      refine Lw.wpList_val rfl (.int .u64 (b : Int)) wr (by
        have e : IntKind.u64.wrap (b : Int) = (b : Int) := by (show (b : Int) % 18446744073709551616 = _; have := HL.out; omega)
        go_simp) ?_
      refine Lw.wpList_val rfl (.int .i64 (i : Int)) wr (by go_simp) ?_
      refine Lw.wpList_val rfl (.int .i64 ((8 * i : Nat) : Int)) wr (by
        have e : IntKind.i64.wrap (8 * (i : Int)) = ((8 * i : Nat) : Int) := by rw [IntWalk.i64_in _ (by have := HI.out; omega)]; omega
        generalize 8 * i = z at e
        go_simp) ?_
      have HZ : Hid (8 * i ≤ 56) := by show 8 * i ≤ 56; have := HI.out; omega
      generalize 8 * i = z at HO HZ ⊢
      refine Lw.wpList_val rfl (.int .u64 ((b * 2 ^ z : Nat) : Int)) wr (by
        have e := shl_var b z HL.out HZ.out
        have m : min z 64 = z := Nat.min_eq_left (by have := HZ.out; omega)
        generalize b * 2 ^ z = t at e
        go_simp) ?_
      generalize b * 2 ^ z = t at HO ⊢
      refine Lw.wpList_val rfl (.int .u64 (Y : Int)) wr (by have e := HO.out; go_simp) ?_
      simp only [Act.put, List.setIfInBounds_toArray, List.set_cons_zero, List.set_cons_succ]
      clear i1 v1
      have i8 : (i : Int) < 8 := by have := HI.out; omega
      go_wp2_with (fail)
      exact ⟨⟨i + 1, HI.out, by go_num, by rw [HY.out], HW⟩, Lw.meas 8 i HI.out⟩
    · have il : ((i : Int) < 8) = False := eq_false (by omega)
      obtain rfl : i = 8 := by have := hi.out; omega
      rw [show ((8 : Nat) : Int) = 8 from rfl]
      clear hlt hi
      generalize hX : leB (byt s) 8 = X
      have HX := Lib.hid hX
      clear hX
      go_wp2_with (fail)
      go_ret
      exact ⟨by rw [HX.out]; rfl, HW.out⟩
set_option maxHeartbeats 1000000 in
theorem filled_any (s : ByteArray) (w : World) (hs : s.size ≤ 16) :
    Calls Tryz.prog 77 #[.string s] w fun e w' => e = .returned (.string (s ++ zS (16 - s.size))) ∧ Below w.heap.size w w' := by
  obtain ⟨m, hm⟩ : ∃ m, 16 - s.size = m := ⟨_, rfl⟩
  rw [hm]
  obtain ⟨M, hM, hMc, hmk⟩ := Lw.zeros m (by omega)
  have hcv := fun W => (Lw.rowB_new W M m hM hMc).text 0 m m (by omega)
  have HZ : Hid (Lw.pieceS (fun _ => 0) 0 m = zS m) := rfl
  rw [HZ.out] at hcv
  have z1 := zS_size m
  have q1 : 16 - (s.size : Int) = (m : Int) := by omega
  have m16 : m ≤ 16 := by omega
  have q2 : ¬ 9223372036854775807 < s.size + m := by omega
  clear hMc hM hm HZ
  go_enter Tryz.func77, Tryz.ntmps77
  go_wp2_with (fail)
  go_ret
  exact ⟨rfl, (Below.refl _ _).alloc (Nat.le_refl _) _⟩
end Go.Proofs.Pd
