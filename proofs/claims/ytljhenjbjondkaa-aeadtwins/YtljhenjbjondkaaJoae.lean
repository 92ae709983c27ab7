/-
  Poly1305 in numbers: bytes and bits as a number, a number's limbs and bytes, the sum of a text's blocks. Of no program.
-/
import Derived.Test.YtljhenjbjondkaaJoad
import Derived.Test.YtljhenjbjondkaaJoac
import Derived.Test.YtljhenjbjondkaaProg
import Derived.Test.YtljhenjbjondkaaJoaa
import Derived.Handy
import Derived.BigQuiet
import Derived.Deep.QuietTactic
namespace Go.Proofs.Pol
open Go.RowKit
open Go.Proofs.Aes (byt byt_lt)
/-- Bits as a number; bytes, the lowest first. -/
def bN (f : Nat → Nat) : Nat → Nat
  | 0 => 0
  | n + 1 => bN f n + f n * 2 ^ n
def leB (b : Nat → Nat) : Nat → Nat
  | 0 => 0
  | n + 1 => leB b n + b n * 256 ^ n
/-- Limb q of a number. -/
def lmb (x q : Nat) : Nat := x / 2 ^ (26 * q) % 67108864
/-- A byte's bits. -/
def bitB (b : Nat → Nat) (i : Nat) : Nat := b (i / 8) / 2 ^ (i % 8) % 2
theorem bitB_le (b : Nat → Nat) (i : Nat) : bitB b i ≤ 1 := by unfold bitB; omega
theorem bN_lt {f : Nat → Nat} (hf : ∀ i, f i ≤ 1) (n : Nat) : bN f n < 2 ^ n := by
  induction n with
  | zero => show 0 < 1; decide
  | succ n ih =>
    show bN f n + f n * 2 ^ n < 2 ^ (n + 1)
    have h2 : f n * 2 ^ n ≤ 1 * 2 ^ n := Nat.mul_le_mul_right _ (hf n)
    rw [Nat.pow_succ]; omega
theorem leB_lt {b : Nat → Nat} (hb : ∀ i, b i < 256) (n : Nat) : leB b n < 256 ^ n := by
  induction n with
  | zero => show 0 < 1; decide
  | succ n ih =>
    show leB b n + b n * 256 ^ n < 256 ^ (n + 1)
    have h2 : b n * 256 ^ n ≤ 255 * 256 ^ n := Nat.mul_le_mul_right _ (by have := hb n; omega)
    rw [Nat.pow_succ]; omega
theorem leB_congr {b c : Nat → Nat} (n : Nat) (h : ∀ i, i < n → b i = c i) : leB b n = leB c n := by
  induction n with
  | zero => rfl
  | succ n ih =>
    show leB b n + b n * 256 ^ n = leB c n + c n * 256 ^ n
    rw [ih fun i hi => h i (by omega), h n (by omega)]
/-- A number's lowest bits, one by one. -/
theorem low_bits (y n : Nat) (g : Nat → Nat) (hg : ∀ k, k < n → g k = y / 2 ^ k % 2) : bN g n = y % 2 ^ n := by
  induction n with
  | zero => show 0 = y % 1; omega
  | succ n ih =>
    show bN g n + g n * 2 ^ n = _
    rw [ih fun k hk => hg k (by omega), hg n (by omega), Nat.mod_pow_succ, Nat.mul_comm]
theorem bN_add (f : Nat → Nat) (m n : Nat) : bN f (m + n) = bN f m + bN (fun k => f (m + k)) n * 2 ^ m := by
  induction n with
  | zero => show bN f m = bN f m + 0 * 2 ^ m; omega
  | succ n ih =>
    show bN f (m + n) + f (m + n) * 2 ^ (m + n) = bN f m + (bN (fun k => f (m + k)) n + f (m + n) * 2 ^ n) * 2 ^ m
    rw [ih, Nat.add_mul, Nat.pow_add, Nat.mul_comm (2 ^ m) (2 ^ n), Nat.mul_assoc (f (m + n)) (2 ^ n) (2 ^ m)]; omega
theorem bits_bytes {b : Nat → Nat} (hb : ∀ i, b i < 256) (m : Nat) : bN (bitB b) (8 * m) = leB b m := by
  induction m with
  | zero => rfl
  | succ m ih =>
    rw [show 8 * (m + 1) = 8 * m + 8 by omega, bN_add, ih]
    show leB b m + _ * _ = leB b m + b m * 256 ^ m
    rw [low_bits (b m) 8 _ (fun k hk => by
      show b ((8 * m + k) / 8) / 2 ^ ((8 * m + k) % 8) % 2 = _
      rw [show (8 * m + k) / 8 = m by omega, show (8 * m + k) % 8 = k by omega]), Nat.mod_eq_of_lt (hb m), Nat.pow_mul]
theorem lmb_lt (x q : Nat) : lmb x q < 67108864 := Nat.mod_lt _ (by decide)
/-- Ahead of bit n its limb holds the bits below it alone. -/
theorem lmb_low {f : Nat → Nat} (hf : ∀ i, f i ≤ 1) (n : Nat) : bN f n / 2 ^ (26 * (n / 26)) < 2 ^ (n % 26) := by
  have h := bN_lt hf n
  rw [show n = 26 * (n / 26) + n % 26 by omega, Nat.pow_add] at h
  rw [show 26 * (n / 26) + n % 26 = n by omega] at h
  exact Nat.div_lt_of_lt_mul h
theorem pow26 : (67108864 : Nat) = 2 ^ 26 := rfl
theorem lmb_here {f : Nat → Nat} (hf : ∀ i, f i ≤ 1) (n : Nat) : lmb (bN f n) (n / 26) < 2 ^ (n % 26) := by
  unfold lmb
  have h1 := lmb_low hf n
  have h2 := Nat.mod_le (bN f n / 2 ^ (26 * (n / 26))) 67108864
  omega
theorem pow_pos2 (k : Nat) : 0 < 2 ^ k := Nat.pow_pos (by decide)
theorem lmb_step {f : Nat → Nat} (hf : ∀ i, f i ≤ 1) (n q : Nat) : (if q = n / 26 then lmb (bN f n) (n / 26) + f n * 2 ^ (n % 26) else lmb (bN f n) q) = lmb (bN f (n + 1)) q := by
  have e : bN f (n + 1) = bN f n + f n * 2 ^ n := rfl
  rw [e]
  by_cases h : q = n / 26
  · rw [if_pos h]
    subst h
    have h1 := lmb_low hf n
    have h3 : f n * 2 ^ (n % 26) ≤ 1 * 2 ^ (n % 26) := Nat.mul_le_mul_right _ (hf n)
    have h4 : 2 ^ (n % 26) * 2 ≤ 67108864 := by
      rw [pow26, ← Nat.pow_succ]
      exact Nat.pow_le_pow_right (by decide) (by have := Nat.mod_lt n (show 26 > 0 by decide); omega)
    have h5 : (bN f n + f n * 2 ^ n) / 2 ^ (26 * (n / 26)) = bN f n / 2 ^ (26 * (n / 26)) + f n * 2 ^ (n % 26) := by
      have e2 : f n * 2 ^ n = f n * 2 ^ (n % 26) * 2 ^ (26 * (n / 26)) := by
        rw [Nat.mul_assoc, ← Nat.pow_add, show n % 26 + 26 * (n / 26) = n by omega]
      rw [e2, Nat.add_mul_div_right _ _ (pow_pos2 _)]
    unfold lmb
    rw [h5, Nat.mod_eq_of_lt (show bN f n / 2 ^ (26 * (n / 26)) < 67108864 by omega), Nat.mod_eq_of_lt (show bN f n / 2 ^ (26 * (n / 26)) + f n * 2 ^ (n % 26) < 67108864 by omega)]
  · rw [if_neg h]
    unfold lmb
    by_cases h2 : q < n / 26
    · have e2 : f n * 2 ^ n = f n * 2 ^ (n - 26 * q) * 2 ^ (26 * q) := by
        rw [Nat.mul_assoc, ← Nat.pow_add, show n - 26 * q + 26 * q = n by omega]
      have e3 : f n * 2 ^ (n - 26 * q) = f n * 2 ^ (n - 26 * q - 26) * 67108864 := by
        rw [pow26, Nat.mul_assoc, ← Nat.pow_add, show n - 26 * q - 26 + 26 = n - 26 * q by omega]
      rw [e2, Nat.add_mul_div_right _ _ (pow_pos2 _), e3, Nat.add_mul_mod_self_right]
    · have h3 : n + 1 ≤ 26 * q := by omega
      have h4 : 2 ^ (n + 1) ≤ 2 ^ (26 * q) := Nat.pow_le_pow_right (by decide) h3
      have h5 := bN_lt hf (n + 1)
      rw [e] at h5
      rw [Nat.div_eq_of_lt (by omega), Nat.div_eq_of_lt (by omega)]
theorem val_lmb (x : Nat) (hx : x < 1361129467683753853853498429727072845824) : val (lmb x) = x := by
  have d0 : lmb x 0 = x % 67108864 := by unfold lmb; rw [show 2 ^ (26 * 0) = 1 from rfl, Nat.div_one]
  have d1 : lmb x 1 = x / 67108864 % 67108864 := rfl
  have d2 : lmb x 2 = x / 67108864 / 67108864 % 67108864 := by unfold lmb; rw [Nat.div_div_eq_div_mul]
  have d3 : lmb x 3 = x / 67108864 / 67108864 / 67108864 % 67108864 := by unfold lmb; rw [Nat.div_div_eq_div_mul, Nat.div_div_eq_div_mul]
  have d4 : lmb x 4 = x / 67108864 / 67108864 / 67108864 / 67108864 % 67108864 := by unfold lmb; rw [Nat.div_div_eq_div_mul, Nat.div_div_eq_div_mul, Nat.div_div_eq_div_mul]
  unfold val
  rw [d0, d1, d2, d3, d4]
  have e0 := limb x
  generalize x / 67108864 = x1 at e0 ⊢
  have e1 := limb x1
  generalize x1 / 67108864 = x2 at e1 ⊢
  have e2 := limb x2
  generalize x2 / 67108864 = x3 at e2 ⊢
  have e3 := limb x3
  generalize x3 / 67108864 = x4 at e3 ⊢
  generalize x % 67108864 = y0 at e0 ⊢
  generalize x1 % 67108864 = y1 at e1 ⊢
  generalize x2 % 67108864 = y2 at e2 ⊢
  generalize x3 % 67108864 = y3 at e3 ⊢
  have h4 : x4 < 67108864 := by omega
  rw [Nat.mod_eq_of_lt h4]
  omega
/-- Limbs below 2^26 are their number's. -/
theorem lmb_val {d : Nat → Nat} (h0 : d 0 < 67108864) (h1 : d 1 < 67108864) (h2 : d 2 < 67108864) (h3 : d 3 < 67108864) (h4 : d 4 < 67108864) (q : Nat) (hq : q < 5) : lmb (val d) q = d q := by
  have d0 : lmb (val d) 0 = val d % 67108864 := by unfold lmb; rw [show 2 ^ (26 * 0) = 1 from rfl, Nat.div_one]
  have d1 : lmb (val d) 1 = val d / 67108864 % 67108864 := rfl
  have d2 : lmb (val d) 2 = val d / 4503599627370496 % 67108864 := rfl
  have d3 : lmb (val d) 3 = val d / 302231454903657293676544 % 67108864 := rfl
  have d4 : lmb (val d) 4 = val d / 20282409603651670423947251286016 % 67108864 := rfl
  have e : val d = d 0 + d 1 * 67108864 + d 2 * 4503599627370496 + d 3 * 302231454903657293676544 + d 4 * 20282409603651670423947251286016 := rfl
  generalize val d = V at *
  refine lt5 (P := fun q => lmb V q = d q) ?_ ?_ ?_ ?_ ?_ q hq
  · rw [d0]; omega
  · rw [d1]; omega
  · rw [d2]; omega
  · rw [d3]; omega
  · rw [d4]; omega
theorem mod_bit (x r : Nat) (h : r < 26) : x % 67108864 / 2 ^ r % 2 = x / 2 ^ r % 2 := by
  have e : (67108864 : Nat) = 2 ^ r * (2 * 2 ^ (25 - r)) := by rw [pow26, ← Nat.pow_succ', ← Nat.pow_add, show r + (25 - r).succ = 26 by omega]
  rw [e, Nat.mod_mul_right_div_self, Nat.mod_mul_right_mod]
/-- Bit j, byte i of limbs below 2^26. -/
theorem bitL_val {d : Nat → Nat} (h0 : d 0 < 67108864) (h1 : d 1 < 67108864) (h2 : d 2 < 67108864) (h3 : d 3 < 67108864) (h4 : d 4 < 67108864) (j : Nat) (hj : j < 130) : bitL d j = val d / 2 ^ j % 2 := by
  unfold bitL
  rw [← lmb_val h0 h1 h2 h3 h4 (j / 26) (by omega)]
  unfold lmb
  rw [mod_bit _ _ (Nat.mod_lt _ (by decide)), Nat.div_div_eq_div_mul, ← Nat.pow_add, show 26 * (j / 26) + j % 26 = j by omega]
theorem byteL_bN (d : Nat → Nat) (i k : Nat) : byteL d i k = bN (fun k => bitL d (8 * i + k)) k := by
  induction k with
  | zero => rfl
  | succ k ih => show byteL d i k + _ = bN _ k + _; rw [ih]
theorem byteL_val {d : Nat → Nat} (h0 : d 0 < 67108864) (h1 : d 1 < 67108864) (h2 : d 2 < 67108864) (h3 : d 3 < 67108864) (h4 : d 4 < 67108864) (i : Nat) (hi : i < 16) : byteL d i 8 = val d / 256 ^ i % 256 := by
  rw [byteL_bN, low_bits (val d / 2 ^ (8 * i)) 8 _ (fun k hk => by rw [bitL_val h0 h1 h2 h3 h4 _ (by omega), Nat.pow_add, ← Nat.div_div_eq_div_mul]), Nat.pow_mul]
/-- The tag of a sum and a pad. -/
def tagS (x p : Nat) : ByteArray := strOfNums ((List.range 16).map fun i => (((x + p) / 256 ^ i % 256 : Nat) : Int))
theorem tagS_size (x p : Nat) : (tagS x p).size = 16 := by simp [tagS, strOfNums_size]
theorem pow256_pos (i : Nat) : 0 < 256 ^ i := Nat.pow_pos (by decide)
theorem carry_step (A v b P : Nat) (hP : 0 < P) : (A + P * v + b * P) / P = A / P + v + b := by
  rw [Nat.add_mul_div_right _ _ hP, Nat.add_mul_div_left _ _ hP]
theorem sumL_val (d : Nat → Nat) (s : ByteArray) (V : Nat) (hV : ∀ i, i < 16 → byteL d i 8 = V / 256 ^ i % 256) (i : Nat) (hi : i ≤ 16) : sumL d s i = (V % 256 ^ i + leB (byt s) i) / 256 ^ i := by
  induction i with
  | zero => show 0 = (V % 1 + 0) / 1; omega
  | succ i ih =>
    show (sumL d s i + byteL d i 8 + byt s i) / 256 = (V % 256 ^ (i + 1) + (leB (byt s) i + byt s i * 256 ^ i)) / 256 ^ (i + 1)
    rw [ih (by omega), hV i (by omega), Nat.mod_pow_succ, Nat.pow_succ, ← Nat.div_div_eq_div_mul]
    have e := carry_step (V % 256 ^ i + leB (byt s) i) (V / 256 ^ i % 256) (byt s i) (256 ^ i) (pow256_pos i)
    rw [← e]
    congr 2
    omega
theorem finB_val (d : Nat → Nat) (s : ByteArray) (V : Nat) (hV : ∀ i, i < 16 → byteL d i 8 = V / 256 ^ i % 256) (i : Nat) (hi : i < 16) : finB d s i = (V % 256 ^ (i + 1) + leB (byt s) (i + 1)) / 256 ^ i % 256 := by
  unfold finB
  show _ = (V % 256 ^ (i + 1) + (leB (byt s) i + byt s i * 256 ^ i)) / 256 ^ i % 256
  rw [sumL_val d s V hV i (by omega), hV i hi, Nat.mod_pow_succ]
  have e := carry_step (V % 256 ^ i + leB (byt s) i) (V / 256 ^ i % 256) (byt s i) (256 ^ i) (pow256_pos i)
  rw [← e]
  congr 2
  omega
theorem leB_mod {b : Nat → Nat} (hb : ∀ i, b i < 256) (n k : Nat) : leB b (n + k) % 256 ^ n = leB b n := by
  induction k with
  | zero => exact Nat.mod_eq_of_lt (leB_lt hb n)
  | succ k ih =>
    show (leB b (n + k) + b (n + k) * 256 ^ (n + k)) % 256 ^ n = _
    rw [Nat.pow_add, Nat.mul_comm (256 ^ n), ← Nat.mul_assoc, Nat.add_mul_mod_self_right, ih]
theorem byte_mod (x i : Nat) : x / 256 ^ i % 256 = x % 256 ^ (i + 1) / 256 ^ i := by rw [Nat.pow_succ, Nat.mod_mul_right_div_self]
/-- What finish writes, of limbs below 2^26. -/
theorem finS_val {d : Nat → Nat} (h0 : d 0 < 67108864) (h1 : d 1 < 67108864) (h2 : d 2 < 67108864) (h3 : d 3 < 67108864) (h4 : d 4 < 67108864) (s : ByteArray) : finS d s = tagS (val d) (leB (byt s) 16) := by
  unfold finS tagS
  congr 1
  apply List.map_congr_left
  intro i hi
  have hi : i < 16 := List.mem_range.1 hi
  have hm := leB_mod (b := byt s) (byt_lt s) (i + 1) (15 - i)
  rw [show i + 1 + (15 - i) = 16 by omega] at hm
  rw [finB_val d s (val d) (fun i hi => byteL_val h0 h1 h2 h3 h4 i hi) i hi, byte_mod, byte_mod, ← hm, Nat.add_mod (val d) (leB (byt s) 16)]
end Go.Proofs.Pol
/-
  The document's own answer: a number as eight bytes, the lowest first.
-/
namespace Go.Proofs.Pol
open Go.RowKit
/-- Byte i of a number. -/
def litB (x i : Nat) : Nat := x / 2 ^ (8 * i) % 256
def litS (x : Nat) : ByteArray := strOfNums ((List.range 8).map fun i => (litB x i : Int))
theorem litS_size (x : Nat) : (litS x).size = 8 := by simp [litS, strOfNums_size]
end Go.Proofs.Pol
/-
  The document's own answer: ChaCha20's words and turns.
-/
namespace Go.Proofs.Cha
open Go.RowKit
open Go.Proofs.Aes (byt byt_lt get_byt)
theorem retI {k : IntKind} {a b : Int} (h : a = b) : Ending.returned (.int k a) = .returned (.int k b) := by rw [h]
/-- A word rolled to the left. -/
def rol (k x : Nat) : Nat := (x * 2 ^ k % 4294967296) ||| (x / 2 ^ (32 - k))
theorem or32_lt {a b : Nat} (ha : a < 4294967296) (hb : b < 4294967296) : a ||| b < 4294967296 := Nat.or_lt_two_pow (n := 32) ha hb
theorem xor32_lt {a b : Nat} (ha : a < 4294967296) (hb : b < 4294967296) : a ^^^ b < 4294967296 := Nat.xor_lt_two_pow (n := 32) ha hb
theorem rol_lt (k x : Nat) (hx : x < 4294967296) : rol k x < 4294967296 := or32_lt (Nat.mod_lt _ (by decide)) (Nat.lt_of_le_of_lt (Nat.div_le_self _ _) hx)
/-- Four bytes as a word, the lowest first. -/
def leN (s : ByteArray) (a : Nat) : Nat := byt s a + byt s (a + 1) * 256 + byt s (a + 2) * 65536 + byt s (a + 3) * 16777216
theorem leN_lt (s : ByteArray) (a : Nat) : leN s a < 4294967296 := by
  have h0 := byt_lt s a; have h1 := byt_lt s (a + 1); have h2 := byt_lt s (a + 2); have h3 := byt_lt s (a + 3)
  unfold leN; omega
theorem le_bits (a b c d : Nat) (ha : a < 256) (hb : b < 256) (hc : c < 256) (hd : d < 256) :
    bits .or .u32 (bits .or .u32 (bits .or .u32 ((a : Int) % 4294967296) ((b : Int) % 4294967296 * 256 % 4294967296)) ((c : Int) % 4294967296 * 65536 % 4294967296)) ((d : Int) % 4294967296 * 16777216 % 4294967296) = ((a + b * 256 + c * 65536 + d * 16777216 : Nat) : Int) := by
  rw [show (a : Int) % 4294967296 = (a : Int) by omega, show (b : Int) % 4294967296 * 256 % 4294967296 = ((b * 256 : Nat) : Int) by omega, show (c : Int) % 4294967296 * 65536 % 4294967296 = ((c * 65536 : Nat) : Int) by omega, show (d : Int) % 4294967296 * 16777216 % 4294967296 = ((d * 16777216 : Nat) : Int) by omega]
  rw [u32_or_nat _ _ (by omega) (by omega), Nat.or_comm, nat_join 8 (b * 256) a (by omega) (by omega)]
  rw [u32_or_nat _ _ (by omega) (by omega), Nat.or_comm, nat_join 16 (c * 65536) (b * 256 + a) (by omega) (by omega)]
  rw [u32_or_nat _ _ (by omega) (by omega), Nat.or_comm, nat_join 24 (d * 16777216) (c * 65536 + (b * 256 + a)) (by omega) (by omega)]
  omega
end Go.Proofs.Cha
