/-
  The document's own answer for layer 9: which texts are numbers.
-/
import Derived.Test.YtpniinolkflfjaaJoan
import Derived.Test.YtpniinolkflfjaaJoas
import Derived.Test.YtpniinolkflfjaaJoae
import Derived.Test.YtpniinolkflfjaaJoai
import Derived.Test.YtpniinolkflfjaaJoad
namespace Go.Proofs.Nu
open Go.RowKit
open Go.Proofs.Im (wpList_box_to words_heap words_one run_index_row)
open Go.Proofs.Sha (wordCells wordCells_get wordCells_size rowIs_of wpList_alloc_to wpList_build_to)
open Go.Proofs.Nt
open Go.Proofs.He
/-- Is it a number of a modulus? -/
def numOk (z : Int) (s : ByteArray) : Bool := (decide (0 ≤ z) && decide (z ≤ 2)) && (decide (s.size = 32) && decide (bn s < md z))
theorem numOk_iff (z : Int) (s : ByteArray) : numOk z s = true ↔ (0 ≤ z ∧ z ≤ 2) ∧ s.size = 32 ∧ bn s < md z := by unfold numOk; simp
/-- What Number answers as a number. -/
def numX (z : Int) (s : ByteArray) : Nat := if (0 ≤ z ∧ z ≤ 2) ∧ s.size = 32 then bn s else 0
theorem bn_lt (s : ByteArray) : bn s < B8 := by
  have h := bg_lt s 0 32
  rw [show (256 : Nat) ^ 32 = B8 by decide] at h
  exact h
/-- A number that is held, and what was there. -/
structure Nh (w w' : World) (g x : Nat) : Prop where
  row : Nm w' g x
  below : Below w.heap.size w w'
theorem Nh.on {w u v : World} {g x : Nat} (h : Nh w u g x) (hb : Below u.heap.size u v) : Nh w v g x := ⟨h.row.on hb, Lw.go_on h.below hb⟩
end Go.Proofs.Nu
/-
  Montgomery's product by words of 32 bits: one round's words and what they are worth. Of no program.
-/
namespace Go.Proofs.Nt
/-- A row of words and a multiple of another one: carries and words. -/
def fc (t a : Nat → Nat) (b : Nat) : Nat → Nat
  | 0 => 0
  | j + 1 => (t j + a j * b + fc t a b j) / 4294967296
def fw (t a : Nat → Nat) (b j : Nat) : Nat := (t j + a j * b + fc t a b j) % 4294967296
theorem mul_word {x y : Nat} (hx : x < 4294967296) (hy : y < 4294967296) : x * y ≤ 18446744065119617025 := Nat.mul_le_mul (show x ≤ 4294967295 by omega) (show y ≤ 4294967295 by omega)
theorem fc_lt {t a : Nat → Nat} {b : Nat} (ht : ∀ i, t i < 4294967296) (ha : ∀ i, a i < 4294967296) (hb : b < 4294967296) (j : Nat) : fc t a b j < 4294967296 := by
  induction j with
  | zero => exact (by decide : 0 < 4294967296)
  | succ j ih =>
    have h1 := ht j
    have h2 := mul_word (ha j) hb
    show (t j + a j * b + fc t a b j) / 4294967296 < 4294967296
    generalize a j * b = p at *
    generalize fc t a b j = c at *
    omega
theorem fw_val (t a : Nat → Nat) (b n : Nat) : nv (fw t a b) n + fc t a b n * 2 ^ (32 * n) = nv t n + nv a n * b := by
  induction n with
  | zero => simp only [nv, fc, Nat.zero_mul, Nat.add_zero]
  | succ n ih =>
    have h := word_val (t n + a n * b + fc t a b n) n
    have h2 : (t n + a n * b + fc t a b n) * 2 ^ (32 * n) = t n * 2 ^ (32 * n) + a n * b * 2 ^ (32 * n) + fc t a b n * 2 ^ (32 * n) := by rw [Nat.add_mul, Nat.add_mul]
    have h3 : a n * b * 2 ^ (32 * n) = a n * 2 ^ (32 * n) * b := Nat.mul_right_comm _ _ _
    show nv (fw t a b) n + (t n + a n * b + fc t a b n) % 4294967296 * 2 ^ (32 * n) + (t n + a n * b + fc t a b n) / 4294967296 * 2 ^ (32 * (n + 1)) = nv t n + t n * 2 ^ (32 * n) + (nv a n + a n * 2 ^ (32 * n)) * b
    rw [Nat.add_mul (nv a n), ← h3]
    generalize (t n + a n * b + fc t a b n) % 4294967296 * 2 ^ (32 * n) = A at *
    generalize (t n + a n * b + fc t a b n) / 4294967296 * 2 ^ (32 * (n + 1)) = A2 at *
    generalize (t n + a n * b + fc t a b n) * 2 ^ (32 * n) = A3 at *
    generalize t n * 2 ^ (32 * n) = A4 at *
    generalize a n * b * 2 ^ (32 * n) = A5 at *
    generalize fc t a b n * 2 ^ (32 * n) = A6 at *
    generalize nv a n * b = A7 at *
    omega
/-- The words behind the first half of a round. -/
def r1 (n : Nat) (t a : Nat → Nat) (b j : Nat) : Nat := if j < n then fw t a b j else if j = n then (t n + fc t a b n) % 4294967296 else (t n + fc t a b n) / 4294967296
/-- The words behind the second half. -/
def r2 (n : Nat) (u m : Nat → Nat) (q j : Nat) : Nat := if j < n then fw u m q (j + 1) else if j = n then (u (n + 1) + fc u m q (n + 1)) % 4294967296 else if j = n + 1 then u (n + 2) + (u (n + 1) + fc u m q (n + 1)) / 4294967296 else 0
theorem r1_val (n : Nat) (t a : Nat → Nat) (b : Nat) : nv (r1 n t a b) (n + 2) = nv t (n + 1) + nv a n * b := by
  have h := fw_val t a b n
  have e : nv (r1 n t a b) n = nv (fw t a b) n := nv_congr n fun i hi => if_pos hi
  have e1 : r1 n t a b n = (t n + fc t a b n) % 4294967296 := by unfold r1; rw [if_neg (Nat.lt_irrefl n), if_pos rfl]
  have e2 : r1 n t a b (n + 1) = (t n + fc t a b n) / 4294967296 := by unfold r1; rw [if_neg (by omega), if_neg (by omega)]
  have h2 := word_val (t n + fc t a b n) n
  have h3 : (t n + fc t a b n) * 2 ^ (32 * n) = t n * 2 ^ (32 * n) + fc t a b n * 2 ^ (32 * n) := Nat.add_mul _ _ _
  show nv (r1 n t a b) n + r1 n t a b n * 2 ^ (32 * n) + r1 n t a b (n + 1) * 2 ^ (32 * (n + 1)) = nv t n + t n * 2 ^ (32 * n) + nv a n * b
  rw [e, e1, e2]
  generalize (t n + fc t a b n) % 4294967296 * 2 ^ (32 * n) = A1 at *
  generalize (t n + fc t a b n) / 4294967296 * 2 ^ (32 * (n + 1)) = A2 at *
  generalize (t n + fc t a b n) * 2 ^ (32 * n) = A3 at *
  generalize t n * 2 ^ (32 * n) = A4 at *
  generalize fc t a b n * 2 ^ (32 * n) = A5 at *
  generalize nv a n * b = A6 at *
  omega
theorem nv_shift (d : Nat → Nat) (n : Nat) : nv d (n + 1) = d 0 + 4294967296 * nv (fun i => d (i + 1)) n := by
  induction n with
  | zero => show 0 + d 0 * 1 = d 0 + 4294967296 * 0; omega
  | succ n ih =>
    have e : nv d (n + 1 + 1) = nv d (n + 1) + d (n + 1) * 2 ^ (32 * (n + 1)) := rfl
    have e2 : nv (fun i => d (i + 1)) (n + 1) = nv (fun i => d (i + 1)) n + d (n + 1) * 2 ^ (32 * n) := rfl
    have e3 : d (n + 1) * 2 ^ (32 * (n + 1)) = 4294967296 * (d (n + 1) * 2 ^ (32 * n)) := by rw [pw, Nat.mul_comm (2 ^ (32 * n)), Nat.mul_left_comm]
    rw [e, ih, e2, e3]
    generalize d (n + 1) * 2 ^ (32 * n) = A
    generalize nv (fun i => d (i + 1)) n = A2
    omega
theorem r2_val {n : Nat} {u m : Nat → Nat} {q : Nat} (h0 : fw u m q 0 = 0) : 4294967296 * nv (r2 n u m q) (n + 2) = nv u (n + 3) + nv m (n + 1) * q := by
  have h := fw_val u m q (n + 1)
  rw [nv_shift (fw u m q) n, h0, Nat.zero_add] at h
  have e : nv (r2 n u m q) n = nv (fun i => fw u m q (i + 1)) n := nv_congr n fun i hi => if_pos hi
  have e1 : r2 n u m q n = (u (n + 1) + fc u m q (n + 1)) % 4294967296 := by unfold r2; rw [if_neg (Nat.lt_irrefl n), if_pos rfl]
  have e2 : r2 n u m q (n + 1) = u (n + 2) + (u (n + 1) + fc u m q (n + 1)) / 4294967296 := by unfold r2; rw [if_neg (by omega), if_neg (by omega), if_pos rfl]
  have h2 := word_val (u (n + 1) + fc u m q (n + 1)) n
  have e4 : nv (r2 n u m q) (n + 2) = nv (r2 n u m q) n + r2 n u m q n * 2 ^ (32 * n) + r2 n u m q (n + 1) * 2 ^ (32 * (n + 1)) := rfl
  have e3 : nv u (n + 3) = nv u (n + 1) + u (n + 1) * 2 ^ (32 * (n + 1)) + u (n + 2) * 2 ^ (32 * (n + 2)) := rfl
  rw [e4, e3, e, e1, e2, Nat.add_mul (u (n + 2))]
  have h5 : (u (n + 1) + fc u m q (n + 1)) * 2 ^ (32 * (n + 1)) = 4294967296 * ((u (n + 1) + fc u m q (n + 1)) * 2 ^ (32 * n)) := by rw [pw, Nat.mul_comm (2 ^ (32 * n)), Nat.mul_left_comm]
  have h6 : (u (n + 1) + fc u m q (n + 1)) * 2 ^ (32 * (n + 1)) = u (n + 1) * 2 ^ (32 * (n + 1)) + fc u m q (n + 1) * 2 ^ (32 * (n + 1)) := Nat.add_mul _ _ _
  have h7 : u (n + 2) * 2 ^ (32 * (n + 2)) = 4294967296 * (u (n + 2) * 2 ^ (32 * (n + 1))) := by rw [pw (n + 1), Nat.mul_comm (2 ^ (32 * (n + 1))), Nat.mul_left_comm]
  generalize nv (fun i => fw u m q (i + 1)) n = N at *
  generalize (u (n + 1) + fc u m q (n + 1)) % 4294967296 * 2 ^ (32 * n) = A1 at *
  generalize (u (n + 1) + fc u m q (n + 1)) / 4294967296 * 2 ^ (32 * (n + 1)) = A2 at *
  generalize (u (n + 1) + fc u m q (n + 1)) * 2 ^ (32 * n) = A3 at *
  generalize (u (n + 1) + fc u m q (n + 1)) * 2 ^ (32 * (n + 1)) = A4 at *
  generalize u (n + 2) * 2 ^ (32 * (n + 2)) = A5 at *
  generalize u (n + 2) * 2 ^ (32 * (n + 1)) = A6 at *
  generalize u (n + 1) * 2 ^ (32 * (n + 1)) = A7 at *
  generalize fc u m q (n + 1) * 2 ^ (32 * (n + 1)) = A8 at *
  generalize nv m (n + 1) * q = A9 at *
  omega
/-- What makes the lowest word go away. -/
theorem low_zero {u0 m0 k : Nat} (hk : (1 + k * m0) % 4294967296 = 0) : (u0 + m0 * (u0 * k % 4294967296)) % 4294967296 = 0 := by
  rw [Nat.add_mod, Nat.mul_mod_mod, ← Nat.add_mod, show u0 + m0 * (u0 * k) = u0 * (1 + k * m0) by rw [Nat.mul_add, Nat.mul_one, Nat.mul_left_comm, Nat.mul_comm m0 k], Nat.mul_mod, hk, Nat.mul_zero]
/-- One round: what the words are worth. -/
theorem round_val {n : Nat} {t x m : Nat → Nat} {b k : Nat} (hk : (1 + k * m 0) % 4294967296 = 0) (q : Nat) (hq : q = r1 (n + 1) t x b 0 * k % 4294967296) :
    4294967296 * nv (r2 n (r1 (n + 1) t x b) m q) (n + 2) = nv t (n + 2) + nv x (n + 1) * b + nv m (n + 1) * q := by
  have h0 : fw (r1 (n + 1) t x b) m q 0 = 0 := by
    show (r1 (n + 1) t x b 0 + m 0 * q + 0) % 4294967296 = 0
    rw [Nat.add_zero, hq]
    exact low_zero hk
  rw [r2_val h0, r1_val]
/-- The sum stays below twice the modulus. -/
theorem round_lt {T U x m b q : Nat} (hT : T < 2 * m) (hx : x < m) (hb : b < 4294967296) (hq : q < 4294967296) (h : 4294967296 * U = T + x * b + m * q) : U < 2 * m := by
  have h1 : x * b ≤ (m - 1) * 4294967295 := Nat.mul_le_mul (by omega) (by omega)
  have h2 : m * q ≤ m * 4294967295 := Nat.mul_le_mul_left m (by omega)
  omega
/-- Montgomery's product. -/
def mt (m x y : Nat) : Nat := x * y * ((2 ^ 256 % m) ^ (m - 2) % m) % m
theorem mt_lt {m : Nat} (h : 0 < m) (x y : Nat) : mt m x y < m := Nat.mod_lt _ h
theorem mt_of {m r Q x y : Nat} (hm : Prime m) (h2 : ¬ m ∣ 2 ^ 256) (hr : r < m) (h : r * 2 ^ 256 = x * y + m * Q ∨ r * 2 ^ 256 + m * Q = x * y) : r = mt m x y := by
  have hp := hm.pos
  have e1 : r * 2 ^ 256 % m = x * y % m := by
    rcases h with h | h
    · rw [h, Nat.add_mul_mod_self_left]
    · rw [← h, Nat.add_mul_mod_self_left]
  have hc : 0 < 2 ^ 256 % m := Nat.pos_of_ne_zero fun e => h2 (Nat.dvd_of_mod_eq_zero e)
  have hi := inv_pow hm hc (Nat.mod_lt _ hp)
  unfold mt
  generalize (2 ^ 256 % m) ^ (m - 2) % m = I at hi ⊢
  have e3 : x * y * I % m = r * 2 ^ 256 * I % m := by rw [← Nat.mod_mul_mod (x * y), ← e1, Nat.mod_mul_mod]
  have e4 : r * (2 ^ 256 % m * I) % m = r * 2 ^ 256 * I % m := by
    rw [Nat.mul_assoc, ← Nat.mul_mod_mod r (2 ^ 256 % m * I), Nat.mod_mul_mod, Nat.mul_mod_mod]
  rw [e3, ← e4, ← Nat.mul_mod_mod, hi, Nat.mul_one, Nat.mod_eq_of_lt hr]
end Go.Proofs.Nt
