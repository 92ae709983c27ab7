/-
  Numbers as texts of 32 bytes, the highest first. Of no program.
-/
import Derived.Test.YtbkfpaodicfmhaaNtC
import Derived.Test.YtbkfpaodicfmhaaLwA
namespace Go.Proofs.Nt
open Go.RowKit
open Go.Proofs.Aes (byt byt_lt get_byt)
/-- The value of k bytes from place o on. -/
def bg (s : ByteArray) (o : Nat) : Nat → Nat
  | 0 => 0
  | k + 1 => bg s o k * 256 + byt s (o + k)
def bn (s : ByteArray) : Nat := bg s 0 32
theorem bg_lt (s : ByteArray) (o : Nat) : ∀ k, bg s o k < 256 ^ k
  | 0 => Nat.one_pos
  | k + 1 => by
    have h1 := bg_lt s o k
    have h2 := byt_lt s (o + k)
    show bg s o k * 256 + byt s (o + k) < 256 ^ (k + 1)
    rw [Nat.pow_succ]; omega
/-- A number's text. -/
def tb (x i : Nat) : Nat := x / 256 ^ (31 - i) % 256
def t32 (x : Nat) : ByteArray := Lw.pieceS (tb x) 0 32
theorem tb_lt (x i : Nat) : tb x i < 256 := Nat.mod_lt _ (by decide)
theorem t32_size (x : Nat) : (t32 x).size = 32 := Lw.pieceS_size _ _ _
theorem t32_byt (x i : Nat) (h : i < 32) : byt (t32 x) i = tb x i := by
  unfold t32
  rw [Lw.byt_piece (tb x) 0 32 i h (tb_lt x), Nat.zero_add]
theorem t32_val (x : Nat) : ∀ k, k ≤ 32 → bg (t32 x) 0 k = x / 256 ^ (32 - k) % 256 ^ k
  | 0, _ => (Nat.mod_one _).symm
  | k + 1, h => by
    have ih := t32_val x k (by omega)
    show bg (t32 x) 0 k * 256 + byt (t32 x) (0 + k) = _
    rw [ih, Nat.zero_add, t32_byt x k (by omega)]
    unfold tb
    rw [show 31 - k = 32 - (k + 1) by omega, show 32 - k = 32 - (k + 1) + 1 by omega, Nat.pow_succ, ← Nat.div_div_eq_div_mul]
    generalize x / 256 ^ (32 - (k + 1)) = y
    rw [Nat.pow_succ, Nat.mul_comm (256 ^ k) 256, Nat.mod_mul]
    omega
theorem bn_t32 {x : Nat} (h : x < 2 ^ 256) : bn (t32 x) = x := by
  have e := t32_val x 32 (Nat.le_refl _)
  rw [Nat.sub_self, Nat.pow_zero, Nat.div_one] at e
  unfold bn
  rw [e]
  exact Nat.mod_eq_of_lt (by rw [show (256 : Nat) ^ 32 = 2 ^ 256 by decide]; exact h)
theorem bg_tb (s : ByteArray) (i : Nat) : ∀ k, i < k → bg s 0 k / 256 ^ (k - 1 - i) % 256 = byt s i
  | 0, h => absurd h (by omega)
  | k + 1, h => by
    have hb := byt_lt s k
    show (bg s 0 k * 256 + byt s (0 + k)) / 256 ^ (k + 1 - 1 - i) % 256 = _
    rw [Nat.zero_add]
    by_cases e : i = k
    · subst e
      rw [show i + 1 - 1 - i = 0 by omega, Nat.pow_zero, Nat.div_one]; omega
    · have ih := bg_tb s i k (by omega)
      rw [show k + 1 - 1 - i = (k - 1 - i) + 1 by omega, Nat.pow_succ, Nat.mul_comm (256 ^ (k - 1 - i)) 256, ← Nat.div_div_eq_div_mul, show (bg s 0 k * 256 + byt s k) / 256 = bg s 0 k by omega]
      exact ih
/-- Two texts of one length whose bytes are the same. -/
theorem text_same {a b : ByteArray} (hs : a.size = b.size) (h : ∀ t, t < a.size → byt a t = byt b t) : a = b := by
  apply ByteArray.ext
  apply Array.ext hs
  intro i h1 h2
  have e := h i h1
  rw [← get_byt a i h1, ← get_byt b i h2] at e
  exact UInt8.toNat_inj.1 e
theorem t32_bn {s : ByteArray} (h : s.size = 32) : t32 (bn s) = s :=
  text_same (by rw [t32_size, h]) fun i hi => by
    rw [t32_size] at hi
    rw [t32_byt _ i hi]
    exact bg_tb s i 32 hi
end Go.Proofs.Nt
