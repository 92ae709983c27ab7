/-
  SHA-256 and SHA-384 as plain functions on natural numbers, of no program; what the words' operations come to.
-/
import Derived.WalkKit
import Derived.WalkSpells
import Derived.PlainAid
import Derived.Lib.Hide
import Derived.Laws.BitsAllLaws
namespace Go.Proofs.Sha5
open Go.RowKit

def ror (k x : Nat) : Nat := (x / 2 ^ k) ||| (x * 2 ^ (64 - k) % 18446744073709551616)
def ls0 (x : Nat) : Nat := ror 1 x ^^^ ror 8 x ^^^ x / 128
def ls1 (x : Nat) : Nat := ror 19 x ^^^ ror 61 x ^^^ x / 64
def us0 (x : Nat) : Nat := ror 28 x ^^^ ror 34 x ^^^ ror 39 x
def us1 (x : Nat) : Nat := ror 14 x ^^^ ror 18 x ^^^ ror 41 x
def ch (e f g : Nat) : Nat := (e &&& f) ^^^ ((18446744073709551615 - e) &&& g)
def maj (a b c : Nat) : Nat := (a &&& b) ^^^ (a &&& c) ^^^ (b &&& c)

theorem lt32_2 (x : Nat) (h : x < 18446744073709551616) : x < 2 ^ 64 := h
theorem xor32_lt {a b : Nat} (ha : a < 18446744073709551616) (hb : b < 18446744073709551616) : a ^^^ b < 18446744073709551616 := Nat.xor_lt_two_pow (n := 64) ha hb
theorem and32_lt {a b : Nat} (hb : b < 18446744073709551616) : a &&& b < 18446744073709551616 := Nat.lt_of_le_of_lt Nat.and_le_right hb
theorem or32_lt {a b : Nat} (ha : a < 18446744073709551616) (hb : b < 18446744073709551616) : a ||| b < 18446744073709551616 := Nat.or_lt_two_pow (n := 64) ha hb
theorem ror_lt (k x : Nat) (hx : x < 18446744073709551616) : ror k x < 18446744073709551616 :=
  or32_lt (Nat.lt_of_le_of_lt (Nat.div_le_self _ _) hx) (Nat.mod_lt _ (by decide))
theorem ls0_lt (x : Nat) (hx : x < 18446744073709551616) : ls0 x < 18446744073709551616 := xor32_lt (xor32_lt (ror_lt _ _ hx) (ror_lt _ _ hx)) (by omega)
theorem ls1_lt (x : Nat) (hx : x < 18446744073709551616) : ls1 x < 18446744073709551616 := xor32_lt (xor32_lt (ror_lt _ _ hx) (ror_lt _ _ hx)) (by omega)
theorem us0_lt (x : Nat) (hx : x < 18446744073709551616) : us0 x < 18446744073709551616 := xor32_lt (xor32_lt (ror_lt _ _ hx) (ror_lt _ _ hx)) (ror_lt _ _ hx)
theorem us1_lt (x : Nat) (hx : x < 18446744073709551616) : us1 x < 18446744073709551616 := xor32_lt (xor32_lt (ror_lt _ _ hx) (ror_lt _ _ hx)) (ror_lt _ _ hx)
theorem ch_lt (e f g : Nat) (hf : f < 18446744073709551616) (hg : g < 18446744073709551616) : ch e f g < 18446744073709551616 := xor32_lt (and32_lt hf) (and32_lt hg)
theorem maj_lt (a b c : Nat) (hb : b < 18446744073709551616) (hc : c < 18446744073709551616) : maj a b c < 18446744073709551616 := xor32_lt (xor32_lt (and32_lt hb) (and32_lt hc)) (and32_lt hc)

/-- The byte at a place (0 behind the end). -/
def byt (s : ByteArray) (k : Nat) : Nat := (s.data.toList.getD k 0).toNat
theorem byt_lt (s : ByteArray) (k : Nat) : byt s k < 256 := (s.data.toList.getD k 0).toNat_lt
theorem get_byt (s : ByteArray) (n : Nat) (h : n < s.size) : (s[n]'h).toNat = byt s n := by
  unfold byt
  have h' : n < s.data.toList.length := by simpa using h
  rw [List.getD_eq_getElem?_getD, List.getElem?_eq_getElem h']
  rfl
/-- The number that the first k bytes of word t say; word t of a block. -/
def wpart (s : ByteArray) (t : Nat) : Nat → Nat
  | 0 => 0
  | k + 1 => wpart s t k * 256 + byt s (8 * t + k)
def word (s : ByteArray) (t : Nat) : Nat := wpart s t 8
theorem wpart_lt (s : ByteArray) (t k : Nat) : wpart s t k < 256 ^ k := by
  induction k with
  | zero => simp [wpart]
  | succ k ih => have := byt_lt s (8 * t + k); simp only [wpart, Nat.pow_succ]; omega
theorem word_lt (s : ByteArray) (t : Nat) : word s t < 18446744073709551616 := wpart_lt s t 8
theorem or32_add (i a b : Nat) (ha : a < 18446744073709551616) (hi : a % 2 ^ i = 0) (hb : b < 2 ^ i) (hb' : b < 18446744073709551616) : bits .or .u64 (a : Int) (b : Int) = ((a + b : Nat) : Int) := by
  rw [u64_or_nat a b ha hb', nat_join i a b hi hb]
theorem step_or (x b : Nat) (hx : x < 72057594037927936) (hb : b < 256) : bits .or .u64 ((x * 256 : Nat) : Int) (b : Int) = ((x * 256 + b : Nat) : Int) :=
  or32_add 8 _ _ (by omega) (by omega) (by omega) (by omega)
/-- The schedule: sixteen words of the block, then n more. -/
def schL (s : ByteArray) : Nat → List Nat
  | 0 => (List.range 16).map (word s)
  | n + 1 => schL s n ++ [((schL s n).getD n 0 + ls0 ((schL s n).getD (n + 1) 0) + (schL s n).getD (n + 9) 0 + ls1 ((schL s n).getD (n + 14) 0)) % 18446744073709551616]
theorem schL_length (s : ByteArray) (n : Nat) : (schL s n).length = 16 + n := by
  induction n with
  | zero => simp [schL]
  | succ n ih => simp [schL, ih]; omega
theorem schL_more (s : ByteArray) (n m : Nat) : ∃ r, schL s (n + m) = schL s n ++ r := by
  induction m with
  | zero => exact ⟨[], by simp⟩
  | succ m ih => obtain ⟨r, hr⟩ := ih; exact ⟨r ++ [_], by rw [← Nat.add_assoc]; simp only [schL]; rw [hr, List.append_assoc]⟩
theorem schL_get (s : ByteArray) (n N t : Nat) (h : n ≤ N) (ht : t < 16 + n) : (schL s N).getD t 0 = (schL s n).getD t 0 := by
  obtain ⟨m, rfl⟩ := Nat.exists_eq_add_of_le h
  obtain ⟨r, hr⟩ := schL_more s n m
  rw [hr, List.getD_eq_getElem?_getD, List.getD_eq_getElem?_getD, List.getElem?_append_left (by rw [schL_length]; exact ht)]
def sch (s : ByteArray) (t : Nat) : Nat := (schL s 64).getD t 0
theorem sch_word (s : ByteArray) (t : Nat) (h : t < 16) : sch s t = word s t := by
  unfold sch
  rw [schL_get s 0 64 t (by omega) (by omega)]
  simp [schL, List.getD_eq_getElem?_getD, h]
theorem sch_next (s : ByteArray) (t : Nat) (h16 : 16 ≤ t) (h : t < 80) : sch s t = (sch s (t - 16) + ls0 (sch s (t - 15)) + sch s (t - 7) + ls1 (sch s (t - 2))) % 18446744073709551616 := by
  obtain ⟨n, rfl⟩ := Nat.exists_eq_add_of_le h16
  unfold sch
  rw [schL_get s (n + 1) 64 (16 + n) (by omega) (by omega), schL_get s n 64 (16 + n - 16) (by omega) (by omega), schL_get s n 64 (16 + n - 15) (by omega) (by omega), schL_get s n 64 (16 + n - 7) (by omega) (by omega), schL_get s n 64 (16 + n - 2) (by omega) (by omega)]
  rw [show 16 + n - 16 = n by omega, show 16 + n - 15 = n + 1 by omega, show 16 + n - 7 = n + 9 by omega, show 16 + n - 2 = n + 14 by omega]
  simp only [schL]
  rw [List.getD_eq_getElem?_getD, List.getElem?_append_right (by rw [schL_length]; exact Nat.le_refl _), schL_length, Nat.sub_self]
  rfl
theorem sch_lt (s : ByteArray) (t : Nat) (h : t < 80) : sch s t < 18446744073709551616 := by
  by_cases h16 : t < 16
  · rw [sch_word s t h16]; exact word_lt s t
  · rw [sch_next s t (by omega) h]; exact Nat.mod_lt _ (by decide)
theorem ls0_bits (x : Nat) (hx : x < 18446744073709551616) : bits .xor .u64 (bits .xor .u64 (ror 1 x : Nat) (ror 8 x : Nat)) ((x : Int) / 128) = (ls0 x : Nat) := by
  rw [u64_xor_nat _ _ (ror_lt _ _ hx) (ror_lt _ _ hx), show (x : Int) / 128 = ((x / 128 : Nat) : Int) by omega, u64_xor_nat _ _ (xor32_lt (ror_lt _ _ hx) (ror_lt _ _ hx)) (by omega)]; rfl
theorem ls1_bits (x : Nat) (hx : x < 18446744073709551616) : bits .xor .u64 (bits .xor .u64 (ror 19 x : Nat) (ror 61 x : Nat)) ((x : Int) / 64) = (ls1 x : Nat) := by
  rw [u64_xor_nat _ _ (ror_lt _ _ hx) (ror_lt _ _ hx), show (x : Int) / 64 = ((x / 64 : Nat) : Int) by omega, u64_xor_nat _ _ (xor32_lt (ror_lt _ _ hx) (ror_lt _ _ hx)) (by omega)]; rfl
theorem us0_bits (x : Nat) (hx : x < 18446744073709551616) : bits .xor .u64 (bits .xor .u64 (ror 28 x : Nat) (ror 34 x : Nat)) (ror 39 x : Nat) = (us0 x : Nat) := by
  rw [u64_xor_nat _ _ (ror_lt _ _ hx) (ror_lt _ _ hx), u64_xor_nat _ _ (xor32_lt (ror_lt _ _ hx) (ror_lt _ _ hx)) (ror_lt _ _ hx)]; rfl
theorem us1_bits (x : Nat) (hx : x < 18446744073709551616) : bits .xor .u64 (bits .xor .u64 (ror 14 x : Nat) (ror 18 x : Nat)) (ror 41 x : Nat) = (us1 x : Nat) := by
  rw [u64_xor_nat _ _ (ror_lt _ _ hx) (ror_lt _ _ hx), u64_xor_nat _ _ (xor32_lt (ror_lt _ _ hx) (ror_lt _ _ hx)) (ror_lt _ _ hx)]; rfl
theorem sum4 (a b c d : Nat) : ((((a : Int) + b) % 18446744073709551616 + c) % 18446744073709551616 + d) % 18446744073709551616 = (((a + b + c + d) % 18446744073709551616 : Nat) : Int) := by omega
theorem not32 (e : Nat) (he : e < 18446744073709551616) : bits .xor .u64 IntKind.u64.max (e : Int) = ((18446744073709551615 - e : Nat) : Int) := by
  have h1 : BitVec.ofInt 64 IntKind.u64.max = BitVec.allOnes 64 := by decide
  show IntKind.u64.wrap ((BitVec.ofInt 64 IntKind.u64.max ^^^ BitVec.ofInt 64 (e : Int)).toNat : Int) = _
  rw [h1, BitVec.allOnes_xor, BitVec.toNat_not, ofInt_u64 e he, IntKind.wrap_u64]
  omega
theorem ch_bits (e f g : Nat) (he : e < 18446744073709551616) (hf : f < 18446744073709551616) (hg : g < 18446744073709551616) :
    bits .xor .u64 (bits .and .u64 (e : Int) (f : Int)) (bits .and .u64 (bits .xor .u64 IntKind.u64.max (e : Int)) (g : Int)) = (ch e f g : Nat) := by
  rw [not32 e he, u64_and_nat _ _ he hf, u64_and_nat _ _ (by omega) hg, u64_xor_nat _ _ (and32_lt hf) (and32_lt hg)]; rfl
theorem maj_bits (a b c : Nat) (ha : a < 18446744073709551616) (hb : b < 18446744073709551616) (hc : c < 18446744073709551616) :
    bits .xor .u64 (bits .xor .u64 (bits .and .u64 (a : Int) (b : Int)) (bits .and .u64 (a : Int) (c : Int))) (bits .and .u64 (b : Int) (c : Int)) = (maj a b c : Nat) := by
  rw [u64_and_nat _ _ ha hb, u64_and_nat _ _ ha hc, u64_and_nat _ _ hb hc, u64_xor_nat _ _ (and32_lt hb) (and32_lt hc), u64_xor_nat _ _ (xor32_lt (and32_lt hb) (and32_lt hc)) (and32_lt hc)]; rfl
end Go.Proofs.Sha5
