/-
  SHA-256 and SHA-384 as plain functions on natural numbers, of no program; what the words' operations come to.
-/
import Derived.WalkKit
import Derived.WalkSpells
import Derived.PlainAid
import Derived.Lib.Hide
import Derived.Laws.BitsAllLaws
namespace Go.Proofs.Sha
open Go.RowKit

def ror (k x : Nat) : Nat := (x / 2 ^ k) ||| (x * 2 ^ (32 - k) % 4294967296)
def ls0 (x : Nat) : Nat := ror 7 x ^^^ ror 18 x ^^^ x / 8
def ls1 (x : Nat) : Nat := ror 17 x ^^^ ror 19 x ^^^ x / 1024
def us0 (x : Nat) : Nat := ror 2 x ^^^ ror 13 x ^^^ ror 22 x
def us1 (x : Nat) : Nat := ror 6 x ^^^ ror 11 x ^^^ ror 25 x
def ch (e f g : Nat) : Nat := (e &&& f) ^^^ ((4294967295 - e) &&& g)
def maj (a b c : Nat) : Nat := (a &&& b) ^^^ (a &&& c) ^^^ (b &&& c)

theorem lt32_2 (x : Nat) (h : x < 4294967296) : x < 2 ^ 32 := h
theorem xor32_lt {a b : Nat} (ha : a < 4294967296) (hb : b < 4294967296) : a ^^^ b < 4294967296 := Nat.xor_lt_two_pow (n := 32) ha hb
theorem and32_lt {a b : Nat} (hb : b < 4294967296) : a &&& b < 4294967296 := Nat.lt_of_le_of_lt Nat.and_le_right hb
theorem or32_lt {a b : Nat} (ha : a < 4294967296) (hb : b < 4294967296) : a ||| b < 4294967296 := Nat.or_lt_two_pow (n := 32) ha hb
theorem ror_lt (k x : Nat) (hx : x < 4294967296) : ror k x < 4294967296 :=
  or32_lt (Nat.lt_of_le_of_lt (Nat.div_le_self _ _) hx) (Nat.mod_lt _ (by decide))
theorem ls0_lt (x : Nat) (hx : x < 4294967296) : ls0 x < 4294967296 := xor32_lt (xor32_lt (ror_lt _ _ hx) (ror_lt _ _ hx)) (by omega)
theorem ls1_lt (x : Nat) (hx : x < 4294967296) : ls1 x < 4294967296 := xor32_lt (xor32_lt (ror_lt _ _ hx) (ror_lt _ _ hx)) (by omega)
theorem us0_lt (x : Nat) (hx : x < 4294967296) : us0 x < 4294967296 := xor32_lt (xor32_lt (ror_lt _ _ hx) (ror_lt _ _ hx)) (ror_lt _ _ hx)
theorem us1_lt (x : Nat) (hx : x < 4294967296) : us1 x < 4294967296 := xor32_lt (xor32_lt (ror_lt _ _ hx) (ror_lt _ _ hx)) (ror_lt _ _ hx)
theorem ch_lt (e f g : Nat) (hf : f < 4294967296) (hg : g < 4294967296) : ch e f g < 4294967296 := xor32_lt (and32_lt hf) (and32_lt hg)
theorem maj_lt (a b c : Nat) (hb : b < 4294967296) (hc : c < 4294967296) : maj a b c < 4294967296 := xor32_lt (xor32_lt (and32_lt hb) (and32_lt hc)) (and32_lt hc)

/-- The byte at a place (0 behind the end). -/
def byt (s : ByteArray) (k : Nat) : Nat := (s.data.toList.getD k 0).toNat
theorem byt_lt (s : ByteArray) (k : Nat) : byt s k < 256 := (s.data.toList.getD k 0).toNat_lt
theorem get_byt (s : ByteArray) (n : Nat) (h : n < s.size) : (s[n]'h).toNat = byt s n := by
  unfold byt
  have h' : n < s.data.toList.length := by simpa using h
  rw [List.getD_eq_getElem?_getD, List.getElem?_eq_getElem h']
  rfl
/-- Word t of a block. -/
def word (s : ByteArray) (t : Nat) : Nat := ((byt s (4 * t) * 256 + byt s (4 * t + 1)) * 256 + byt s (4 * t + 2)) * 256 + byt s (4 * t + 3)
theorem word_lt (s : ByteArray) (t : Nat) : word s t < 4294967296 := by
  have := byt_lt s (4 * t); have := byt_lt s (4 * t + 1); have := byt_lt s (4 * t + 2); have := byt_lt s (4 * t + 3)
  unfold word; omega
theorem or32_add (i a b : Nat) (ha : a < 4294967296) (hi : a % 2 ^ i = 0) (hb : b < 2 ^ i) (hb' : b < 4294967296) : bits .or .u32 (a : Int) (b : Int) = ((a + b : Nat) : Int) := by
  rw [u32_or_nat a b ha hb', nat_join i a b hi hb]
theorem w32_0 (a : Nat) (ha : a < 256) : (a : Int) % 4294967296 = ((a : Nat) : Int) := by omega
theorem word_or (a b c d : Nat) (ha : a < 256) (hb : b < 256) (hc : c < 256) (hd : d < 256) :
    bits .or .u32 (bits .or .u32 (bits .or .u32 ((a : Int) % 4294967296 * 16777216 % 4294967296) ((b : Int) % 4294967296 * 65536 % 4294967296)) ((c : Int) % 4294967296 * 256 % 4294967296)) ((d : Int) % 4294967296) = ((((a * 256 + b) * 256 + c) * 256 + d : Nat) : Int) := by
  rw [show (a : Int) % 4294967296 * 16777216 % 4294967296 = ((a * 16777216 : Nat) : Int) by omega, show (b : Int) % 4294967296 * 65536 % 4294967296 = ((b * 65536 : Nat) : Int) by omega, show (c : Int) % 4294967296 * 256 % 4294967296 = ((c * 256 : Nat) : Int) by omega, show (d : Int) % 4294967296 = ((d : Nat) : Int) by omega]
  rw [or32_add 24 _ _ (by omega) (by omega) (by omega) (by omega), or32_add 16 _ _ (by omega) (by omega) (by omega) (by omega), or32_add 8 _ _ (by omega) (by omega) (by omega) (by omega)]
  omega
/-- The schedule: sixteen words of the block, then n more. -/
def schL (s : ByteArray) : Nat → List Nat
  | 0 => (List.range 16).map (word s)
  | n + 1 => schL s n ++ [((schL s n).getD n 0 + ls0 ((schL s n).getD (n + 1) 0) + (schL s n).getD (n + 9) 0 + ls1 ((schL s n).getD (n + 14) 0)) % 4294967296]
theorem schL_length (s : ByteArray) (n : Nat) : (schL s n).length = 16 + n := by
  induction n with
  | zero => simp [schL]
  | succ n ih => simp [schL, ih]; omega
theorem schL_more (s : ByteArray) (n m : Nat) : ∃ r, schL s (n + m) = schL s n ++ r := by
  induction m with
  | zero => exact ⟨[], by simp⟩
  | succ m ih => obtain ⟨r, hr⟩ := ih; exact ⟨r ++ [_], by rw [← Nat.add_assoc]; simp only [schL]; rw [hr, List.append_assoc]⟩
theorem schL_get (s : ByteArray) (n N t : Nat) (h : n ≤ N) (ht : t < 16 + n) : (schL s N).getD t 0 = (schL s n).getD t 0 := by
  obtain ⟨m, rfl⟩ := Nat.exists_eq_add_of_le h
  obtain ⟨r, hr⟩ := schL_more s n m
  rw [hr, List.getD_eq_getElem?_getD, List.getD_eq_getElem?_getD, List.getElem?_append_left (by rw [schL_length]; exact ht)]
def sch (s : ByteArray) (t : Nat) : Nat := (schL s 48).getD t 0
theorem sch_word (s : ByteArray) (t : Nat) (h : t < 16) : sch s t = word s t := by
  unfold sch
  rw [schL_get s 0 48 t (by omega) (by omega)]
  simp [schL, List.getD_eq_getElem?_getD, h]
theorem sch_next (s : ByteArray) (t : Nat) (h16 : 16 ≤ t) (h : t < 64) : sch s t = (sch s (t - 16) + ls0 (sch s (t - 15)) + sch s (t - 7) + ls1 (sch s (t - 2))) % 4294967296 := by
  obtain ⟨n, rfl⟩ := Nat.exists_eq_add_of_le h16
  unfold sch
  rw [schL_get s (n + 1) 48 (16 + n) (by omega) (by omega), schL_get s n 48 (16 + n - 16) (by omega) (by omega), schL_get s n 48 (16 + n - 15) (by omega) (by omega), schL_get s n 48 (16 + n - 7) (by omega) (by omega), schL_get s n 48 (16 + n - 2) (by omega) (by omega)]
  rw [show 16 + n - 16 = n by omega, show 16 + n - 15 = n + 1 by omega, show 16 + n - 7 = n + 9 by omega, show 16 + n - 2 = n + 14 by omega]
  simp only [schL]
  rw [List.getD_eq_getElem?_getD, List.getElem?_append_right (by rw [schL_length]; exact Nat.le_refl _), schL_length, Nat.sub_self]
  rfl
theorem sch_lt (s : ByteArray) (t : Nat) (h : t < 64) : sch s t < 4294967296 := by
  by_cases h16 : t < 16
  · rw [sch_word s t h16]; exact word_lt s t
  · rw [sch_next s t (by omega) h]; exact Nat.mod_lt _ (by decide)
theorem ls0_bits (x : Nat) (hx : x < 4294967296) : bits .xor .u32 (bits .xor .u32 (ror 7 x : Nat) (ror 18 x : Nat)) ((x : Int) / 8) = (ls0 x : Nat) := by
  rw [u32_xor_nat _ _ (ror_lt _ _ hx) (ror_lt _ _ hx), show (x : Int) / 8 = ((x / 8 : Nat) : Int) by omega, u32_xor_nat _ _ (xor32_lt (ror_lt _ _ hx) (ror_lt _ _ hx)) (by omega)]; rfl
theorem ls1_bits (x : Nat) (hx : x < 4294967296) : bits .xor .u32 (bits .xor .u32 (ror 17 x : Nat) (ror 19 x : Nat)) ((x : Int) / 1024) = (ls1 x : Nat) := by
  rw [u32_xor_nat _ _ (ror_lt _ _ hx) (ror_lt _ _ hx), show (x : Int) / 1024 = ((x / 1024 : Nat) : Int) by omega, u32_xor_nat _ _ (xor32_lt (ror_lt _ _ hx) (ror_lt _ _ hx)) (by omega)]; rfl
theorem us0_bits (x : Nat) (hx : x < 4294967296) : bits .xor .u32 (bits .xor .u32 (ror 2 x : Nat) (ror 13 x : Nat)) (ror 22 x : Nat) = (us0 x : Nat) := by
  rw [u32_xor_nat _ _ (ror_lt _ _ hx) (ror_lt _ _ hx), u32_xor_nat _ _ (xor32_lt (ror_lt _ _ hx) (ror_lt _ _ hx)) (ror_lt _ _ hx)]; rfl
theorem us1_bits (x : Nat) (hx : x < 4294967296) : bits .xor .u32 (bits .xor .u32 (ror 6 x : Nat) (ror 11 x : Nat)) (ror 25 x : Nat) = (us1 x : Nat) := by
  rw [u32_xor_nat _ _ (ror_lt _ _ hx) (ror_lt _ _ hx), u32_xor_nat _ _ (xor32_lt (ror_lt _ _ hx) (ror_lt _ _ hx)) (ror_lt _ _ hx)]; rfl
theorem sum4 (a b c d : Nat) : ((((a : Int) + b) % 4294967296 + c) % 4294967296 + d) % 4294967296 = (((a + b + c + d) % 4294967296 : Nat) : Int) := by omega
theorem not32 (e : Nat) (he : e < 4294967296) : bits .xor .u32 IntKind.u32.max (e : Int) = ((4294967295 - e : Nat) : Int) := by
  have h1 : BitVec.ofInt 32 IntKind.u32.max = BitVec.allOnes 32 := by decide
  show IntKind.u32.wrap ((BitVec.ofInt 32 IntKind.u32.max ^^^ BitVec.ofInt 32 (e : Int)).toNat : Int) = _
  rw [h1, BitVec.allOnes_xor, BitVec.toNat_not, ofInt_u32 e he, IntKind.wrap_u32']
  omega
theorem ch_bits (e f g : Nat) (he : e < 4294967296) (hf : f < 4294967296) (hg : g < 4294967296) :
    bits .xor .u32 (bits .and .u32 (e : Int) (f : Int)) (bits .and .u32 (bits .xor .u32 IntKind.u32.max (e : Int)) (g : Int)) = (ch e f g : Nat) := by
  rw [not32 e he, u32_and_nat _ _ he hf, u32_and_nat _ _ (by omega) hg, u32_xor_nat _ _ (and32_lt hf) (and32_lt hg)]; rfl
theorem maj_bits (a b c : Nat) (ha : a < 4294967296) (hb : b < 4294967296) (hc : c < 4294967296) :
    bits .xor .u32 (bits .xor .u32 (bits .and .u32 (a : Int) (b : Int)) (bits .and .u32 (a : Int) (c : Int))) (bits .and .u32 (b : Int) (c : Int)) = (maj a b c : Nat) := by
  rw [u32_and_nat _ _ ha hb, u32_and_nat _ _ ha hc, u32_and_nat _ _ hb hc, u32_xor_nat _ _ (and32_lt hb) (and32_lt hc), u32_xor_nat _ _ (xor32_lt (and32_lt hb) (and32_lt hc)) (and32_lt hc)]; rfl
end Go.Proofs.Sha
