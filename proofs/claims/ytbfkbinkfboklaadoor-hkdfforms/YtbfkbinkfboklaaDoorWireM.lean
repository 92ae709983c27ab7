/-
  Plain facts on numbers, bytes and texts, of no program: what package wire computes, in words of lists.
-/
import Derived.WalkKit
import Derived.WalkSpells
import Derived.PlainAid
import Derived.Laws.BitsAllLaws
import Derived.Laws.BytesArg
namespace Go.Proofs.Wire
open Go.RowKit

/-- The byte at a place (0 behind the end). -/
def byt (s : ByteArray) (k : Nat) : Nat := (s.data.toList.getD k 0).toNat
/-- The number that k bytes at the place a say, the highest first. -/
def numV (s : ByteArray) (a : Nat) : Nat → Nat
  | 0 => 0
  | k + 1 => numV s a k * 256 + byt s (a + k)
/-- Are there n bytes at the place a? -/
def holdsB (n : Nat) (a k : Int) : Bool := decide (0 ≤ a ∧ a ≤ n ∧ k ≤ n - a)

theorem byt_lt (s : ByteArray) (k : Nat) : byt s k < 256 := (s.data.toList.getD k 0).toNat_lt
theorem get_byt (s : ByteArray) (n : Nat) (h : n < s.size) : (s[n]'h).toNat = byt s n := by
  unfold byt
  have h' : n < s.data.toList.length := by simpa using h
  rw [List.getD_eq_getElem?_getD, List.getElem?_eq_getElem h']
  rfl
theorem numV_lt (s : ByteArray) (a k : Nat) : numV s a k < 256 ^ k := by
  induction k with
  | zero => simp [numV]
  | succ k ih => have := byt_lt s (a + k); simp only [numV, Nat.pow_succ]; omega

theorem w64 (n : Nat) (h : n < 9223372036854775808) : wrap64 (n : Int) = (n : Int) := by unfold wrap64; omega
theorem or64 (a b : Nat) (ha : a < 9223372036854775808) (hb : b < 9223372036854775808) : bits .or .i64 (a : Int) (b : Int) = ((a ||| b : Nat) : Int) := by
  have hx : a ||| b < 2 ^ 63 := Nat.or_lt_two_pow (by omega) (by omega)
  show IntKind.i64.wrap ((BitVec.ofInt 64 (a : Int) ||| BitVec.ofInt 64 (b : Int)).toNat : Int) = _
  rw [BitVec.toNat_or, ofInt_u64 a (by omega), ofInt_u64 b (by omega)]
  exact IntWalk.i64_in _ (by omega)
/-- A number of i low bits beside one whose low bits are nought. -/
theorem or64_add (i a b : Nat) (ha : a < 9223372036854775808) (hi : a % 2 ^ i = 0) (hb : b < 2 ^ i) (hb' : b < 9223372036854775808) : bits .or .i64 (a : Int) (b : Int) = ((a + b : Nat) : Int) := by
  rw [or64 a b ha hb', nat_join i a b hi hb]

theorem or_1 (d : Nat) (hd : d < 256) : bits .or .i64 0 (wrap64 (d : Int)) = (d : Int) := by
  rw [w64 d (by omega)]
  have := or64 0 d (by omega) (by omega)
  simpa using this
theorem or_2 (c d : Nat) (hc : c < 256) (hd : d < 256) :
    bits .or .i64 (bits .or .i64 0 (wrap64 (wrap64 (c : Int) * 256))) (wrap64 (d : Int)) = ((c * 256 + d : Nat) : Int) := by
  rw [w64 c (by omega), w64 d (by omega), show ((c : Int) * 256) = ((c * 256 : Nat) : Int) by omega, w64 _ (by omega)]
  have h0 := or64 0 (c * 256) (by omega) (by omega)
  rw [show ((0 : Nat) : Int) = 0 from rfl, Nat.zero_or] at h0
  rw [h0, or64_add 8 _ _ (by omega) (by omega) (by omega) (by omega)]
theorem or_3 (b c d : Nat) (hb : b < 256) (hc : c < 256) (hd : d < 256) :
    bits .or .i64 (bits .or .i64 (bits .or .i64 0 (wrap64 (wrap64 (b : Int) * 65536))) (wrap64 (wrap64 (c : Int) * 256))) (wrap64 (d : Int)) = (((b * 256 + c) * 256 + d : Nat) : Int) := by
  rw [w64 b (by omega), w64 c (by omega), w64 d (by omega), show ((b : Int) * 65536) = ((b * 65536 : Nat) : Int) by omega, w64 _ (by omega), show ((c : Int) * 256) = ((c * 256 : Nat) : Int) by omega, w64 _ (by omega)]
  have h0 := or64 0 (b * 65536) (by omega) (by omega)
  rw [show ((0 : Nat) : Int) = 0 from rfl, Nat.zero_or] at h0
  rw [h0, or64_add 16 _ _ (by omega) (by omega) (by omega) (by omega), or64_add 8 _ _ (by omega) (by omega) (by omega) (by omega)]
  omega
theorem or_4 (a b c d : Nat) (ha : a < 256) (hb : b < 256) (hc : c < 256) (hd : d < 256) :
    bits .or .i64 (bits .or .i64 (bits .or .i64 (bits .or .i64 0 (wrap64 (wrap64 (a : Int) * 16777216))) (wrap64 (wrap64 (b : Int) * 65536))) (wrap64 (wrap64 (c : Int) * 256))) (wrap64 (d : Int)) = ((((a * 256 + b) * 256 + c) * 256 + d : Nat) : Int) := by
  rw [w64 a (by omega), w64 b (by omega), w64 c (by omega), w64 d (by omega), show ((a : Int) * 16777216) = ((a * 16777216 : Nat) : Int) by omega, w64 _ (by omega), show ((b : Int) * 65536) = ((b * 65536 : Nat) : Int) by omega, w64 _ (by omega), show ((c : Int) * 256) = ((c * 256 : Nat) : Int) by omega, w64 _ (by omega)]
  have h0 := or64 0 (a * 16777216) (by omega) (by omega)
  rw [show ((0 : Nat) : Int) = 0 from rfl, Nat.zero_or] at h0
  rw [h0, or64_add 24 _ _ (by omega) (by omega) (by omega) (by omega), or64_add 16 _ _ (by omega) (by omega) (by omega) (by omega), or64_add 8 _ _ (by omega) (by omega) (by omega) (by omega)]
  omega

theorem ret3 {a b c : Value} {a' b' c' : Value} (h : a = a') (h2 : b = b') (h3 : c = c') : Ending.returned (.tuple #[a, b, c]) = .returned (.tuple #[a', b', c']) := by rw [h, h2, h3]
theorem int64 {a b : Int} (h : a = b) : Value.int .i64 a = .int .i64 b := by rw [h]
theorem numV1 (s : ByteArray) (n : Nat) : numV s n 1 = byt s n := by simp [numV]
theorem numV2 (s : ByteArray) (n : Nat) : numV s n 2 = byt s n * 256 + byt s (n + 1) := by simp [numV]
theorem numV3 (s : ByteArray) (n : Nat) : numV s n 3 = (byt s n * 256 + byt s (n + 1)) * 256 + byt s (n + 2) := by simp [numV]
theorem numV4 (s : ByteArray) (n : Nat) : numV s n 4 = ((byt s n * 256 + byt s (n + 1)) * 256 + byt s (n + 2)) * 256 + byt s (n + 3) := by simp [numV]
/-- A number's bytes, k of them, the highest first. -/
def beL (x : Nat) : Nat → List UInt8
  | 0 => []
  | k + 1 => beL (x / 256) k ++ [UInt8.ofNat (x % 256)]
def beS (x k : Nat) : ByteArray := ⟨(beL x k).toArray⟩
theorem beL_length (x k : Nat) : (beL x k).length = k := by
  induction k generalizing x with
  | zero => rfl
  | succ k ih => simp [beL, ih]
theorem beS_size (x k : Nat) : (beS x k).size = k := by simp [beS, ByteArray.size, beL_length]
theorem beS1 (x : Nat) : strOfNums [(x : Int) % 256] = beS x 1 := by
  simp only [strOfNums, beS, beL, List.map, List.nil_append]
  rw [show ((x : Int) % 256).toNat = x % 256 by omega]
theorem beS2 (x : Nat) : strOfNums [(x : Int) / 256 % 256, (x : Int) % 256] = beS x 2 := by
  simp only [strOfNums, beS, beL, List.map, List.nil_append, List.cons_append]
  rw [show ((x : Int) % 256).toNat = x % 256 by omega, show ((x : Int) / 256 % 256).toNat = x / 256 % 256 by omega]
theorem beS3 (x : Nat) : strOfNums [(x : Int) / 65536 % 256, (x : Int) / 256 % 256, (x : Int) % 256] = beS x 3 := by
  simp only [strOfNums, beS, beL, List.map, List.nil_append, List.cons_append]
  rw [show ((x : Int) % 256).toNat = x % 256 by omega, show ((x : Int) / 256 % 256).toNat = x / 256 % 256 by omega, show ((x : Int) / 65536 % 256).toNat = x / 256 / 256 % 256 by omega]
theorem beS4 (x : Nat) : strOfNums [(x : Int) / 16777216 % 256, (x : Int) / 65536 % 256, (x : Int) / 256 % 256, (x : Int) % 256] = beS x 4 := by
  simp only [strOfNums, beS, beL, List.map, List.nil_append, List.cons_append]
  rw [show ((x : Int) % 256).toNat = x % 256 by omega, show ((x : Int) / 256 % 256).toNat = x / 256 % 256 by omega, show ((x : Int) / 65536 % 256).toNat = x / 256 / 256 % 256 by omega, show ((x : Int) / 16777216 % 256).toNat = x / 256 / 256 / 256 % 256 by omega]
end Go.Proofs.Wire
