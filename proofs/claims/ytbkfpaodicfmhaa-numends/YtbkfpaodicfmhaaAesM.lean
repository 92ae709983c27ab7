/-
  AES as plain functions on natural numbers, of no program.
-/
import Derived.WalkKit
import Derived.WalkSpells
import Derived.PlainAid
import Derived.Lib.Hide
import Derived.Laws.BitsAllLaws
namespace Go.Proofs.Aes
open Go.RowKit
def boxL : List Nat := [99, 124, 119, 123, 242, 107, 111, 197, 48, 1, 103, 43, 254, 215, 171, 118, 202, 130, 201, 125, 250, 89, 71, 240, 173, 212, 162, 175, 156, 164, 114, 192, 183, 253, 147, 38, 54, 63, 247, 204, 52, 165, 229, 241, 113, 216, 49, 21, 4, 199, 35, 195, 24, 150, 5, 154, 7, 18, 128, 226, 235, 39, 178, 117, 9, 131, 44, 26, 27, 110, 90, 160, 82, 59, 214, 179, 41, 227, 47, 132, 83, 209, 0, 237, 32, 252, 177, 91, 106, 203, 190, 57, 74, 76, 88, 207, 208, 239, 170, 251, 67, 77, 51, 133, 69, 249, 2, 127, 80, 60, 159, 168, 81, 163, 64, 143, 146, 157, 56, 245, 188, 182, 218, 33, 16, 255, 243, 210, 205, 12, 19, 236, 95, 151, 68, 23, 196, 167, 126, 61, 100, 93, 25, 115, 96, 129, 79, 220, 34, 42, 144, 136, 70, 238, 184, 20, 222, 94, 11, 219, 224, 50, 58, 10, 73, 6, 36, 92, 194, 211, 172, 98, 145, 149, 228, 121, 231, 200, 55, 109, 141, 213, 78, 169, 108, 86, 244, 234, 101, 122, 174, 8, 186, 120, 37, 46, 28, 166, 180, 198, 232, 221, 116, 31, 75, 189, 139, 138, 112, 62, 181, 102, 72, 3, 246, 14, 97, 53, 87, 185, 134, 193, 29, 158, 225, 248, 152, 17, 105, 217, 142, 148, 155, 30, 135, 233, 206, 85, 40, 223, 140, 161, 137, 13, 191, 230, 66, 104, 65, 153, 45, 15, 176, 84, 187, 22]
def bx (x : Nat) : Nat := boxL.getD x 0
theorem lt256s {P : Nat → Bool} (h : (List.range 256).all P = true) (i : Nat) (hi : i < 256) : P i = true := List.all_eq_true.1 h i (List.mem_range.2 hi)
theorem bx_lt (x : Nat) (h : x < 256) : bx x < 256 := by
  have := lt256s (P := fun i => decide (bx i < 256)) (by decide +kernel) x h
  simpa using this
/-- A byte times 2. -/
def dbl (x : Nat) : Nat := if 127 < x then (x * 2 % 256) ^^^ 27 else x * 2
theorem xor8_lt {a b : Nat} (ha : a < 256) (hb : b < 256) : a ^^^ b < 256 := Nat.xor_lt_two_pow (n := 8) ha hb
theorem dbl_lt (x : Nat) (h : x < 256) : dbl x < 256 := by
  unfold dbl; split
  · exact xor8_lt (Nat.mod_lt _ (by decide)) (by decide)
  · omega
theorem u8_xor (x y : Nat) (hx : x < 256) (hy : y < 256) : bits .xor .u8 (x : Int) (y : Int) = ((x ^^^ y : Nat) : Int) := by
  have h : x ^^^ y < 2 ^ 8 := Nat.xor_lt_two_pow (by omega) (by omega)
  show IntKind.u8.wrap ((BitVec.ofInt 8 (x : Int) ^^^ BitVec.ofInt 8 (y : Int)).toNat : Int) = _
  rw [BitVec.toNat_xor, BitVec.toNat_ofInt, BitVec.toNat_ofInt, show ((x : Int) % ((2 ^ 8 : Nat) : Int)).toNat = x by omega, show ((y : Int) % ((2 ^ 8 : Nat) : Int)).toNat = y by omega]
  show ((x ^^^ y : Nat) : Int) % 256 = _
  omega
/-- The byte at a place (0 behind the end). -/
def byt (s : ByteArray) (k : Nat) : Nat := (s.data.toList.getD k 0).toNat
theorem byt_lt (s : ByteArray) (k : Nat) : byt s k < 256 := (s.data.toList.getD k 0).toNat_lt
theorem get_byt (s : ByteArray) (n : Nat) (h : n < s.size) : (s[n]'h).toNat = byt s n := by
  unfold byt
  have h' : n < s.data.toList.length := by simpa using h
  rw [List.getD_eq_getElem?_getD, List.getElem?_eq_getElem h']
  rfl
/-- One round's parts on sixteen bytes: substitute and shift, mix, add. -/
def subS (x : Nat → Nat) : Nat → Nat := fun i => bx (x ((i + 4 * (i % 4)) % 16))
def allC (y : Nat → Nat) (c : Nat) : Nat := y c ^^^ y (c + 1) ^^^ y (c + 2) ^^^ y (c + 3)
/-- The column of place i begins at 4 * (i / 4). -/
def mixS (y : Nat → Nat) : Nat → Nat := fun i => y i ^^^ allC y (4 * (i / 4)) ^^^ dbl (y i ^^^ y (4 * (i / 4) + (i % 4 + 1) % 4))
def addS (wk : Nat → Nat) (r : Nat) (y : Nat → Nat) : Nat → Nat := fun i => y i ^^^ wk (16 * r + i)
/-- The state behind r rounds of n. -/
def rndS (wk : Nat → Nat) (n : Nat) (x : Nat → Nat) : Nat → Nat → Nat
  | 0 => fun i => x i ^^^ wk i
  | r + 1 => addS wk (r + 1) (if r + 1 < n then mixS (subS (rndS wk n x r)) else subS (rndS wk n x r))
def ciphS (wk : Nat → Nat) (n : Nat) (s : ByteArray) : ByteArray := strOfNums ((List.range 16).map fun i => (rndS wk n (byt s) n i : Int))
theorem subS_lt {x : Nat → Nat} (h : ∀ i, x i < 256) (i : Nat) : subS x i < 256 := bx_lt _ (h _)
theorem mixS_lt {y : Nat → Nat} (h : ∀ i, y i < 256) (i : Nat) : mixS y i < 256 :=
  xor8_lt (xor8_lt (h _) (xor8_lt (xor8_lt (xor8_lt (h _) (h _)) (h _)) (h _))) (dbl_lt _ (xor8_lt (h _) (h _)))
theorem addS_lt {wk y : Nat → Nat} (hw : ∀ i, wk i < 256) (h : ∀ i, y i < 256) (r i : Nat) : addS wk r y i < 256 := xor8_lt (h _) (hw _)
theorem rndS_lt {wk x : Nat → Nat} (hw : ∀ i, wk i < 256) (hx : ∀ i, x i < 256) (n r i : Nat) : rndS wk n x r i < 256 := by
  induction r generalizing i with
  | zero => exact xor8_lt (hx _) (hw _)
  | succ r ih =>
    refine addS_lt hw (fun j => ?_) _ _
    split
    · exact mixS_lt (subS_lt ih) j
    · exact subS_lt ih j
theorem allC_lt {y : Nat → Nat} (h : ∀ i, y i < 256) (c : Nat) : allC y c < 256 := xor8_lt (xor8_lt (xor8_lt (h _) (h _)) (h _)) (h _)
end Go.Proofs.Aes
