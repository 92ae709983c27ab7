/-
  The document's own answer: sixteen bytes as two words and back.
-/
import Derived.Test.YtljhenjbjondkaaJoai
import Derived.Test.YtljhenjbjondkaaJoaa
import Derived.Laws.MakeOwn
import Derived.OwnWalk
namespace Go.Proofs.Gcm
open Go.RowKit
open Go.Proofs.Aes (byt byt_lt get_byt)
open Go.Proofs.Sha (rowIs_of)
/-- The number that k bytes at the place a say, the highest first. -/
def nv (s : ByteArray) (a : Nat) : Nat → Nat
  | 0 => 0
  | k + 1 => nv s a k * 256 + byt s (a + k)
theorem nv_lt (s : ByteArray) (a k : Nat) : nv s a k < 256 ^ k := by
  induction k with
  | zero => simp [nv]
  | succ k ih => have := byt_lt s (a + k); simp only [nv, Nat.pow_succ]; omega
theorem nv8 (s : ByteArray) (a k : Nat) (hk : k < 8) : nv s a k < 72057594037927936 := by
  have h := nv_lt s a k
  have h2 : 256 ^ k ≤ 256 ^ 7 := Nat.pow_le_pow_right (by decide) (by omega)
  have h3 : 256 ^ 7 = 72057594037927936 := by decide
  omega
theorem or_byte (x y : Nat) (hx : x < 72057594037927936) (hy : y < 256) : bits .or .u64 ((x : Int) * 256) (IntKind.u64.wrap (y : Int)) = ((x * 256 + y : Nat) : Int) := by
  have e : IntKind.u64.wrap (y : Int) = (y : Int) := by show (y : Int) % 18446744073709551616 = _; omega
  rw [e, show (x : Int) * 256 = ((x * 256 : Nat) : Int) by omega, u64_or_nat _ _ (by omega) (by omega), nat_join 8 (x * 256) y (by omega) (by omega)]
theorem zeros (m : Nat) (hm : m ≤ 1000000) : ∃ (M : Array Value), M.size = m ∧ (∀ i, i < m → M[i]? = some (.int .u8 0)) ∧
    (∀ W : World, (Instr.makeSlice 27 (.int .i64 (m : Int)) (.int .i64 (m : Int))).run Try.prog W = .ok (.slice (some ⟨W.heap.size, 0, none⟩) m m) (W.alloc (.cells M 5))) := by
  obtain ⟨i0, hi, hz0, hz1, hz2⟩ := info_parts (P := Try.prog) (e := 5) (z := .int .u8 0) (size := 1) (bytes := 1) (by kernel_rfl)
  refine ⟨madeCells (Value.int .u8 0).cells (m * i0.size), by rw [size_madeCells, hz1]; simp, fun i hi' => ?_, fun W => ?_⟩
  · rw [hz1]
    simp [madeCells, hi', Value.cells, Nat.mod_one]
  · have h := run_make (P := Try.prog) W 27 5 i0 (.int .u8 0) Try.underlying27 hi hz0 .i64 .i64 (m : Int) (m : Int) (by omega) (by omega) (by rw [hz2]; omega) (by omega)
    rw [Int.toNat_natCast] at h
    exact h
/-- The bytes under way. -/
def RowB (wx : World) (g m : Nat) (X : Nat → Nat) : Prop := wx.rowIs g 5 m (fun i => .int .u8 (X i : Nat))
theorem RowB.set {wx : World} {g m : Nat} {X : Nat → Nat} (r : RowB wx g m X) (j x : Nat) : RowB (wx.setCell ⟨g, j, none⟩ (.int .u8 x)) g m (fun i => if i = j then x else X i) :=
  World.rowIs.congr (World.rowIs.set r j (.int .u8 x)) fun i _ => by simp only []; split <;> rfl
theorem RowB.congr {wx : World} {g m : Nat} {X Y : Nat → Nat} (r : RowB wx g m X) (h : ∀ i, i < m → X i = Y i) : RowB wx g m Y := World.rowIs.congr r fun i hi => by rw [h i hi]
/-- Two words' bytes, the highest first. -/
def wB (a b t : Nat) : Nat := if t < 8 then a / 256 ^ (7 - t) % 256 else b / 256 ^ (15 - t) % 256
def wholeS (a b : Nat) : ByteArray := strOfNums ((List.range 16).map fun t => (wB a b t : Int))
theorem wholeS_size (a b : Nat) : (wholeS a b).size = 16 := by simp [wholeS, strOfNums_size]
theorem and_byte (a : Nat) (ha : a < 18446744073709551616) : bits .and .u64 (a : Int) 255 = ((a % 256 : Nat) : Int) := by
  have h := u64_and_nat a 255 ha (by decide)
  rw [nat_mask8] at h
  exact h
end Go.Proofs.Gcm
/-
  The document's own answer: GHASH.
-/
namespace Go.Proofs.Gcm
open Go.RowKit
open Go.Proofs.Aes (byt byt_lt get_byt)
/-- The sum behind k blocks. -/
def gSum (c d : Nat) (s : ByteArray) : Nat → Nat × Nat
  | 0 => (0, 0)
  | k + 1 => (mulX ((gSum c d s k).1 ^^^ nv s (16 * k) 8) ((gSum c d s k).2 ^^^ nv s (16 * k + 8) 8) c d, mulY ((gSum c d s k).1 ^^^ nv s (16 * k) 8) ((gSum c d s k).2 ^^^ nv s (16 * k + 8) 8) c d)
def ghS (h s : ByteArray) : ByteArray := wholeS (gSum (nv h 0 8) (nv h 8 8) s (s.size / 16)).1 (gSum (nv h 0 8) (nv h 8 8) s (s.size / 16)).2
theorem ghS_size (h s : ByteArray) : (ghS h s).size = 16 := wholeS_size _ _
theorem nv64 (s : ByteArray) (a : Nat) : nv s a 8 < 18446744073709551616 := nv_lt s a 8
theorem mul_lt (a b c d : Nat) (ha : a < 18446744073709551616) (hb : b < 18446744073709551616) (hc : c < 18446744073709551616) (hd : d < 18446744073709551616) : mulX a b c d < 18446744073709551616 ∧ mulY a b c d < 18446744073709551616 := by
  have h := tRun_lt ⟨a, b, c, d, 0, 0⟩ ⟨ha, hb, hc, hd, (by decide : (0 : Nat) < 18446744073709551616), (by decide : (0 : Nat) < 18446744073709551616)⟩ 128
  exact ⟨h.2.2.2.2.1, h.2.2.2.2.2⟩
theorem gSum_lt (c d : Nat) (s : ByteArray) (hc : c < 18446744073709551616) (hd : d < 18446744073709551616) (k : Nat) : (gSum c d s k).1 < 18446744073709551616 ∧ (gSum c d s k).2 < 18446744073709551616 := by
  induction k with
  | zero => exact ⟨(by decide : (0 : Nat) < 18446744073709551616), (by decide : (0 : Nat) < 18446744073709551616)⟩
  | succ k ih => exact mul_lt _ _ c d (xor64_lt ih.1 (nv64 _ _)) (xor64_lt ih.2 (nv64 _ _)) hc hd
theorem byt_extract (s : ByteArray) (a n i : Nat) (h : i < n) : byt (s.extract a (a + n)) i = byt s (a + i) := by
  unfold byt
  rw [show (s.extract a (a + n)).data.toList = (s.data.toList.drop a).take n by simp [List.extract_eq_take_drop], List.getD_eq_getElem?_getD, List.getElem?_take, if_pos h, List.getElem?_drop, ← List.getD_eq_getElem?_getD]
theorem nv_extract (s : ByteArray) (a n o k : Nat) (h : o + k ≤ n) : nv (s.extract a (a + n)) o k = nv s (a + o) k := by
  induction k with
  | zero => rfl
  | succ k ih =>
    show nv (s.extract a (a + n)) o k * 256 + byt (s.extract a (a + n)) (o + k) = nv s (a + o) k * 256 + byt s (a + o + k)
    rw [ih (by omega), byt_extract s a n (o + k) (by omega), Nat.add_assoc]
end Go.Proofs.Gcm
/-
  The document's own answer: one block of AES by a schedule.
-/
namespace Go.Proofs.Aes
open Go.RowKit
open Go.Proofs.Sha (wordCells wordCells_get wordCells_size rowIs_of wpList_alloc_to)
def Z16 : Array Value := wordCells .u8 (List.replicate 16 0)
def boxS : ByteArray := ⟨#[99, 124, 119, 123, 242, 107, 111, 197, 48, 1, 103, 43, 254, 215, 171, 118, 202, 130, 201, 125, 250, 89, 71, 240, 173, 212, 162, 175, 156, 164, 114, 192, 183, 253, 147, 38, 54, 63, 247, 204, 52, 165, 229, 241, 113, 216, 49, 21, 4, 199, 35, 195, 24, 150, 5, 154, 7, 18, 128, 226, 235, 39, 178, 117, 9, 131, 44, 26, 27, 110, 90, 160, 82, 59, 214, 179, 41, 227, 47, 132, 83, 209, 0, 237, 32, 252, 177, 91, 106, 203, 190, 57, 74, 76, 88, 207, 208, 239, 170, 251, 67, 77, 51, 133, 69, 249, 2, 127, 80, 60, 159, 168, 81, 163, 64, 143, 146, 157, 56, 245, 188, 182, 218, 33, 16, 255, 243, 210, 205, 12, 19, 236, 95, 151, 68, 23, 196, 167, 126, 61, 100, 93, 25, 115, 96, 129, 79, 220, 34, 42, 144, 136, 70, 238, 184, 20, 222, 94, 11, 219, 224, 50, 58, 10, 73, 6, 36, 92, 194, 211, 172, 98, 145, 149, 228, 121, 231, 200, 55, 109, 141, 213, 78, 169, 108, 86, 244, 234, 101, 122, 174, 8, 186, 120, 37, 46, 28, 166, 180, 198, 232, 221, 116, 31, 75, 189, 139, 138, 112, 62, 181, 102, 72, 3, 246, 14, 97, 53, 87, 185, 134, 193, 29, 158, 225, 248, 152, 17, 105, 217, 142, 148, 155, 30, 135, 233, 206, 85, 40, 223, 140, 161, 137, 13, 191, 230, 66, 104, 65, 153, 45, 15, 176, 84, 187, 22]⟩
theorem box_byt (k : Nat) (h : k < 256) : byt boxS k = bx k := by
  have := lt256s (P := fun i => decide (byt boxS i = bx i)) (by decide +kernel) k h
  simpa using this
/-- The schedule's cells. -/
def Keys (w : World) (b len : Nat) (wk : Nat → Nat) : Prop := ∀ i, i < 4 * len → w.cell? ⟨b, i, none⟩ = some (.int .u8 (wk i : Nat))
/-- The first c bytes are mixed. -/
def mixTo (y : Nat → Nat) (c : Nat) : Nat → Nat := fun t => if t < c then mixS y t else y t
theorem mixTo_ge (y : Nat → Nat) (c t : Nat) (h : c ≤ t) : mixTo y c t = y t := by unfold mixTo; rw [if_neg (by omega)]
theorem mixTo_zero (y : Nat → Nat) (t : Nat) : mixTo y 0 t = y t := mixTo_ge y 0 t (Nat.zero_le _)
theorem mixTo_all (y : Nat → Nat) (t : Nat) (h : t < 16) : mixTo y 16 t = mixS y t := by unfold mixTo; rw [if_pos h]
theorem mixTo_succ (y : Nat → Nat) (c t : Nat) : (if t = c then mixS y c else mixTo y c t) = mixTo y (c + 1) t := by
  unfold mixTo
  by_cases h : t = c
  · subst h; rw [if_pos rfl, if_pos (Nat.lt_succ_self _)]
  · rw [if_neg h]
    by_cases h2 : t < c
    · rw [if_pos h2, if_pos (by omega)]
    · rw [if_neg h2, if_neg (by omega)]
/-- The mixed byte at c + i, for c a column's begin. -/
theorem mixS_at (y : Nat → Nat) (c i : Nat) (hc : c % 4 = 0) (hi : i < 3) : mixS y (c + i) = y (c + i) ^^^ allC y c ^^^ dbl (y (c + i) ^^^ y (c + i + 1)) := by
  unfold mixS
  rw [show 4 * ((c + i) / 4) = c by omega, show c + ((c + i) % 4 + 1) % 4 = c + i + 1 by omega]
theorem mixS_last (y : Nat → Nat) (c : Nat) (hc : c % 4 = 0) : mixS y (c + 3) = y (c + 3) ^^^ allC y c ^^^ dbl (y (c + 3) ^^^ y c) := by
  unfold mixS
  rw [show 4 * ((c + 3) / 4) = c by omega, show c + ((c + 3) % 4 + 1) % 4 = c by omega]
theorem below_drewN {B : Nat} {w u : World} (h : Below B w u) (q : Nat) : Below B w (u.drewN q) := ⟨h.os, h.tape, h.output, h.size, h.block⟩
end Go.Proofs.Aes
