/-
  Plain facts: what was written is read back; what is cut is told.
-/
import Derived.Test.YtfgcbdmhkehhlaaD
namespace Go.Proofs.Ytfgcbdmhkehhlaa
open Go.RowKit

theorem ba_ext {s t : ByteArray} (h : s.data.toList = t.data.toList) : s = t := ByteArray.ext (Array.toList_inj.1 h)
theorem ba_size (s : ByteArray) : s.size = s.data.toList.length := Lib.size_eq s
theorem beS_list (x k : Nat) : (beS x k).data.toList = beL x k := by simp [beS]
theorem app_list (s t : ByteArray) : (s ++ t).data.toList = s.data.toList ++ t.data.toList := by simp
theorem byt_app_left (l r : List UInt8) (s : ByteArray) (h : s.data.toList = l ++ r) (j : Nat) (hj : j < l.length) : byt s j = (l.getD j 0).toNat := by
  unfold byt; rw [h]; simp [List.getD_eq_getElem?_getD, List.getElem?_append_left hj]
theorem byt_mid (l m r : List UInt8) (s : ByteArray) (h : s.data.toList = l ++ (m ++ r)) (j : Nat) (hj : j < m.length) : byt s (l.length + j) = (m.getD j 0).toNat := by
  unfold byt; rw [h]
  simp [List.getD_eq_getElem?_getD, List.getElem?_append_right, List.getElem?_append_left hj]
/-- The number that the first j of m's bytes say. -/
def numL (m : List UInt8) : Nat → Nat
  | 0 => 0
  | k + 1 => numL m k * 256 + (m.getD k 0).toNat
theorem numV_mid (l m r : List UInt8) (s : ByteArray) (h : s.data.toList = l ++ (m ++ r)) (k : Nat) (hk : k ≤ m.length) : numV s l.length k = numL m k := by
  induction k with
  | zero => rfl
  | succ k ih => simp only [numV, numL]; rw [ih (by omega), byt_mid l m r s h k (by omega)]
theorem numL_append (m r : List UInt8) (k : Nat) (hk : k ≤ m.length) : numL (m ++ r) k = numL m k := by
  induction k with
  | zero => rfl
  | succ k ih => simp only [numL]; rw [ih (by omega)]; simp [List.getD_eq_getElem?_getD, List.getElem?_append_left (show k < m.length by omega)]
theorem numL_be (x k : Nat) : numL (beL x k) k = x % 256 ^ k := by
  induction k generalizing x with
  | zero => simp [numL, Nat.mod_one]
  | succ k ih =>
    simp only [numL, beL]
    rw [numL_append _ _ _ (by rw [beL_length]; exact Nat.le_refl _), ih]
    have e : ((beL (x / 256) k ++ [UInt8.ofNat (x % 256)]).getD k 0).toNat = x % 256 := by
      rw [List.getD_eq_getElem?_getD, List.getElem?_append_right (by rw [beL_length]; exact Nat.le_refl _), beL_length]
      simp
    rw [e, Nat.pow_succ, Nat.mul_comm (256 ^ k) 256, Nat.mod_mul]
    omega
/-- The bytes of x stand in s at the place l.length: they say x. -/
theorem numV_be (l r : List UInt8) (s : ByteArray) (x k : Nat) (h : s.data.toList = l ++ (beL x k ++ r)) (hx : x < 256 ^ k) : numV s l.length k = x := by
  rw [numV_mid l _ r s h k (by rw [beL_length]; exact Nat.le_refl _), numL_be, Nat.mod_eq_of_lt hx]

theorem holdsB_true {n : Nat} {a k : Int} (h0 : 0 ≤ a) (h1 : a ≤ n) (h2 : k ≤ n - a) : holdsB n a k = true := by simp [holdsB]; omega
theorem holdsB_false {n : Nat} {a k : Int} (h : a < 0 ∨ n < a ∨ n - a < k) : holdsB n a k = false := by simp [holdsB]; omega
/-- A vector that stands in s is read back. -/
theorem vec_back (pre post : List UInt8) (s t : ByteArray) (k : Int) (h1 : 1 ≤ k) (h3 : k ≤ 3) (ht : t.size < 256 ^ k.toNat) (h : s.data.toList = pre ++ (beL t.size k.toNat ++ (t.data.toList ++ post))) :
    vecS s pre.length k = t ∧ vecT s pre.length k = pre.length + k + t.size ∧ vecE s pre.length k = 0 := by
  have hsz : s.size = pre.length + k.toNat + t.size + post.length := by
    rw [ba_size s, h, ba_size t]; simp [beL_length]; omega
  have hn : numV s pre.length k.toNat = t.size := numV_be pre _ s t.size k.toNat h ht
  have hl : vecL k = true := by simp [vecL]; omega
  have e1 : ((pre.length : Int) + k).toNat = pre.length + k.toNat := by omega
  have hb : vecB s pre.length k = true := by
    unfold vecB
    rw [Int.toNat_natCast, hn, holdsB_true (by omega) (by omega) (by omega), holdsB_true (by omega) (by omega) (by omega)]; rfl
  refine ⟨?_, ?_, ?_⟩
  · unfold vecS
    rw [hl, hb, Int.toNat_natCast, hn, e1]
    show s.extract (pre.length + k.toNat) (pre.length + k.toNat + t.size) = t
    apply ba_ext
    rw [Lib.extract_data, h, ← List.append_assoc, List.drop_left' (by simp [beL_length]), Nat.add_sub_cancel_left, List.take_left' (ba_size t).symm]
  · unfold vecT
    rw [hl, hb, Int.toNat_natCast, hn]; rfl
  · unfold vecE
    rw [hl, hb]; rfl
/-- A vector that is cut is none. -/
theorem vec_cutE (t : ByteArray) (k : Int) (m : Nat) (h1 : 1 ≤ k) (h3 : k ≤ 3) (ht : t.size < 256 ^ k.toNat) (hm : (m : Int) < k + t.size) :
    vecE ((beS t.size k.toNat ++ t).extract 0 m) 0 k = 100 := by
  have hl : vecL k = true := by simp [vecL]; omega
  have hsz : ((beS t.size k.toNat ++ t).extract 0 m).size = m := by
    rw [ByteArray.size_extract, ByteArray.size_append, beS_size]; omega
  have hb : vecB ((beS t.size k.toNat ++ t).extract 0 m) 0 k = false := by
    unfold vecB
    rw [hsz]
    by_cases hk : (m : Int) < k
    · rw [holdsB_false (by omega)]; rfl
    · have hn : numV ((beS t.size k.toNat ++ t).extract 0 m) 0 k.toNat = t.size := by
        refine numV_be [] (t.data.toList.take (m - k.toNat)) _ t.size k.toNat ?_ ht
        rw [Lib.extract_data, app_list, beS_list, List.drop_zero, Nat.sub_zero, List.take_append, beL_length, List.take_of_length_le (by rw [beL_length]; omega), List.nil_append]
      rw [show (0 : Int).toNat = 0 from rfl, hn, holdsB_false (a := 0 + k) (by omega), Bool.and_false]
  unfold vecE
  rw [hl, hb]; rfl
theorem numE_no {s : ByteArray} {a k : Int} (h : a < 0 ∨ s.size < a ∨ s.size - a < k) : numE s a k = 100 := by
  unfold numE; rw [holdsB_false h]; rfl
end Go.Proofs.Ytfgcbdmhkehhlaa
