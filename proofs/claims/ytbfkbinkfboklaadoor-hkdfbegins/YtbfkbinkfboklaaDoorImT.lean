/-
  Masks on whole numbers of any sign.
-/
import Derived.Test.YtbfkbinkfboklaaDoorImS
namespace Go.Proofs.Im
open Go.RowKit
theorem and_of (z : Int) (m : Nat) (hm : m < 9223372036854775808) : bits .and .i64 z (m : Int) = (((z % 18446744073709551616).toNat &&& m : Nat) : Int) := by
  have hx : (z % 18446744073709551616).toNat &&& m ≤ m := Nat.and_le_right
  show IntKind.i64.wrap ((BitVec.ofInt 64 z &&& BitVec.ofInt 64 (m : Int)).toNat : Int) = _
  rw [BitVec.toNat_and, ofInt_u64 m (by omega), BitVec.toNat_ofInt, show ((2 ^ 64 : Nat) : Int) = 18446744073709551616 from rfl]
  exact IntWalk.i64_in _ (by omega)
theorem mask63 (z : Int) : bits .and .i64 z 63 = z % 64 := by
  have h := and_of z 63 (by omega)
  rw [show 63 = 2 ^ 6 - 1 from rfl, Nat.and_two_pow_sub_one_eq_mod] at h
  refine Eq.trans h ?_; omega
theorem mask255 (z : Int) : bits .and .i64 z 255 = z % 256 := by
  have h := and_of z 255 (by omega)
  rw [show 255 = 2 ^ 8 - 1 from rfl, Nat.and_two_pow_sub_one_eq_mod] at h
  refine Eq.trans h ?_; omega
theorem mask7 (z : Int) : bits .and .i64 z 7 = z % 8 := by
  have h := and_of z 7 (by omega)
  rw [show 7 = 2 ^ 3 - 1 from rfl, Nat.and_two_pow_sub_one_eq_mod] at h
  refine Eq.trans h ?_; omega
theorem maskN1023 (z : Int) : ∃ n : Nat, n ≤ 1023 ∧ bits .and .i64 z 1023 = (n : Int) := by
  have h := and_of z 1023 (by omega)
  exact ⟨_, Nat.and_le_right, h⟩
theorem maskN511 (z : Int) : ∃ n : Nat, n ≤ 511 ∧ bits .and .i64 z 511 = (n : Int) := by
  have h := and_of z 511 (by omega)
  exact ⟨_, Nat.and_le_right, h⟩
theorem maskN4095 (z : Int) : ∃ n : Nat, n ≤ 4095 ∧ bits .and .i64 z 4095 = (n : Int) := by
  have h := and_of z 4095 (by omega)
  exact ⟨_, Nat.and_le_right, h⟩
theorem maskN3 (z : Int) : ∃ n : Nat, n ≤ 3 ∧ bits .and .i64 z 3 = (n : Int) := by
  have h := and_of z 3 (by omega)
  exact ⟨_, Nat.and_le_right, h⟩
theorem isE {r : ByteArray} (h : 0 < r.size) : r.toList.isEmpty = false := by
  rw [ByteArray.toList_eq]
  have : r.data.toList.length = r.size := by simp
  cases hl : r.data.toList with
  | nil => rw [hl] at this; simp at this; omega
  | cons _ _ => rfl
theorem text_piece (c : Nat → Nat) (K j : Nat) (h : j < K) : (strOfNums ((List.range K).map fun i => (c i : Int))).extract j (j + 1) = strOfNums [(c j : Int)] := by
  have : ((strOfNums ((List.range K).map fun i => (c i : Int))).extract j (j + 1)).data.toList = (strOfNums [(c j : Int)]).data.toList := by
    unfold strOfNums
    simp only [ByteArray.data_extract, Array.toList_extract, List.extract_eq_take_drop, List.map_map]
    rw [show j + 1 - j = 1 by omega]
    apply List.ext_getElem?
    intro i
    rw [List.getElem?_take]
    by_cases hi : i < 1
    · obtain rfl : i = 0 := by omega
      rw [if_pos (by omega), List.getElem?_drop, List.getElem?_map, List.getElem?_range (by omega)]; rfl
    · rw [if_neg hi]; simp; omega
  exact ByteArray.ext (Array.toList_inj.1 this)
theorem ext_next (T : ByteArray) (j : Nat) (_h : j < T.size) : T.extract 0 j ++ T.extract j (j + 1) = T.extract 0 (j + 1) := by
  rw [ByteArray.extract_append_extract, Nat.min_eq_left (by omega), Nat.max_eq_right (by omega)]
end Go.Proofs.Im
