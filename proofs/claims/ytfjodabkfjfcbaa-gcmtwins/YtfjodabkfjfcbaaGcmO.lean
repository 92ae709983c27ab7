/-
  GCM as plain functions: what was sealed is opened; sums go through GHASH.
-/
import Derived.Test.YtfjodabkfjfcbaaGcmG
import Derived.Test.YtfjodabkfjfcbaaGcmN
namespace Go.Proofs.Gcm
open Go.RowKit
open Go.Proofs.Aes (byt byt_lt ciphS ciphS_size)
theorem byt_nums (f : Nat → Nat) (m t : Nat) (h : t < m) (hf : f t < 256) : byt (strOfNums ((List.range m).map fun t => (f t : Int))) t = f t := by
  unfold byt
  rw [strOfNums_data, List.map_map, List.getD_eq_getElem?_getD, List.getElem?_map, List.getElem?_range h]
  show (UInt8.ofNat ((f t : Int).toNat)).toNat = f t
  rw [Int.toNat_natCast, UInt8.toNat_ofNat']
  exact Nat.mod_eq_of_lt hf
theorem nums_byt (s : ByteArray) : strOfNums ((List.range s.size).map fun t => (byt s t : Int)) = s := by
  apply ByteArray.ext
  apply Array.ext'
  rw [strOfNums_data]
  apply List.ext_getElem?
  intro i
  by_cases hi : i < s.size
  · have h' : i < s.data.toList.length := by simpa using hi
    rw [List.map_map, List.getElem?_map, List.getElem?_range hi, List.getElem?_eq_getElem h']
    simp only [Option.map_some, Function.comp, Int.toNat_natCast, byt, List.getD_eq_getElem?_getD, List.getElem?_eq_getElem h', Option.getD_some, UInt8.ofNat_toNat]
  · rw [List.getElem?_eq_none (by simp; omega), List.getElem?_eq_none (by simpa using hi)]
theorem ctrB_lt (wk : Nat → Nat) (n : Nat) (nonce : ByteArray) (f : Nat) (s : ByteArray) (t : Nat) : ctrB wk n nonce f s t < 256 := Aes.xor8_lt (byt_lt _ _) (byt_lt _ _)
/-- Twice under the same blocks is as nothing. -/
theorem ctrS_twice (wk : Nat → Nat) (n : Nat) (nonce : ByteArray) (f : Nat) (s : ByteArray) : ctrS wk n nonce f (ctrS wk n nonce f s) = s := by
  have h : ∀ t, t < s.size → ctrB wk n nonce f (ctrS wk n nonce f s) t = byt s t := fun t ht => by
    have e : byt (ctrS wk n nonce f s) t = ctrB wk n nonce f s t := byt_nums _ _ _ ht (ctrB_lt wk n nonce f s t)
    show byt (ctrS wk n nonce f s) t ^^^ _ = _
    rw [e]
    show byt s t ^^^ _ ^^^ _ = _
    rw [Nat.xor_assoc, Nat.xor_self, Nat.xor_zero]
  refine Eq.trans ?_ (nums_byt s)
  show strOfNums ((List.range (ctrS wk n nonce f s).size).map fun t => (ctrB wk n nonce f (ctrS wk n nonce f s) t : Int)) = _
  rw [ctrS_size]
  congr 1
  apply List.map_congr_left
  intro t ht
  rw [h t (List.mem_range.1 ht)]
theorem sealS_size (key nonce aad s : ByteArray) : (sealS key nonce aad s).size = s.size + 16 := by unfold sealS; rw [ByteArray.size_append, ctrS_size, tagS_size]
theorem sealS_head (key nonce aad s : ByteArray) : (sealS key nonce aad s).extract 0 s.size = ctrS (wkS key) (nR key) nonce 2 s := by
  have hz := ctrS_size (wkS key) (nR key) nonce 2 s
  unfold sealS
  generalize ctrS (wkS key) (nR key) nonce 2 s = c at hz ⊢
  rw [← hz, ByteArray.extract_append, Nat.sub_self, Nat.zero_sub]
  rw [show (tagS (wkS key) (nR key) nonce aad c).extract 0 0 = ByteArray.empty from ByteArray.extract_eq_empty_iff.mpr (by omega), ByteArray.append_empty, ByteArray.extract_zero_size]
theorem sealS_tail (key nonce aad s : ByteArray) : (sealS key nonce aad s).extract s.size (s.size + 16) = tagS (wkS key) (nR key) nonce aad (ctrS (wkS key) (nR key) nonce 2 s) := by
  have hz := ctrS_size (wkS key) (nR key) nonce 2 s
  unfold sealS
  generalize ctrS (wkS key) (nR key) nonce 2 s = c at hz ⊢
  have ht := tagS_size (wkS key) (nR key) nonce aad c
  generalize tagS (wkS key) (nR key) nonce aad c = t at ht ⊢
  rw [← hz, ByteArray.extract_append, show c.extract c.size (c.size + 16) = ByteArray.empty from ByteArray.extract_eq_empty_iff.mpr (by omega), ByteArray.empty_append, Nat.sub_self, Nat.add_sub_cancel_left, ← ht, ByteArray.extract_zero_size]
/-- What was sealed is opened. -/
theorem open_seal (key nonce aad s : ByteArray) (h : gcmOk key nonce aad s 0 = true) : openS key nonce aad (sealS key nonce aad s) = s ∧ openE key nonce aad (sealS key nonce aad s) = 0 := by
  obtain ⟨h1, h2, h3, h4⟩ := gcmOk_parts h
  have hz := sealS_size key nonce aad s
  have ok : gcmOk key nonce aad (sealS key nonce aad s) 16 = true := by
    unfold gcmOk
    rw [h1, decide_eq_true h2, decide_eq_true h3, decide_eq_true (show (sealS key nonce aad s).size ≤ 65536 + 16 by omega)]; rfl
  have hk : (sealS key nonce aad s).size - 16 = s.size := by omega
  have tg : tagOk key nonce aad (sealS key nonce aad s) s.size = true := by
    unfold tagOk
    rw [same_iff, sealS_head, sealS_tail]
  have o : openB key nonce aad (sealS key nonce aad s) = true := by
    unfold openB
    rw [ok, decide_eq_true (show 16 ≤ (sealS key nonce aad s).size by omega), hk, tg]; rfl
  constructor
  · unfold openS
    rw [o, hk, sealS_head]
    exact ctrS_twice _ _ _ _ _
  · unfold openE
    rw [o]; rfl
theorem xor4 (a b p q : Nat) : (a ^^^ b) ^^^ (p ^^^ q) = (a ^^^ p) ^^^ (b ^^^ q) := by
  rw [Nat.xor_assoc, Nat.xor_assoc, ← Nat.xor_assoc b, Nat.xor_comm b p, Nat.xor_assoc p]
/-- Blocks' sums go through GHASH's sum. -/
theorem gSum_sum (c d : Nat) (s t u : ByteArray) (hc : c < 18446744073709551616) (hd : d < 18446744073709551616) (h : ∀ a, nv u a 8 = nv s a 8 ^^^ nv t a 8) (k : Nat) :
    (gSum c d u k).1 = (gSum c d s k).1 ^^^ (gSum c d t k).1 ∧ (gSum c d u k).2 = (gSum c d s k).2 ^^^ (gSum c d t k).2 := by
  induction k with
  | zero => exact ⟨(Nat.xor_zero 0).symm, (Nat.xor_zero 0).symm⟩
  | succ k ih =>
    have e1 : (gSum c d u k).1 ^^^ nv u (16 * k) 8 = ((gSum c d s k).1 ^^^ nv s (16 * k) 8) ^^^ ((gSum c d t k).1 ^^^ nv t (16 * k) 8) := by
      rw [ih.1, h, xor4]
    have e2 : (gSum c d u k).2 ^^^ nv u (16 * k + 8) 8 = ((gSum c d s k).2 ^^^ nv s (16 * k + 8) 8) ^^^ ((gSum c d t k).2 ^^^ nv t (16 * k + 8) 8) := by
      rw [ih.2, h, xor4]
    have hs := gSum_lt c d s hc hd k
    have ht := gSum_lt c d t hc hd k
    have m := mul_sum _ _ _ _ c d (xor64_lt hs.1 (nv64 s (16 * k))) (xor64_lt hs.2 (nv64 s (16 * k + 8))) (xor64_lt ht.1 (nv64 t (16 * k))) (xor64_lt ht.2 (nv64 t (16 * k + 8))) hc hd
    exact ⟨by show mulX _ _ c d = mulX _ _ c d ^^^ mulX _ _ c d; rw [e1, e2]; exact m.1, by show mulY _ _ c d = mulY _ _ c d ^^^ mulY _ _ c d; rw [e1, e2]; exact m.2⟩
end Go.Proofs.Gcm
