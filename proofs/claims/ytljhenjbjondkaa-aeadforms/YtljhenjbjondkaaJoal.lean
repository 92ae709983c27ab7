/-
  GHASH's product as plain functions: sums go through it.
-/
import Derived.Test.YtljhenjbjondkaaJoai
import Derived.Test.YtljhenjbjondkaaJoak
namespace Go.Proofs.Gcm
open Go.RowKit
theorem xor_two (a b : Nat) : (a ^^^ b) * 2 % 18446744073709551616 = (a * 2 % 18446744073709551616) ^^^ (b * 2 % 18446744073709551616) := by
  have h := Nat.xor_mod_two_pow (a := a <<< 1) (b := b <<< 1) (n := 64)
  rw [← Nat.shiftLeft_xor_distrib] at h
  simp only [Nat.shiftLeft_eq, Nat.pow_one] at h
  exact h
theorem xor_top (a b : Nat) : (a ^^^ b) / 9223372036854775808 = (a / 9223372036854775808) ^^^ (b / 9223372036854775808) := by
  have h := Nat.shiftRight_xor_distrib (a := a) (b := b) (i := 63)
  simp only [Nat.shiftRight_eq_div_pow] at h
  exact h
/-- Two runs and the run of their sum. -/
def Sum3 (p q r : TS) : Prop := r.a = p.a ^^^ q.a ∧ r.b = p.b ^^^ q.b ∧ (p.c = r.c ∧ q.c = r.c) ∧ (p.d = r.d ∧ q.d = r.d) ∧ r.x = p.x ^^^ q.x ∧ r.y = p.y ^^^ q.y
theorem bit_cases {a : Nat} (h : a < 18446744073709551616) : a / 9223372036854775808 = 0 ∨ a / 9223372036854775808 = 1 := by omega
theorem step_sum (i : Nat) {p q r : TS} (hp : Lt6 p) (hq : Lt6 q) (h : Sum3 p q r) : Sum3 (tStep i p) (tStep i q) (tStep i r) := by
  obtain ⟨h1, h2, ⟨h3, h4⟩, ⟨h5, h6⟩, h7, h8⟩ := h
  have hbit : tBit i r = tBit i p ^^^ tBit i q := by
    unfold tBit
    split
    · rw [h2, xor_top]
    · rw [h1, xor_top]
  have hb1 : tBit i p = 0 ∨ tBit i p = 1 := by
    unfold tBit; split
    · exact bit_cases hp.2.1
    · exact bit_cases hp.1
  have hb2 : tBit i q = 0 ∨ tBit i q = 1 := by
    unfold tBit; split
    · exact bit_cases hq.2.1
    · exact bit_cases hq.1
  refine ⟨?_, ?_, ⟨?_, ?_⟩, ⟨?_, ?_⟩, ?_, ?_⟩
  · show (if 63 < i then r.a else r.a * 2 % 18446744073709551616) = (if 63 < i then p.a else p.a * 2 % 18446744073709551616) ^^^ (if 63 < i then q.a else q.a * 2 % 18446744073709551616)
    split
    · exact h1
    · rw [h1, xor_two]
  · show (if 63 < i then r.b * 2 % 18446744073709551616 else r.b) = (if 63 < i then p.b * 2 % 18446744073709551616 else p.b) ^^^ (if 63 < i then q.b * 2 % 18446744073709551616 else q.b)
    split
    · rw [h2, xor_two]
    · exact h2
  · show (if p.d % 2 = 1 then (p.c / 2) ^^^ 16212958658533785600 else p.c / 2) = (if r.d % 2 = 1 then (r.c / 2) ^^^ 16212958658533785600 else r.c / 2)
    rw [h3, h5]
  · show (if q.d % 2 = 1 then (q.c / 2) ^^^ 16212958658533785600 else q.c / 2) = (if r.d % 2 = 1 then (r.c / 2) ^^^ 16212958658533785600 else r.c / 2)
    rw [h4, h6]
  · show p.d / 2 + p.c % 2 * 9223372036854775808 = r.d / 2 + r.c % 2 * 9223372036854775808
    rw [h3, h5]
  · show q.d / 2 + q.c % 2 * 9223372036854775808 = r.d / 2 + r.c % 2 * 9223372036854775808
    rw [h4, h6]
  · show (if tBit i r = 1 then r.x ^^^ r.c else r.x) = (if tBit i p = 1 then p.x ^^^ p.c else p.x) ^^^ (if tBit i q = 1 then q.x ^^^ q.c else q.x)
    rw [hbit, h7, h3, h4]
    rcases hb1 with e1 | e1 <;> rcases hb2 with e2 | e2 <;> rw [e1, e2]
    · rfl
    · show p.x ^^^ q.x ^^^ r.c = p.x ^^^ (q.x ^^^ r.c)
      rw [Nat.xor_assoc]
    · show p.x ^^^ q.x ^^^ r.c = p.x ^^^ r.c ^^^ q.x
      rw [Nat.xor_assoc, Nat.xor_assoc, Nat.xor_comm q.x]
    · show p.x ^^^ q.x = p.x ^^^ r.c ^^^ (q.x ^^^ r.c)
      rw [Nat.xor_assoc p.x, ← Nat.xor_assoc r.c, Nat.xor_comm r.c q.x, Nat.xor_assoc q.x, Nat.xor_self, Nat.xor_zero]
  · show (if tBit i r = 1 then r.y ^^^ r.d else r.y) = (if tBit i p = 1 then p.y ^^^ p.d else p.y) ^^^ (if tBit i q = 1 then q.y ^^^ q.d else q.y)
    rw [hbit, h8, h5, h6]
    rcases hb1 with e1 | e1 <;> rcases hb2 with e2 | e2 <;> rw [e1, e2]
    · rfl
    · show p.y ^^^ q.y ^^^ r.d = p.y ^^^ (q.y ^^^ r.d)
      rw [Nat.xor_assoc]
    · show p.y ^^^ q.y ^^^ r.d = p.y ^^^ r.d ^^^ q.y
      rw [Nat.xor_assoc, Nat.xor_assoc, Nat.xor_comm q.y]
    · show p.y ^^^ q.y = p.y ^^^ r.d ^^^ (q.y ^^^ r.d)
      rw [Nat.xor_assoc p.y, ← Nat.xor_assoc r.d, Nat.xor_comm r.d q.y, Nat.xor_assoc q.y, Nat.xor_self, Nat.xor_zero]
theorem run_sum {p q r : TS} (hp : Lt6 p) (hq : Lt6 q) (h : Sum3 p q r) (i : Nat) : Sum3 (tRun p i) (tRun q i) (tRun r i) := by
  induction i with
  | zero => exact h
  | succ i ih => exact step_sum i (tRun_lt p hp i) (tRun_lt q hq i) ih
/-- A product of a sum is the products' sum. -/
theorem mul_sum (a b a' b' c d : Nat) (ha : a < 18446744073709551616) (hb : b < 18446744073709551616) (ha' : a' < 18446744073709551616) (hb' : b' < 18446744073709551616) (hc : c < 18446744073709551616) (hd : d < 18446744073709551616) :
    mulX (a ^^^ a') (b ^^^ b') c d = mulX a b c d ^^^ mulX a' b' c d ∧ mulY (a ^^^ a') (b ^^^ b') c d = mulY a b c d ^^^ mulY a' b' c d := by
  have z : (0 : Nat) < 18446744073709551616 := by decide
  have h := run_sum (p := ⟨a, b, c, d, 0, 0⟩) (q := ⟨a', b', c, d, 0, 0⟩) (r := ⟨a ^^^ a', b ^^^ b', c, d, 0, 0⟩) ⟨ha, hb, hc, hd, z, z⟩ ⟨ha', hb', hc, hd, z, z⟩ ⟨rfl, rfl, ⟨rfl, rfl⟩, ⟨rfl, rfl⟩, (Nat.xor_zero 0).symm, (Nat.xor_zero 0).symm⟩ 128
  exact ⟨h.2.2.2.2.1, h.2.2.2.2.2⟩
end Go.Proofs.Gcm
/-
  GCM as plain functions: what was sealed is opened; sums go through GHASH.
-/
namespace Go.Proofs.Gcm
open Go.RowKit
open Go.Proofs.Aes (byt byt_lt ciphS ciphS_size)
theorem byt_nums (f : Nat → Nat) (m t : Nat) (h : t < m) (hf : f t < 256) : byt (strOfNums ((List.range m).map fun t => (f t : Int))) t = f t := by
  unfold byt
  rw [strOfNums_data, List.map_map, List.getD_eq_getElem?_getD, List.getElem?_map, List.getElem?_range h]
  show (UInt8.ofNat ((f t : Int).toNat)).toNat = f t
  rw [Int.toNat_natCast, UInt8.toNat_ofNat']
  exact Nat.mod_eq_of_lt hf
theorem nums_byt (s : ByteArray) : strOfNums ((List.range s.size).map fun t => (byt s t : Int)) = s := by
  apply ByteArray.ext
  apply Array.ext'
  rw [strOfNums_data]
  apply List.ext_getElem?
  intro i
  by_cases hi : i < s.size
  · have h' : i < s.data.toList.length := by simpa using hi
    rw [List.map_map, List.getElem?_map, List.getElem?_range hi, List.getElem?_eq_getElem h']
    simp only [Option.map_some, Function.comp, Int.toNat_natCast, byt, List.getD_eq_getElem?_getD, List.getElem?_eq_getElem h', Option.getD_some, UInt8.ofNat_toNat]
  · rw [List.getElem?_eq_none (by simp; omega), List.getElem?_eq_none (by simpa using hi)]
theorem ctrB_lt (wk : Nat → Nat) (n : Nat) (nonce : ByteArray) (f : Nat) (s : ByteArray) (t : Nat) : ctrB wk n nonce f s t < 256 := Aes.xor8_lt (byt_lt _ _) (byt_lt _ _)
/-- Twice under the same blocks is as nothing. -/
theorem ctrS_twice (wk : Nat → Nat) (n : Nat) (nonce : ByteArray) (f : Nat) (s : ByteArray) : ctrS wk n nonce f (ctrS wk n nonce f s) = s := by
  have h : ∀ t, t < s.size → ctrB wk n nonce f (ctrS wk n nonce f s) t = byt s t := fun t ht => by
    have e : byt (ctrS wk n nonce f s) t = ctrB wk n nonce f s t := byt_nums _ _ _ ht (ctrB_lt wk n nonce f s t)
    show byt (ctrS wk n nonce f s) t ^^^ _ = _
    rw [e]
    show byt s t ^^^ _ ^^^ _ = _
    rw [Nat.xor_assoc, Nat.xor_self, Nat.xor_zero]
  refine Eq.trans ?_ (nums_byt s)
  show strOfNums ((List.range (ctrS wk n nonce f s).size).map fun t => (ctrB wk n nonce f (ctrS wk n nonce f s) t : Int)) = _
  rw [ctrS_size]
  congr 1
  apply List.map_congr_left
  intro t ht
  rw [h t (List.mem_range.1 ht)]
theorem sealS_size (key nonce aad s : ByteArray) : (sealS key nonce aad s).size = s.size + 16 := by unfold sealS; rw [ByteArray.size_append, ctrS_size, tagS_size]
theorem sealS_head (key nonce aad s : ByteArray) : (sealS key nonce aad s).extract 0 s.size = ctrS (wkS key) (nR key) nonce 2 s := by
  have hz := ctrS_size (wkS key) (nR key) nonce 2 s
  unfold sealS
  generalize ctrS (wkS key) (nR key) nonce 2 s = c at hz ⊢
  rw [← hz, ByteArray.extract_append, Nat.sub_self, Nat.zero_sub]
  rw [show (tagS (wkS key) (nR key) nonce aad c).extract 0 0 = ByteArray.empty from ByteArray.extract_eq_empty_iff.mpr (by omega), ByteArray.append_empty, ByteArray.extract_zero_size]
theorem sealS_tail (key nonce aad s : ByteArray) : (sealS key nonce aad s).extract s.size (s.size + 16) = tagS (wkS key) (nR key) nonce aad (ctrS (wkS key) (nR key) nonce 2 s) := by
  have hz := ctrS_size (wkS key) (nR key) nonce 2 s
  unfold sealS
  generalize ctrS (wkS key) (nR key) nonce 2 s = c at hz ⊢
  have ht := tagS_size (wkS key) (nR key) nonce aad c
  generalize tagS (wkS key) (nR key) nonce aad c = t at ht ⊢
  rw [← hz, ByteArray.extract_append, show c.extract c.size (c.size + 16) = ByteArray.empty from ByteArray.extract_eq_empty_iff.mpr (by omega), ByteArray.empty_append, Nat.sub_self, Nat.add_sub_cancel_left, ← ht, ByteArray.extract_zero_size]
/-- What was sealed is opened. -/
theorem open_seal (key nonce aad s : ByteArray) (h : gcmOk key nonce aad s 0 = true) : openS key nonce aad (sealS key nonce aad s) = s ∧ openE key nonce aad (sealS key nonce aad s) = 0 := by
  obtain ⟨h1, h2, h3, h4⟩ := gcmOk_parts h
  have hz := sealS_size key nonce aad s
  have ok : gcmOk key nonce aad (sealS key nonce aad s) 16 = true := by
    unfold gcmOk
    rw [h1, decide_eq_true h2, decide_eq_true h3, decide_eq_true (show (sealS key nonce aad s).size ≤ 65536 + 16 by omega)]; rfl
  have hk : (sealS key nonce aad s).size - 16 = s.size := by omega
  have tg : tagOk key nonce aad (sealS key nonce aad s) s.size = true := by
    unfold tagOk
    rw [same_iff, sealS_head, sealS_tail]
  have o : openB key nonce aad (sealS key nonce aad s) = true := by
    unfold openB
    rw [ok, decide_eq_true (show 16 ≤ (sealS key nonce aad s).size by omega), hk, tg]; rfl
  constructor
  · unfold openS
    rw [o, hk, sealS_head]
    exact ctrS_twice _ _ _ _ _
  · unfold openE
    rw [o]; rfl
theorem xor4 (a b p q : Nat) : (a ^^^ b) ^^^ (p ^^^ q) = (a ^^^ p) ^^^ (b ^^^ q) := by
  rw [Nat.xor_assoc, Nat.xor_assoc, ← Nat.xor_assoc b, Nat.xor_comm b p, Nat.xor_assoc p]
/-- Blocks' sums go through GHASH's sum. -/
theorem gSum_sum (c d : Nat) (s t u : ByteArray) (hc : c < 18446744073709551616) (hd : d < 18446744073709551616) (h : ∀ a, nv u a 8 = nv s a 8 ^^^ nv t a 8) (k : Nat) :
    (gSum c d u k).1 = (gSum c d s k).1 ^^^ (gSum c d t k).1 ∧ (gSum c d u k).2 = (gSum c d s k).2 ^^^ (gSum c d t k).2 := by
  induction k with
  | zero => exact ⟨(Nat.xor_zero 0).symm, (Nat.xor_zero 0).symm⟩
  | succ k ih =>
    have e1 : (gSum c d u k).1 ^^^ nv u (16 * k) 8 = ((gSum c d s k).1 ^^^ nv s (16 * k) 8) ^^^ ((gSum c d t k).1 ^^^ nv t (16 * k) 8) := by
      rw [ih.1, h, xor4]
    have e2 : (gSum c d u k).2 ^^^ nv u (16 * k + 8) 8 = ((gSum c d s k).2 ^^^ nv s (16 * k + 8) 8) ^^^ ((gSum c d t k).2 ^^^ nv t (16 * k + 8) 8) := by
      rw [ih.2, h, xor4]
    have hs := gSum_lt c d s hc hd k
    have ht := gSum_lt c d t hc hd k
    have m := mul_sum _ _ _ _ c d (xor64_lt hs.1 (nv64 s (16 * k))) (xor64_lt hs.2 (nv64 s (16 * k + 8))) (xor64_lt ht.1 (nv64 t (16 * k))) (xor64_lt ht.2 (nv64 t (16 * k + 8))) hc hd
    exact ⟨by show mulX _ _ c d = mulX _ _ c d ^^^ mulX _ _ c d; rw [e1, e2]; exact m.1, by show mulY _ _ c d = mulY _ _ c d ^^^ mulY _ _ c d; rw [e1, e2]; exact m.2⟩
end Go.Proofs.Gcm
