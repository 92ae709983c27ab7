/-
  GHASH by writes, as plain functions: texts one behind the other, a block's words, a tag's bytes.
-/
import Derived.Test.YtfjodabkfjfcbaaGdD
import Derived.Test.YtfjodabkfjfcbaaGcmQ
namespace Go.Proofs.Gd
open Go.RowKit Go.Proofs.Gcm
open Go.Proofs.Aes (byt byt_lt get_byt ciphS encS)
open Go.Proofs.Be (beS beL beS_size)
/-- The sum behind k blocks of a text. -/
def gW (K : Nat × Nat) (s : ByteArray) (S : Nat × Nat) : Nat → Nat × Nat
  | 0 => S
  | k + 1 => addS K (gW K s S k) (nv s (16 * k) 8, nv s (16 * k + 8) 8)
theorem addS_mul (K S p : Nat × Nat) (hK : Ok K) (hS : Ok S) (hp : Ok p) : addS K S p = (mulX (S.1 ^^^ p.1) (S.2 ^^^ p.2) K.1 K.2, mulY (S.1 ^^^ p.1) (S.2 ^^^ p.2) K.1 K.2) := by
  have o := pl_ok hS hp
  exact hor_mul (pl S p).1 (pl S p).2 K.1 K.2 o.1 o.2 hK.1 hK.2
theorem addS_ok {K S p : Nat × Nat} (hK : Ok K) : Ok (addS K S p) := hor_ok _ _ hK 32
theorem nv_ok (s : ByteArray) (a b : Nat) : Ok (nv s a 8, nv s b 8) := ⟨nv64 s a, nv64 s b⟩
theorem gW_ok {K : Nat × Nat} (s : ByteArray) {S : Nat × Nat} (hK : Ok K) (hS : Ok S) (k : Nat) : Ok (gW K s S k) := by
  cases k with
  | zero => exact hS
  | succ k => exact addS_ok hK
theorem gW_gSum (K : Nat × Nat) (s : ByteArray) (hK : Ok K) (k : Nat) : gW K s (0, 0) k = gSum K.1 K.2 s k := by
  induction k with
  | zero => rfl
  | succ k ih =>
    show addS K (gW K s (0, 0) k) (nv s (16 * k) 8, nv s (16 * k + 8) 8) = _
    rw [addS_mul K _ _ hK (gW_ok s hK ok_zero k) (nv_ok s _ _), ih]
    rfl
theorem gW_congr (K S : Nat × Nat) (s t : ByteArray) (k : Nat) (h : ∀ a, a + 8 ≤ 16 * k → nv s a 8 = nv t a 8) : gW K s S k = gW K t S k := by
  induction k with
  | zero => rfl
  | succ k ih =>
    show addS K (gW K s S k) (nv s (16 * k) 8, nv s (16 * k + 8) 8) = addS K (gW K t S k) (nv t (16 * k) 8, nv t (16 * k + 8) 8)
    rw [ih fun a ha => h a (by omega), h (16 * k) (by omega), h (16 * k + 8) (by omega)]
theorem byt_left (s t : ByteArray) (i : Nat) (h : i < s.size) : byt (s ++ t) i = byt s i := by
  unfold byt
  rw [ByteArray.data_append, Array.toList_append, List.getD_eq_getElem?_getD, List.getElem?_append_left (by simpa using h), ← List.getD_eq_getElem?_getD]
theorem byt_right (s t : ByteArray) (i : Nat) : byt (s ++ t) (s.size + i) = byt t i := by
  unfold byt
  have e : s.data.toList.length = s.size := by simp
  rw [ByteArray.data_append, Array.toList_append, List.getD_eq_getElem?_getD, List.getElem?_append_right (by omega), e, Nat.add_sub_cancel_left, ← List.getD_eq_getElem?_getD]
theorem nv_left (s t : ByteArray) (a k : Nat) (h : a + k ≤ s.size) : nv (s ++ t) a k = nv s a k := by
  induction k with
  | zero => rfl
  | succ k ih =>
    show nv (s ++ t) a k * 256 + byt (s ++ t) (a + k) = nv s a k * 256 + byt s (a + k)
    rw [ih (by omega), byt_left s t (a + k) (by omega)]
theorem nv_right (s t : ByteArray) (a k : Nat) : nv (s ++ t) (s.size + a) k = nv t a k := by
  induction k with
  | zero => rfl
  | succ k ih =>
    show nv (s ++ t) (s.size + a) k * 256 + byt (s ++ t) (s.size + a + k) = nv t a k * 256 + byt t (a + k)
    rw [ih, Nat.add_assoc, byt_right]
theorem gW_append (K S : Nat × Nat) (s t : ByteArray) (m k : Nat) (h : s.size = 16 * m) : gW K (s ++ t) S (m + k) = gW K t (gW K s S m) k := by
  induction k with
  | zero => exact gW_congr K S (s ++ t) s m fun a ha => nv_left s t a 8 (by omega)
  | succ k ih =>
    show addS K (gW K (s ++ t) S (m + k)) (nv (s ++ t) (16 * (m + k)) 8, nv (s ++ t) (16 * (m + k) + 8) 8) = addS K (gW K t (gW K s S m) k) (nv t (16 * k) 8, nv t (16 * k + 8) 8)
    rw [ih, show 16 * (m + k) = s.size + 16 * k by omega, nv_right, Nat.add_assoc, nv_right]
/-- The sum behind a text that is filled up. -/
def wrS (K S : Nat × Nat) (s : ByteArray) : Nat × Nat := gW K (fillS s) S ((s.size + 15) / 16)
theorem fillS_size (s : ByteArray) : (fillS s).size = 16 * ((s.size + 15) / 16) := by unfold fillS; rw [ByteArray.size_append, zS_size]; omega
theorem wrS_ok {K S : Nat × Nat} (s : ByteArray) (hK : Ok K) (hS : Ok S) : Ok (wrS K S s) := gW_ok _ hK hS _
theorem nv_beS (x k : Nat) (h : x < 256 ^ k) : nv (beS x k) 0 k = x := by
  induction k generalizing x with
  | zero => rw [Nat.pow_zero] at h; show 0 = x; omega
  | succ k ih =>
    have e : beS x (k + 1) = beS (x / 256) k ++ ⟨#[UInt8.ofNat (x % 256)]⟩ := by
      apply ByteArray.ext; apply Array.ext'
      rw [ByteArray.data_append, Array.toList_append]
      simp [Be.beS, Be.beL]
    have hz := beS_size (x / 256) k
    show nv (beS x (k + 1)) 0 k * 256 + byt (beS x (k + 1)) (0 + k) = x
    have hk : byt (beS (x / 256) k ++ ⟨#[UInt8.ofNat (x % 256)]⟩) k = byt ⟨#[UInt8.ofNat (x % 256)]⟩ 0 := by
      have := byt_right (beS (x / 256) k) ⟨#[UInt8.ofNat (x % 256)]⟩ 0
      rwa [hz, Nat.add_zero] at this
    rw [e, nv_left _ _ _ _ (by omega), ih (x / 256) (by rw [Nat.pow_succ] at h; omega), Nat.zero_add, hk]
    show x / 256 * 256 + (UInt8.ofNat (x % 256)).toNat = x
    rw [UInt8.toNat_ofNat']
    omega
theorem nv_two (x y : Nat) (hx : x < 18446744073709551616) (hy : y < 18446744073709551616) : nv (beS x 8 ++ beS y 8) 0 8 = x ∧ nv (beS x 8 ++ beS y 8) 8 8 = y := by
  have hz := beS_size x 8
  constructor
  · rw [nv_left _ _ _ _ (by omega), nv_beS x 8 hx]
  · have := nv_right (beS x 8) (beS y 8) 0 8
    rw [hz, Nat.add_zero, nv_beS y 8 hy] at this
    exact this
/-- The hash that a tag is of. -/
theorem auth_sum (K : Nat × Nat) (aad c : ByteArray) (hK : Ok K) (ha : aad.size ≤ 100000) (hc : c.size ≤ 100000) :
    addS K (wrS K (wrS K (0, 0) aad) c) (8 * aad.size, 8 * c.size) = gSum K.1 K.2 (authS aad c) ((authS aad c).size / 16) := by
  have hz1 := beS_size (8 * aad.size) 8
  have hz2 := beS_size (8 * c.size) 8
  have hn := nv_two (8 * aad.size) (8 * c.size) (by omega) (by omega)
  have f1 := fillS_size aad
  have f2 := fillS_size c
  rw [← gW_gSum K _ hK]
  unfold authS
  rw [show (fillS aad ++ fillS c ++ (beS (8 * aad.size) 8 ++ beS (8 * c.size) 8)).size / 16 = ((aad.size + 15) / 16 + (c.size + 15) / 16) + 1 by rw [ByteArray.size_append, ByteArray.size_append, ByteArray.size_append, hz1, hz2, f1, f2]; omega]
  rw [gW_append K (0, 0) (fillS aad ++ fillS c) _ ((aad.size + 15) / 16 + (c.size + 15) / 16) 1 (by rw [ByteArray.size_append, f1, f2]; omega), gW_append K (0, 0) (fillS aad) (fillS c) ((aad.size + 15) / 16) ((c.size + 15) / 16) f1]
  show _ = addS K _ (nv _ (16 * 0) 8, nv _ (16 * 0 + 8) 8)
  rw [show 16 * 0 = 0 from rfl, Nat.zero_add, hn.1, hn.2]
  rfl
/-- A text's bytes out of its number. -/
theorem nv_digit (s : ByteArray) (a k j : Nat) (h : j < k) : nv s a k / 256 ^ j % 256 = byt s (a + (k - 1 - j)) := by
  induction k generalizing j with
  | zero => omega
  | succ k ih =>
    have hb := byt_lt s (a + k)
    show (nv s a k * 256 + byt s (a + k)) / 256 ^ j % 256 = _
    cases j with
    | zero => rw [Nat.pow_zero, Nat.div_one, show k + 1 - 1 - 0 = k by omega]; omega
    | succ j => rw [Nat.pow_succ, Nat.mul_comm (256 ^ j), ← Nat.div_div_eq_div_mul, show (nv s a k * 256 + byt s (a + k)) / 256 = nv s a k by omega, ih j (by omega), show k + 1 - 1 - (j + 1) = k - 1 - j by omega]
theorem wB_nv (s : ByteArray) (t : Nat) (h : t < 16) : wB (nv s 0 8) (nv s 8 8) t = byt s t := by
  unfold wB
  split
  · rw [nv_digit s 0 8 (7 - t) (by omega), show 0 + (8 - 1 - (7 - t)) = t by omega]
  · rw [nv_digit s 8 8 (15 - t) (by omega), show 8 + (8 - 1 - (15 - t)) = t by omega]
/-- A tag out of the hash and the first block. -/
theorem tag_whole (wk : Nat → Nat) (n : Nat) (nonce : ByteArray) (a b : Nat) :
    wholeS (a ^^^ nv (ciphS wk n (nonce ++ beS 1 4)) 0 8) (b ^^^ nv (ciphS wk n (nonce ++ beS 1 4)) 8 8) = ctrS wk n nonce 1 (wholeS a b) := by
  unfold ctrS
  rw [wholeS_size]
  show strOfNums _ = strOfNums _
  congr 1
  apply List.map_congr_left
  intro t ht
  have ht := List.mem_range.1 ht
  have e : ctrB wk n nonce 1 (wholeS a b) t = wB a b t ^^^ byt (ciphS wk n (nonce ++ beS 1 4)) t := by
    unfold ctrB
    rw [wholeS_byt a b t ht, show 1 + t / 16 = 1 by omega, show t % 16 = t by omega]
  rw [e, wB_sum, wB_nv _ t ht]
end Go.Proofs.Gd
