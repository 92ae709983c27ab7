/-
  GCM as plain functions: what halberdlaw5's laws compare: sums of hashes, a sealed text byte by byte, forms.
-/
import Derived.Test.YtfjodabkfjfcbaaGcmO
import Derived.Test.YtfjodabkfjfcbaaGcmP
namespace Go.Proofs.Gcm
open Go.RowKit
open Go.Proofs.Aes (byt byt_lt get_byt ciphS encS)
open Go.Proofs.Be (beS)
theorem xor_bytes (a b x y : Nat) (hb : b < 256) (hy : y < 256) : (a * 256 + b) ^^^ (x * 256 + y) = (a ^^^ x) * 256 + (b ^^^ y) := by
  have h1 := Nat.xor_div_two_pow (a := a * 256 + b) (b := x * 256 + y) (n := 8)
  have h2 := Nat.xor_mod_two_pow (a := a * 256 + b) (b := x * 256 + y) (n := 8)
  rw [show (2 : Nat) ^ 8 = 256 from rfl] at h1 h2
  rw [show (a * 256 + b) / 256 = a by omega, show (x * 256 + y) / 256 = x by omega] at h1
  rw [show (a * 256 + b) % 256 = b by omega, show (x * 256 + y) % 256 = y by omega] at h2
  omega
theorem nv_sum (s t u : ByteArray) (h : ∀ i, byt u i = byt s i ^^^ byt t i) (a k : Nat) : nv u a k = nv s a k ^^^ nv t a k := by
  induction k with
  | zero => exact (Nat.xor_zero 0).symm
  | succ k ih =>
    show nv u a k * 256 + byt u (a + k) = (nv s a k * 256 + byt s (a + k)) ^^^ (nv t a k * 256 + byt t (a + k))
    rw [xor_bytes _ _ _ _ (byt_lt _ _) (byt_lt _ _), ih, h]
theorem digit_sum (a b j : Nat) : (a ^^^ b) / 256 ^ j % 256 = (a / 256 ^ j % 256) ^^^ (b / 256 ^ j % 256) := by
  have e : (256 : Nat) ^ j = 2 ^ (8 * j) := by rw [Nat.pow_mul]
  rw [e, Nat.xor_div_two_pow]
  exact Nat.xor_mod_two_pow (n := 8)
theorem wB_lt (a b t : Nat) : wB a b t < 256 := by unfold wB; split <;> exact Nat.mod_lt _ (by decide)
theorem wB_sum (a b p q t : Nat) : wB (a ^^^ p) (b ^^^ q) t = wB a b t ^^^ wB p q t := by
  unfold wB; split <;> exact digit_sum _ _ _
theorem wholeS_byt (a b t : Nat) (h : t < 16) : byt (wholeS a b) t = wB a b t := byt_nums (wB a b) 16 t h (wB_lt a b t)
/-- The hash of a sum is the sum of the hashes. -/
theorem ghS_sum (h s t u : ByteArray) (hs : s.size = u.size) (ht : t.size = u.size) (hu : ∀ i, byt u i = byt s i ^^^ byt t i) (i : Nat) (hi : i < 16) : byt (ghS h u) i = byt (ghS h s) i ^^^ byt (ghS h t) i := by
  unfold ghS
  rw [wholeS_byt _ _ _ hi, wholeS_byt _ _ _ hi, wholeS_byt _ _ _ hi, hs, ht]
  have m := gSum_sum (nv h 0 8) (nv h 8 8) s t u (nv64 h 0) (nv64 h 8) (fun a => nv_sum s t u hu a 8) (u.size / 16)
  rw [m.1, m.2, wB_sum]
theorem byt_out (s : ByteArray) (t : Nat) (h : s.size ≤ t) : byt s t = 0 := by
  unfold byt
  rw [List.getD_eq_getElem?_getD, List.getElem?_eq_none (by simpa using h)]; rfl
/-- A sealed text's byte ahead of the tag. -/
theorem sealS_byt (key nonce aad s : ByteArray) (t : Nat) (h : t < s.size) : byt (sealS key nonce aad s) t = ctrB (wkS key) (nR key) nonce 2 s t := by
  have h1 : byt ((sealS key nonce aad s).extract 0 (0 + s.size)) t = byt (sealS key nonce aad s) (0 + t) := byt_extract _ 0 s.size t h
  rw [Nat.zero_add, Nat.zero_add, sealS_head] at h1
  rw [← h1]
  unfold ctrS
  exact byt_nums (ctrB (wkS key) (nR key) nonce 2 s) s.size t h (ctrB_lt _ _ _ _ _ _)
/-- Under one nonce: two texts' sum is their plaintexts' sum. -/
theorem seal_twins (key nonce a b s t : ByteArray) (i : Nat) (h : i < s.size) (h' : i < t.size) : byt (sealS key nonce a s) i ^^^ byt (sealS key nonce b t) i = byt s i ^^^ byt t i := by
  rw [sealS_byt _ _ _ _ _ h, sealS_byt _ _ _ _ _ h']
  unfold ctrB
  rw [xor4, Nat.xor_self, Nat.xor_zero]
theorem encS_wk (key s : ByteArray) : encS key s = ciphS (wkS key) (nR key) s := rfl
/-- A sealed text is its plaintext under blocks of its nonce, counted from 2 on. -/
theorem seal_part (key nonce aad s : ByteArray) (m j : Nat) (hj : j < 16) (h : 16 * m + j < s.size) :
    byt (sealS key nonce aad s) (16 * m + j) = byt s (16 * m + j) ^^^ byt (encS key (nonce ++ beS (2 + m) 4)) j := by
  rw [sealS_byt _ _ _ _ _ h, encS_wk]
  unfold ctrB
  rw [show (16 * m + j) / 16 = m by omega, show (16 * m + j) % 16 = j by omega]
theorem beS_small (k : Nat) (h : k < 65536) : beS k 4 = ⟨#[0, 0, UInt8.ofNat (k / 256), UInt8.ofNat (k % 256)]⟩ := by
  unfold Be.beS
  simp only [Be.beL, List.nil_append, List.cons_append]
  rw [show k / 256 / 256 / 256 = 0 by omega, show k / 256 / 256 = 0 by omega, Nat.mod_eq_of_lt (show k / 256 < 256 by omega)]
  rfl
/-- Products with nought. -/
theorem tStep_zero (i : Nat) {s : TS} (h : s.c = 0 ∧ s.d = 0 ∧ s.x = 0 ∧ s.y = 0) : (tStep i s).c = 0 ∧ (tStep i s).d = 0 ∧ (tStep i s).x = 0 ∧ (tStep i s).y = 0 := by
  obtain ⟨h1, h2, h3, h4⟩ := h
  unfold tStep
  simp only [h1, h2, h3, h4]
  refine ⟨by decide, by decide, ?_, ?_⟩ <;> (split <;> rfl)
theorem tRun_zero {s : TS} (h : s.c = 0 ∧ s.d = 0 ∧ s.x = 0 ∧ s.y = 0) (i : Nat) : (tRun s i).c = 0 ∧ (tRun s i).d = 0 ∧ (tRun s i).x = 0 ∧ (tRun s i).y = 0 := by
  induction i with
  | zero => exact h
  | succ i ih => exact tStep_zero i ih
theorem mul_zero (a b : Nat) : mulX a b 0 0 = 0 ∧ mulY a b 0 0 = 0 := by
  have h := tRun_zero (s := ⟨a, b, 0, 0, 0, 0⟩) ⟨rfl, rfl, rfl, rfl⟩ 128
  exact ⟨h.2.2.1, h.2.2.2⟩
theorem gSum_zero (s : ByteArray) (k : Nat) : gSum 0 0 s k = (0, 0) := by
  induction k with
  | zero => rfl
  | succ k ih =>
    show (mulX _ _ 0 0, mulY _ _ 0 0) = (0, 0)
    rw [(mul_zero _ _).1, (mul_zero _ _).2]
theorem ghS_zero (s : ByteArray) : ghS z16 s = z16 := by
  unfold ghS
  rw [show nv z16 0 8 = 0 by decide +kernel, show nv z16 8 8 = 0 by decide +kernel, gSum_zero]
  decide +kernel
/-- Seals and opens by the form alone. -/
theorem gcm_ok {key nonce aad s : ByteArray} (h : gcmOk key nonce aad s 0 = true) : gcmS key nonce aad s = sealS key nonce aad s ∧ gcmE key nonce aad s = 0 := by
  unfold gcmS gcmE; rw [h]; exact ⟨rfl, rfl⟩
theorem gcm_no {key nonce aad s : ByteArray} (h : gcmOk key nonce aad s 0 = false) : gcmS key nonce aad s = ⟨#[]⟩ ∧ gcmE key nonce aad s = 500 := by
  unfold gcmS gcmE; rw [h]; exact ⟨rfl, rfl⟩
theorem gcmOk_of {key nonce aad s : ByteArray} {more : Nat} (hk : key.size = 16 ∨ key.size = 32) (hn : nonce.size = 12) (ha : aad.size ≤ 65536) (hs : s.size ≤ 65536 + more) : gcmOk key nonce aad s more = true := by
  unfold gcmOk keyOk
  rcases hk with hk | hk <;> simp [hk, hn, ha, hs]
theorem gcmOk_iff (key nonce aad s : ByteArray) (more : Nat) : gcmOk key nonce aad s more = true ↔ (key.size = 16 ∨ key.size = 32) ∧ nonce.size = 12 ∧ aad.size ≤ 65536 ∧ s.size ≤ 65536 + more := by
  unfold gcmOk keyOk; simp
theorem open_no {key nonce aad s : ByteArray} (h : gcmOk key nonce aad s 16 = false) : openS key nonce aad s = ⟨#[]⟩ ∧ openE key nonce aad s = 500 := by
  have o : openB key nonce aad s = false := by unfold openB; rw [h]; rfl
  unfold openS openE; rw [o, h]; exact ⟨rfl, rfl⟩
theorem open_short {key nonce aad s : ByteArray} (h : gcmOk key nonce aad s 16 = true) (hs : s.size < 16) : openS key nonce aad s = ⟨#[]⟩ ∧ openE key nonce aad s = 501 := by
  have o : openB key nonce aad s = false := by unfold openB; rw [decide_eq_false (show ¬ 16 ≤ s.size by omega)]; simp
  unfold openS openE; rw [o, h]; exact ⟨rfl, rfl⟩
theorem hash_ok {h s : ByteArray} (hh : h.size = 16) (hs : s.size % 16 = 0) : ghashS h s = ghS h s ∧ ghashE h s = 0 := by
  have o : ghOk h s = true := by unfold ghOk; simp [hh, hs]
  unfold ghashS ghashE; rw [o]; exact ⟨rfl, rfl⟩
theorem hash_no {h s : ByteArray} (n : ¬ (h.size = 16 ∧ s.size % 16 = 0)) : ghashS h s = ⟨#[]⟩ ∧ ghashE h s = 500 := by
  have o : ghOk h s = false := by
    cases hk : ghOk h s with
    | false => rfl
    | true => exact absurd (by simpa [ghOk] using hk) n
  unfold ghashS ghashE; rw [o]; exact ⟨rfl, rfl⟩
end Go.Proofs.Gcm
