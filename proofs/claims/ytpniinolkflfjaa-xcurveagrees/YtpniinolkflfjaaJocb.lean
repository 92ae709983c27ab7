/-
  For layer 10's laws: a text's bytes in a row of 32. Of no program.
-/
import Derived.Test.YtpniinolkflfjaaJoby
namespace Go.Proofs.Xw
open Go.RowKit
open Go.Proofs.Xu
open Go.Proofs.Xv
open Go.Proofs.Aes (byt byt_lt get_byt)
/-- A text's bytes, noughts behind them. -/
def ka (k : ByteArray) (t : Nat) : Nat := if t < k.size then byt k t else 0
/-- The first i of them. -/
def kb (k : ByteArray) (i t : Nat) : Nat := if t < i ∧ t < k.size then byt k t else 0
theorem ka_lt (k : ByteArray) (t : Nat) : ka k t < 256 := by
  unfold ka
  split
  · exact byt_lt k t
  · decide
theorem kb_zero (k : ByteArray) (t : Nat) : kb k 0 t = 0 := by unfold kb; rw [if_neg (by omega)]
theorem kb_end (k : ByteArray) (t : Nat) (h : t < 32) : kb k 32 t = ka k t := by
  unfold kb ka
  by_cases hs : t < k.size
  · rw [if_pos ⟨h, hs⟩, if_pos hs]
  · rw [if_neg (by omega), if_neg hs]
theorem kb_yes (k : ByteArray) {i : Nat} (hi : i < k.size) (t : Nat) : (if t = i then byt k i else kb k i t) = kb k (i + 1) t := by
  unfold kb
  by_cases h : t = i
  · rw [if_pos h, if_pos (by omega), h]
  · rw [if_neg h]
    by_cases h2 : t < i ∧ t < k.size
    · rw [if_pos h2, if_pos (by omega)]
    · rw [if_neg h2, if_neg (by omega)]
theorem kb_no (k : ByteArray) {i : Nat} (hi : ¬ i < k.size) (t : Nat) : kb k i t = kb k (i + 1) t := by
  unfold kb
  by_cases h2 : t < i ∧ t < k.size
  · rw [if_pos h2, if_pos (by omega)]
  · rw [if_neg h2, if_neg (by omega)]
/-- Bytes 255 so far. -/
def fb (i t : Nat) : Nat := if t < i then 255 else 0
theorem fb_zero (t : Nat) : fb 0 t = 0 := by unfold fb; rw [if_neg (by omega)]
theorem fb_next (i t : Nat) : (if t = i then 255 else fb i t) = fb (i + 1) t := by
  unfold fb
  by_cases h : t = i
  · rw [if_pos h, if_pos (by omega)]
  · rw [if_neg h]
    by_cases h2 : t < i
    · rw [if_pos h2, if_pos (by omega)]
    · rw [if_neg h2, if_neg (by omega)]
theorem fb_top (x t : Nat) (h : t < 32) : (if t = 31 then 127 else if t = 0 then x else fb 32 t) = pA x t := by
  unfold fb pA
  by_cases h0 : t = 0
  · rw [if_neg (by omega), if_pos h0, if_pos h0]
  · rw [if_neg h0, if_neg h0]
    by_cases h1 : t = 31
    · rw [if_pos h1, if_pos h1]
    · rw [if_neg h1, if_neg h1, if_pos h]
theorem fb_top2 (x t : Nat) (h : t < 32) : (if t = 0 then x else if t = 31 then 127 else fb 32 t) = pA x t := by
  unfold fb pA
  by_cases h0 : t = 0
  · rw [if_pos h0, if_pos h0]
  · rw [if_neg h0, if_neg h0]
    by_cases h1 : t = 31
    · rw [if_pos h1, if_pos h1]
    · rw [if_neg h1, if_neg h1, if_pos h]
theorem wrap_y {q y : Nat} (hy : 236 + q = y) (hq : q < 2) : wrap64 (236 + (q : Int)) = (y : Int) := by unfold wrap64; omega
theorem size_more (A : Nat → Nat) (b : UInt8) : (tx A ++ ⟨#[b]⟩).size = 33 := by
  rw [ByteArray.size_append, tx_size]; rfl
theorem mod19 (a : Int) : ∃ x : Nat, x < 19 ∧ (IntKind.u64.wrap a).tmod 19 = (x : Int) := by
  have h : IntKind.u64.wrap a = a % 18446744073709551616 := rfl
  refine ⟨((a % 18446744073709551616) % 19).toNat, by omega, ?_⟩
  rw [h, Int.tmod_eq_emod_of_nonneg (by omega)]
  omega
theorem mask1 (a : Int) : ∃ z : Nat, z < 2 ∧ bits .and .i64 a 1 = (z : Int) := by
  have h := Lw.and_of a 1 (by decide)
  exact ⟨_, by have : ((a % 18446744073709551616).toNat &&& 1) ≤ 1 := Nat.and_le_right; omega, h⟩
theorem xor128_nat : ∀ n : Fin 256, (n.val ^^^ 128) < 256 ∧ (n.val ^^^ 128) % 128 = n.val % 128 := by decide +kernel
theorem xor128 {n : Nat} (h : n < 256) : ∃ v : Nat, v < 256 ∧ v % 128 = n % 128 ∧ bits .xor .u8 (n : Int) 128 = (v : Int) := by
  refine ⟨n ^^^ 128, (xor128_nat ⟨n, h⟩).1, (xor128_nat ⟨n, h⟩).2, ?_⟩
  exact u8_xor_nat n 128 h (by decide)
/-- One byte put in another's place. -/
def at_ (A : Nat → Nat) (j v t : Nat) : Nat := if t = j then v else A t
theorem at_lt {A : Nat → Nat} (hA : ∀ t, A t < 256) {j v : Nat} (hv : v < 256) (t : Nat) : at_ A j v t < 256 := by
  unfold at_
  split
  · exact hv
  · exact hA t
theorem uX_at {A : Nat → Nat} (hA : ∀ t, A t < 256) {v : Nat} (hv : v < 256) (h : v % 128 = A 31 % 128) : uX (tx (at_ A 31 v)) = uX (tx A) :=
  uX_same (at_lt hA hv) hA (by unfold at_; rw [if_pos rfl, h]) (fun t ht => by unfold at_; rw [if_neg (by omega)])
theorem small_z {k : ByteArray} {z : Nat} (hk : k.size = 32) (hz : z < 2) : shE k (tx (sA z)) = 1001 := by
  match z, hz with
  | 0, _ => exact (small_0 hk).2
  | 1, _ => exact (small_1 hk).2
theorem small_y {k : ByteArray} {y : Nat} (hk : k.size = 32) (hy : y = 236 ∨ y = 237) : shE k (tx (pA y)) = 1001 := by
  rcases hy with rfl | rfl
  · exact (small_m hk).2
  · exact (small_p hk).2
theorem cut_form (A : Nat → Nat) (u : ByteArray) : shE (Lw.pieceS A 0 31) u = 1000 := (sh_form1 (by rw [Lw.pieceS_size]; decide)).2
theorem mask7 (a : Int) : ∃ m : Nat, m < 8 ∧ bits .and .i64 a 7 = (m : Int) := by
  have h := Lw.and_of a 7 (by decide)
  exact ⟨_, by have : ((a % 18446744073709551616).toNat &&& 7) ≤ 7 := Nat.and_le_right; omega, h⟩
theorem low_nat : ∀ n : Fin 256, ∀ m : Fin 8, (n.val ^^^ m.val) < 256 ∧ (n.val ^^^ m.val) / 8 = n.val / 8 := by decide +kernel
theorem xor_low {n m : Nat} (h : n < 256) (hm : m < 8) : ∃ v : Nat, v < 256 ∧ v / 8 = n / 8 ∧ bits .xor .u8 (n : Int) (m : Int) = (v : Int) :=
  ⟨n ^^^ m, (low_nat ⟨n, h⟩ ⟨m, hm⟩).1, (low_nat ⟨n, h⟩ ⟨m, hm⟩).2, u8_xor_nat n m h (by omega)⟩
theorem shl7 {z : Nat} (h : z < 2) : ∃ k : Nat, (k = 0 ∨ k = 128) ∧ (z : Int) * 128 % 256 = (k : Int) := by
  match z, h with
  | 0, _ => exact ⟨0, .inl rfl, rfl⟩
  | 1, _ => exact ⟨128, .inr rfl, rfl⟩
theorem shl6 {z : Nat} (h : z < 2) : ∃ k : Nat, (k = 0 ∨ k = 64) ∧ (z : Int) * 64 % 256 = (k : Int) := by
  match z, h with
  | 0, _ => exact ⟨0, .inl rfl, rfl⟩
  | 1, _ => exact ⟨64, .inr rfl, rfl⟩
theorem xor64_nat : ∀ n : Fin 256, (n.val ^^^ 64) < 256 ∧ (n.val ^^^ 64) % 64 = n.val % 64 := by decide +kernel
theorem xor_top {n k : Nat} (h : n < 256) (hk : k = 0 ∨ k = 128) : ∃ v : Nat, v < 256 ∧ v % 64 = n % 64 ∧ bits .xor .u8 (n : Int) (k : Int) = (v : Int) := by
  rcases hk with rfl | rfl
  · exact ⟨n, h, rfl, by rw [u8_xor_nat n 0 h (by decide), Nat.xor_zero]⟩
  · have := xor128_nat ⟨n, h⟩
    exact ⟨n ^^^ 128, this.1, by have := this.2; simp only at this; omega, u8_xor_nat n 128 h (by decide)⟩
theorem xor_top2 {n k : Nat} (h : n < 256) (hk : k = 0 ∨ k = 64) : ∃ v : Nat, v < 256 ∧ v % 64 = n % 64 ∧ bits .xor .u8 (n : Int) (k : Int) = (v : Int) := by
  rcases hk with rfl | rfl
  · exact ⟨n, h, rfl, by rw [u8_xor_nat n 0 h (by decide), Nat.xor_zero]⟩
  · exact ⟨n ^^^ 64, (xor64_nat ⟨n, h⟩).1, (xor64_nat ⟨n, h⟩).2, u8_xor_nat n 64 h (by decide)⟩
theorem kE_turned {A : Nat → Nat} (hA : ∀ t, A t < 256) {v q : Nat} (hv : v < 256) (hq : q < 256) (h0 : v / 8 = A 0 / 8) (h31 : q % 64 = A 31 % 64) : kE (tx (at_ (at_ A 0 v) 31 q)) = kE (tx A) :=
  kE_same (at_lt (at_lt hA hv) hq) hA (by unfold at_; rw [if_neg (by decide), if_pos rfl, h0]) (by unfold at_; rw [if_pos rfl, h31]) (fun t h1 h2 => by unfold at_; rw [if_neg (by omega), if_neg (by omega)])
end Go.Proofs.Xw
