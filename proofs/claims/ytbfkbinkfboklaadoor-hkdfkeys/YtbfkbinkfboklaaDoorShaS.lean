/-
  A text taken in parts: the state behind its whole blocks, and what is left of it.
-/
import Derived.Test.YtbfkbinkfboklaaDoorShaG
namespace Go.Proofs.Sha
open Go.RowKit Go.Proofs.Be
theorem ext_left (s t : ByteArray) (a b : Nat) (h : b ≤ s.size) : (s ++ t).extract a b = s.extract a b := by
  rw [ByteArray.extract_append, show t.extract (a - s.size) (b - s.size) = ByteArray.empty from ByteArray.extract_eq_empty_iff.mpr (by omega), ByteArray.append_empty]
theorem ext_right (s t : ByteArray) (a b : Nat) (h : s.size ≤ a) : (s ++ t).extract a b = t.extract (a - s.size) (b - s.size) := by
  rw [ByteArray.extract_append, show s.extract a b = ByteArray.empty from ByteArray.extract_eq_empty_iff.mpr (by omega), ByteArray.empty_append]
theorem ext_split (s : ByteArray) (k : Nat) (h : k ≤ s.size) : s.extract 0 k ++ s.extract k s.size = s := by
  rw [ByteArray.extract_append_extract, Nat.min_eq_left (by omega), Nat.max_eq_right h]; exact ByteArray.extract_zero_size
theorem ext_take_size (s : ByteArray) (k : Nat) (h : k ≤ s.size) : (s.extract 0 k).size = k := by rw [ByteArray.size_extract]; omega
end Go.Proofs.Sha
namespace Go.Proofs.Sha
open Go.RowKit Go.Proofs.Be
theorem blks_app (s t : ByteArray) (v : List Nat) (n : Nat) (h : 64 * n ≤ s.size) : blks (s ++ t) v n = blks s v n := by
  induction n with
  | zero => rfl
  | succ n ih =>
    show blk ((s ++ t).extract (64 * n) (64 * n + 64)) (blks (s ++ t) v n) = blk (s.extract (64 * n) (64 * n + 64)) (blks s v n)
    rw [ih (by omega), ext_left s t _ _ (by omega)]
theorem blks_behind (s t : ByteArray) (v : List Nat) (n m : Nat) (h : s.size = 64 * n) : blks (s ++ t) v (n + m) = blks t (blks s v n) m := by
  induction m with
  | zero => exact blks_app s t v n (by omega)
  | succ m ih =>
    show blk ((s ++ t).extract (64 * (n + m)) (64 * (n + m) + 64)) (blks (s ++ t) v (n + m)) = blk (t.extract (64 * m) (64 * m + 64)) (blks t (blks s v n) m)
    rw [ih, ext_right s t _ _ (by omega), show 64 * (n + m) - s.size = 64 * m by omega, show 64 * (n + m) + 64 - s.size = 64 * m + 64 by omega]
/-- The state behind the whole blocks of s, from v on. -/
def stv (v : List Nat) (s : ByteArray) : List Nat := blks s v (s.size / 64)
/-- What is left of s behind its whole blocks. -/
def rest (s : ByteArray) : ByteArray := s.extract (64 * (s.size / 64)) s.size
theorem rest_size (s : ByteArray) : (rest s).size = s.size % 64 := by unfold rest; rw [ByteArray.size_extract]; omega
theorem rest_lt (s : ByteArray) : (rest s).size < 64 := by rw [rest_size]; omega
theorem rest_split (s : ByteArray) : s.extract 0 (64 * (s.size / 64)) ++ rest s = s := ext_split s _ (by omega)
theorem rest_small (s : ByteArray) (h : s.size < 64) : rest s = s := by
  unfold rest; rw [show s.size / 64 = 0 by omega]; exact ByteArray.extract_zero_size
theorem stv_small (v : List Nat) (s : ByteArray) (h : s.size < 64) : stv v s = v := by
  unfold stv; rw [show s.size / 64 = 0 by omega]; rfl
theorem whole_size (s : ByteArray) : (s.extract 0 (64 * (s.size / 64))).size = 64 * (s.size / 64) := ext_take_size s _ (by omega)
theorem stv_whole (v : List Nat) (s : ByteArray) : blks (s.extract 0 (64 * (s.size / 64))) v (s.size / 64) = stv v s := by
  unfold stv
  have h := blks_app (s.extract 0 (64 * (s.size / 64))) (rest s) v (s.size / 64) (by rw [whole_size]; omega)
  rw [rest_split] at h
  exact h.symm
/-- Whatever follows: the blocks behind s go on from s's state and s's rest. -/
theorem blks_on (v : List Nat) (s t : ByteArray) (m : Nat) : blks (s ++ t) v (s.size / 64 + m) = blks (rest s ++ t) (stv v s) m := by
  have h := blks_behind (s.extract 0 (64 * (s.size / 64))) (rest s ++ t) v (s.size / 64) m (whole_size s)
  rw [← ByteArray.append_assoc, rest_split, stv_whole] at h
  exact h
theorem stv_on (v : List Nat) (s t : ByteArray) : stv v (s ++ t) = stv (stv v s) (rest s ++ t) := by
  have h := blks_on v s t ((rest s ++ t).size / 64)
  rw [← show (s ++ t).size / 64 = s.size / 64 + (rest s ++ t).size / 64 by rw [ByteArray.size_append, ByteArray.size_append, rest_size]; omega] at h
  exact h
theorem rest_pre (W U : ByteArray) (q : Nat) (h : W.size = 64 * q) : rest (W ++ U) = rest U := by
  have hz : (W ++ U).size = 64 * q + U.size := by rw [ByteArray.size_append, h]
  unfold rest
  rw [hz, ext_right _ _ _ _ (by rw [h]; omega), h]
  congr 1 <;> omega
theorem rest_on (s t : ByteArray) : rest (s ++ t) = rest (rest s ++ t) := by
  have hs : s ++ t = s.extract 0 (64 * (s.size / 64)) ++ (rest s ++ t) := by rw [← ByteArray.append_assoc, rest_split]
  exact (congrArg rest hs).trans (rest_pre _ _ _ (whole_size s))
/-- A whole block alone. -/
theorem stv_block (v : List Nat) (s : ByteArray) (h : s.size = 64) : stv v s = blk s v := by
  unfold stv
  rw [show s.size / 64 = 1 by omega]
  show blk (s.extract (64 * 0) (64 * 0 + 64)) v = blk s v
  rw [show 64 * 0 + 64 = s.size by omega, show 64 * 0 = 0 from rfl, ByteArray.extract_zero_size]
theorem rest_block (s : ByteArray) (h : s.size = 64) : rest s = ⟨#[]⟩ := by
  unfold rest
  rw [show s.size / 64 = 1 by omega, show 64 * 1 = s.size by omega]
  exact ByteArray.extract_same
/-- The rest with what stands behind a text: the 1, noughts, the length. -/
def tailS (s : ByteArray) : ByteArray := rest s ++ (⟨#[128]⟩ ++ zS ((64 - (s.size + 9) % 64) % 64 + 0) ++ beS (8 * s.size) 8)
theorem tailS_size (s : ByteArray) : (tailS s).size = s.size % 64 + (1 + ((64 - (s.size + 9) % 64) % 64 + 0) + 8) := by
  unfold tailS
  rw [ByteArray.size_append, ByteArray.size_append, ByteArray.size_append, zS_size, beS_size, rest_size]; rfl
theorem tailS_one (s : ByteArray) (h : s.size % 64 + 9 ≤ 64) : (tailS s).size = 64 := by rw [tailS_size]; omega
theorem tailS_two (s : ByteArray) (h : 64 < s.size % 64 + 9) : (tailS s).size = 2 * 64 := by rw [tailS_size]; omega
theorem st256_tail (s : ByteArray) : st256 s = stv (stv iv256 s) (tailS s) := by
  have hp : pad256 s = s ++ (⟨#[128]⟩ ++ zS ((64 - (s.size + 9) % 64) % 64 + 0) ++ beS (8 * s.size) 8) := by
    unfold pad256; simp only [ByteArray.append_assoc]
  show stv iv256 (pad256 s) = _
  rw [hp, stv_on]; rfl
end Go.Proofs.Sha
namespace Go.Proofs.Sha5
open Go.RowKit Go.Proofs.Be
open Go.Proofs.Sha (ext_left ext_right ext_split ext_take_size)
theorem blks_app (s t : ByteArray) (v : List Nat) (n : Nat) (h : 128 * n ≤ s.size) : blks (s ++ t) v n = blks s v n := by
  induction n with
  | zero => rfl
  | succ n ih =>
    show blk ((s ++ t).extract (128 * n) (128 * n + 128)) (blks (s ++ t) v n) = blk (s.extract (128 * n) (128 * n + 128)) (blks s v n)
    rw [ih (by omega), ext_left s t _ _ (by omega)]
theorem blks_behind (s t : ByteArray) (v : List Nat) (n m : Nat) (h : s.size = 128 * n) : blks (s ++ t) v (n + m) = blks t (blks s v n) m := by
  induction m with
  | zero => exact blks_app s t v n (by omega)
  | succ m ih =>
    show blk ((s ++ t).extract (128 * (n + m)) (128 * (n + m) + 128)) (blks (s ++ t) v (n + m)) = blk (t.extract (128 * m) (128 * m + 128)) (blks t (blks s v n) m)
    rw [ih, ext_right s t _ _ (by omega), show 128 * (n + m) - s.size = 128 * m by omega, show 128 * (n + m) + 128 - s.size = 128 * m + 128 by omega]
/-- The state behind the whole blocks of s, from v on. -/
def stv (v : List Nat) (s : ByteArray) : List Nat := blks s v (s.size / 128)
/-- What is left of s behind its whole blocks. -/
def rest (s : ByteArray) : ByteArray := s.extract (128 * (s.size / 128)) s.size
theorem rest_size (s : ByteArray) : (rest s).size = s.size % 128 := by unfold rest; rw [ByteArray.size_extract]; omega
theorem rest_lt (s : ByteArray) : (rest s).size < 128 := by rw [rest_size]; omega
theorem rest_split (s : ByteArray) : s.extract 0 (128 * (s.size / 128)) ++ rest s = s := ext_split s _ (by omega)
theorem rest_small (s : ByteArray) (h : s.size < 128) : rest s = s := by
  unfold rest; rw [show s.size / 128 = 0 by omega]; exact ByteArray.extract_zero_size
theorem stv_small (v : List Nat) (s : ByteArray) (h : s.size < 128) : stv v s = v := by
  unfold stv; rw [show s.size / 128 = 0 by omega]; rfl
theorem whole_size (s : ByteArray) : (s.extract 0 (128 * (s.size / 128))).size = 128 * (s.size / 128) := ext_take_size s _ (by omega)
theorem stv_whole (v : List Nat) (s : ByteArray) : blks (s.extract 0 (128 * (s.size / 128))) v (s.size / 128) = stv v s := by
  unfold stv
  have h := blks_app (s.extract 0 (128 * (s.size / 128))) (rest s) v (s.size / 128) (by rw [whole_size]; omega)
  rw [rest_split] at h
  exact h.symm
/-- Whatever follows: the blocks behind s go on from s's state and s's rest. -/
theorem blks_on (v : List Nat) (s t : ByteArray) (m : Nat) : blks (s ++ t) v (s.size / 128 + m) = blks (rest s ++ t) (stv v s) m := by
  have h := blks_behind (s.extract 0 (128 * (s.size / 128))) (rest s ++ t) v (s.size / 128) m (whole_size s)
  rw [← ByteArray.append_assoc, rest_split, stv_whole] at h
  exact h
theorem stv_on (v : List Nat) (s t : ByteArray) : stv v (s ++ t) = stv (stv v s) (rest s ++ t) := by
  have h := blks_on v s t ((rest s ++ t).size / 128)
  rw [← show (s ++ t).size / 128 = s.size / 128 + (rest s ++ t).size / 128 by rw [ByteArray.size_append, ByteArray.size_append, rest_size]; omega] at h
  exact h
theorem rest_pre (W U : ByteArray) (q : Nat) (h : W.size = 128 * q) : rest (W ++ U) = rest U := by
  have hz : (W ++ U).size = 128 * q + U.size := by rw [ByteArray.size_append, h]
  unfold rest
  rw [hz, ext_right _ _ _ _ (by rw [h]; omega), h]
  congr 1 <;> omega
theorem rest_on (s t : ByteArray) : rest (s ++ t) = rest (rest s ++ t) := by
  have hs : s ++ t = s.extract 0 (128 * (s.size / 128)) ++ (rest s ++ t) := by rw [← ByteArray.append_assoc, rest_split]
  exact (congrArg rest hs).trans (rest_pre _ _ _ (whole_size s))
/-- A whole block alone. -/
theorem stv_block (v : List Nat) (s : ByteArray) (h : s.size = 128) : stv v s = blk s v := by
  unfold stv
  rw [show s.size / 128 = 1 by omega]
  show blk (s.extract (128 * 0) (128 * 0 + 128)) v = blk s v
  rw [show 128 * 0 + 128 = s.size by omega, show 128 * 0 = 0 from rfl, ByteArray.extract_zero_size]
theorem rest_block (s : ByteArray) (h : s.size = 128) : rest s = ⟨#[]⟩ := by
  unfold rest
  rw [show s.size / 128 = 1 by omega, show 128 * 1 = s.size by omega]
  exact ByteArray.extract_same
/-- The rest with what stands behind a text: the 1, noughts, the length. -/
def tailS (s : ByteArray) : ByteArray := rest s ++ (⟨#[128]⟩ ++ zS ((128 - (s.size + 17) % 128) % 128 + 8) ++ beS (8 * s.size) 8)
theorem tailS_size (s : ByteArray) : (tailS s).size = s.size % 128 + (1 + ((128 - (s.size + 17) % 128) % 128 + 8) + 8) := by
  unfold tailS
  rw [ByteArray.size_append, ByteArray.size_append, ByteArray.size_append, zS_size, beS_size, rest_size]; rfl
theorem tailS_one (s : ByteArray) (h : s.size % 128 + 17 ≤ 128) : (tailS s).size = 128 := by rw [tailS_size]; omega
theorem tailS_two (s : ByteArray) (h : 128 < s.size % 128 + 17) : (tailS s).size = 2 * 128 := by rw [tailS_size]; omega
theorem st384_tail (s : ByteArray) : st384 s = stv (stv iv384 s) (tailS s) := by
  have hp : pad384 s = s ++ (⟨#[128]⟩ ++ zS ((128 - (s.size + 17) % 128) % 128 + 8) ++ beS (8 * s.size) 8) := by
    unfold pad384; simp only [ByteArray.append_assoc]
  show stv iv384 (pad384 s) = _
  rw [hp, stv_on]; rfl
end Go.Proofs.Sha5
