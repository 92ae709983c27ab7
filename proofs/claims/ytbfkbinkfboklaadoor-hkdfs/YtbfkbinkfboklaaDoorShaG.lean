/-
  The sizes of the digests.
-/
import Derived.Test.YtbfkbinkfboklaaDoorShaF
namespace Go.Proofs.Sha
open Go.RowKit Go.Proofs.Be
theorem rnd_len (k w : Nat) (v : List Nat) : (rnd k w v).length = v.length := by
  unfold rnd; split <;> rfl
theorem rnds_len (ws v : List Nat) (n : Nat) : (rnds ws v n).length = v.length := by
  induction n with
  | zero => rfl
  | succ n ih => show (rnd _ _ _).length = _; rw [rnd_len, ih]
theorem blk_len (s : ByteArray) (v : List Nat) : (blk s v).length = v.length := by
  unfold blk; rw [List.length_zipWith, rnds_len, Nat.min_self]
theorem blks_len (p : ByteArray) (v : List Nat) (n : Nat) : (blks p v n).length = v.length := by
  induction n with
  | zero => rfl
  | succ n ih => show (blk _ _).length = _; rw [blk_len, ih]
theorem flat_len (f : Nat → List UInt8) (k : Nat) (hf : ∀ x, (f x).length = k) (l : List Nat) : (l.flatMap f).length = k * l.length := by
  induction l with
  | nil => rfl
  | cons a l ih => rw [List.flatMap_cons, List.length_append, hf, ih, List.length_cons, Nat.mul_add]; omega
theorem dig256_size (s : ByteArray) : (dig256 s).size = 32 := by
  have h : (st256 s).length = 8 := by unfold st256; rw [blks_len]; rfl
  show ((st256 s).flatMap fun x => beL x 4).length = 32
  rw [flat_len _ 4 (fun x => beL_length x 4), h]
end Go.Proofs.Sha
namespace Go.Proofs.Sha5
open Go.RowKit Go.Proofs.Be
theorem rnd_len (k w : Nat) (v : List Nat) : (rnd k w v).length = v.length := by
  unfold rnd; split <;> rfl
theorem rnds_len (ws v : List Nat) (n : Nat) : (rnds ws v n).length = v.length := by
  induction n with
  | zero => rfl
  | succ n ih => show (rnd _ _ _).length = _; rw [rnd_len, ih]
theorem blk_len (s : ByteArray) (v : List Nat) : (blk s v).length = v.length := by
  unfold blk; rw [List.length_zipWith, rnds_len, Nat.min_self]
theorem blks_len (p : ByteArray) (v : List Nat) (n : Nat) : (blks p v n).length = v.length := by
  induction n with
  | zero => rfl
  | succ n ih => show (blk _ _).length = _; rw [blk_len, ih]
theorem dig384_size (s : ByteArray) : (dig384 s).size = 48 := by
  have h : (st384 s).length = 8 := by unfold st384; rw [blks_len]; rfl
  show (((st384 s).take 6).flatMap fun x => beL (x / 4294967296) 4 ++ beL (x % 4294967296) 4).length = 48
  rw [Sha.flat_len _ 8 (fun x => by rw [List.length_append, beL_length, beL_length]), List.length_take, h]; rfl
end Go.Proofs.Sha5
namespace Go.Proofs.Sha
theorem digS_256 (s : ByteArray) : (digS 256 s).size = 32 := dig256_size s
theorem digS_384 (s : ByteArray) : (digS 384 s).size = 48 := Sha5.dig384_size s
theorem digS_le (b : Int) (s : ByteArray) : (digS b s).size ≤ 48 := by
  by_cases h : b = 256
  · subst h; rw [digS_256]; decide
  · by_cases h' : b = 384
    · subst h'; rw [digS_384]; decide
    · simp [digS, h, h']; decide
theorem digS_size (b : Int) (s : ByteArray) (h : may b = true) : (digS b s).size = (b / 8).toNat := by
  have h : b = 256 ∨ b = 384 := of_decide_eq_true h
  rcases h with rfl | rfl
  · exact digS_256 s
  · exact digS_384 s
end Go.Proofs.Sha
