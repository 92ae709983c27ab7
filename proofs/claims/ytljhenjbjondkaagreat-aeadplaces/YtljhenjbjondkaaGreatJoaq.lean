/-
  AES's schedule and Block as plain functions, of no program.
-/
import Derived.Test.YtljhenjbjondkaaGreatJoaa
import Derived.Laws.BytesArg
namespace Go.Proofs.Aes
open Go.RowKit
/-- The numbers of the rounds. -/
def rc : Nat → Nat
  | 0 => 1
  | q + 1 => dbl (rc q)
theorem rc_lt (q : Nat) : rc q < 256 := by
  induction q with
  | zero => decide
  | succ q ih => exact dbl_lt _ ih
/-- Word i's byte j ahead of the sum with the word of a key's length before. -/
def tmpW (k i : Nat) (f : Nat → Nat) (j : Nat) : Nat :=
  if i % k = 0 then (if j = 0 then bx (f (4 * (i - 1) + 1)) ^^^ rc ((i + k - 1) / k - 1) else bx (f (4 * (i - 1) + (j + 1) % 4)))
  else if 6 < k ∧ i % k = 4 then bx (f (4 * (i - 1) + j)) else f (4 * (i - 1) + j)
def stepW (k i : Nat) (f : Nat → Nat) (j : Nat) : Nat := tmpW k i f j ^^^ f (4 * (i - k) + j)
/-- A key's bytes, and m words behind them. -/
def exS (k : Nat) (key : ByteArray) : Nat → Nat → Nat
  | 0 => byt key
  | m + 1 => fun t => if t / 4 = k + m then stepW k (k + m) (exS k key m) (t % 4) else exS k key m t
theorem tmpW_lt {k i : Nat} {f : Nat → Nat} (h : ∀ t, f t < 256) (j : Nat) : tmpW k i f j < 256 := by
  unfold tmpW; split
  · split
    · exact xor8_lt (bx_lt _ (h _)) (rc_lt _)
    · exact bx_lt _ (h _)
  · split
    · exact bx_lt _ (h _)
    · exact h _
theorem exS_lt (k : Nat) (key : ByteArray) (m t : Nat) : exS k key m t < 256 := by
  induction m generalizing t with
  | zero => exact byt_lt _ _
  | succ m ih =>
    show (if t / 4 = k + m then stepW k (k + m) (exS k key m) (t % 4) else exS k key m t) < 256
    split
    · exact xor8_lt (tmpW_lt ih _) (ih _)
    · exact ih t
/-- AES of a block under a key of 16 or 32 bytes. -/
def encS (key s : ByteArray) : ByteArray := ciphS (exS (key.size / 4) key (3 * (key.size / 4) + 28)) (key.size / 4 + 6) s
def aesOk (key s : ByteArray) : Bool := (decide (key.size = 16) || decide (key.size = 32)) && decide (s.size = 16)
def aesS (key s : ByteArray) : ByteArray := bif aesOk key s then encS key s else ⟨#[]⟩
def aesE (key s : ByteArray) : Int := bif aesOk key s then 0 else 400
theorem ciphS_size (wk : Nat → Nat) (n : Nat) (s : ByteArray) : (ciphS wk n s).size = 16 := by simp [ciphS, strOfNums_size]
theorem encS_size (key s : ByteArray) : (encS key s).size = 16 := ciphS_size _ _ _
theorem encS_16 (key s : ByteArray) (h : key.size = 16) : encS key s = ciphS (exS 4 key 40) 10 s := by unfold encS; rw [h]
theorem encS_32 (key s : ByteArray) (h : key.size = 32) : encS key s = ciphS (exS 8 key 52) 14 s := by unfold encS; rw [h]
end Go.Proofs.Aes
