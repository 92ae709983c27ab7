/-
  GHASH's product as plain functions on natural numbers, of no program.
-/
import Derived.WalkKit
import Derived.WalkSpells
import Derived.PlainAid
import Derived.Lib.Hide
import Derived.Laws.BitsAllLaws
namespace Go.Proofs.Gcm
open Go.RowKit
/-- What a product's loop holds: a factor in two words, the other one, the sum. -/
structure TS where
  a : Nat
  b : Nat
  c : Nat
  d : Nat
  x : Nat
  y : Nat
/-- The bit that round i looks at. -/
def tBit (i : Nat) (s : TS) : Nat := if 63 < i then s.b / 9223372036854775808 else s.a / 9223372036854775808
def tStep (i : Nat) (s : TS) : TS where
  a := if 63 < i then s.a else s.a * 2 % 18446744073709551616
  b := if 63 < i then s.b * 2 % 18446744073709551616 else s.b
  c := if s.d % 2 = 1 then (s.c / 2) ^^^ 16212958658533785600 else s.c / 2
  d := s.d / 2 + s.c % 2 * 9223372036854775808
  x := if tBit i s = 1 then s.x ^^^ s.c else s.x
  y := if tBit i s = 1 then s.y ^^^ s.d else s.y
def tRun (s : TS) : Nat → TS
  | 0 => s
  | i + 1 => tStep i (tRun s i)
def Lt6 (s : TS) : Prop := s.a < 18446744073709551616 ∧ s.b < 18446744073709551616 ∧ s.c < 18446744073709551616 ∧ s.d < 18446744073709551616 ∧ s.x < 18446744073709551616 ∧ s.y < 18446744073709551616
theorem xor64_lt {a b : Nat} (ha : a < 18446744073709551616) (hb : b < 18446744073709551616) : a ^^^ b < 18446744073709551616 := Nat.xor_lt_two_pow (n := 64) ha hb
theorem tStep_lt (i : Nat) (s : TS) (h : Lt6 s) : Lt6 (tStep i s) := by
  obtain ⟨h1, h2, h3, h4, h5, h6⟩ := h
  refine ⟨?_, ?_, ?_, ?_, ?_, ?_⟩
  · show (if 63 < i then s.a else s.a * 2 % 18446744073709551616) < _
    split <;> omega
  · show (if 63 < i then s.b * 2 % 18446744073709551616 else s.b) < _
    split <;> omega
  · show (if s.d % 2 = 1 then (s.c / 2) ^^^ 16212958658533785600 else s.c / 2) < _
    split
    · exact xor64_lt (by omega) (by decide)
    · omega
  · show s.d / 2 + s.c % 2 * 9223372036854775808 < _
    omega
  · show (if tBit i s = 1 then s.x ^^^ s.c else s.x) < _
    split
    · exact xor64_lt h5 h3
    · exact h5
  · show (if tBit i s = 1 then s.y ^^^ s.d else s.y) < _
    split
    · exact xor64_lt h6 h4
    · exact h6
theorem tRun_lt (s : TS) (h : Lt6 s) (i : Nat) : Lt6 (tRun s i) := by
  induction i with
  | zero => exact h
  | succ i ih => exact tStep_lt i _ ih
theorem or_shift (c d : Nat) (hd : d < 18446744073709551616) :
    bits .or .u64 ((d : Int) / 2) ((c : Int) * 9223372036854775808 % 18446744073709551616) = ((d / 2 + c % 2 * 9223372036854775808 : Nat) : Int) := by
  have e1 : (d : Int) / 2 = ((d / 2 : Nat) : Int) := by omega
  have e2 : (c : Int) * 9223372036854775808 % 18446744073709551616 = ((c % 2 * 9223372036854775808 : Nat) : Int) := by omega
  rw [e1, e2, u64_or_nat _ _ (by omega) (by omega), Nat.or_comm, nat_join 63 (c % 2 * 9223372036854775808) (d / 2) (by omega) (by omega), Nat.add_comm]
theorem and_one (d : Nat) (hd : d < 18446744073709551616) : bits .and .u64 (d : Int) 1 = ((d % 2 : Nat) : Int) := by
  have h := u64_and_nat d 1 hd (by decide)
  rw [Nat.and_one_is_mod] at h
  exact h
/-- A product in GHASH's field. -/
def mulX (a b c d : Nat) : Nat := (tRun ⟨a, b, c, d, 0, 0⟩ 128).x
def mulY (a b c d : Nat) : Nat := (tRun ⟨a, b, c, d, 0, 0⟩ 128).y
end Go.Proofs.Gcm
