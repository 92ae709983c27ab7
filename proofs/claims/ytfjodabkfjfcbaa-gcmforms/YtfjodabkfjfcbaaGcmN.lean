/-
  GHASH's product as plain functions: sums go through it.
-/
import Derived.Test.YtfjodabkfjfcbaaGcmM
namespace Go.Proofs.Gcm
open Go.RowKit
theorem xor_two (a b : Nat) : (a ^^^ b) * 2 % 18446744073709551616 = (a * 2 % 18446744073709551616) ^^^ (b * 2 % 18446744073709551616) := by
  have h := Nat.xor_mod_two_pow (a := a <<< 1) (b := b <<< 1) (n := 64)
  rw [← Nat.shiftLeft_xor_distrib] at h
  simp only [Nat.shiftLeft_eq, Nat.pow_one] at h
  exact h
theorem xor_top (a b : Nat) : (a ^^^ b) / 9223372036854775808 = (a / 9223372036854775808) ^^^ (b / 9223372036854775808) := by
  have h := Nat.shiftRight_xor_distrib (a := a) (b := b) (i := 63)
  simp only [Nat.shiftRight_eq_div_pow] at h
  exact h
/-- Two runs and the run of their sum. -/
def Sum3 (p q r : TS) : Prop := r.a = p.a ^^^ q.a ∧ r.b = p.b ^^^ q.b ∧ (p.c = r.c ∧ q.c = r.c) ∧ (p.d = r.d ∧ q.d = r.d) ∧ r.x = p.x ^^^ q.x ∧ r.y = p.y ^^^ q.y
theorem bit_cases {a : Nat} (h : a < 18446744073709551616) : a / 9223372036854775808 = 0 ∨ a / 9223372036854775808 = 1 := by omega
theorem step_sum (i : Nat) {p q r : TS} (hp : Lt6 p) (hq : Lt6 q) (h : Sum3 p q r) : Sum3 (tStep i p) (tStep i q) (tStep i r) := by
  obtain ⟨h1, h2, ⟨h3, h4⟩, ⟨h5, h6⟩, h7, h8⟩ := h
  have hbit : tBit i r = tBit i p ^^^ tBit i q := by
    unfold tBit
    split
    · rw [h2, xor_top]
    · rw [h1, xor_top]
  have hb1 : tBit i p = 0 ∨ tBit i p = 1 := by
    unfold tBit; split
    · exact bit_cases hp.2.1
    · exact bit_cases hp.1
  have hb2 : tBit i q = 0 ∨ tBit i q = 1 := by
    unfold tBit; split
    · exact bit_cases hq.2.1
    · exact bit_cases hq.1
  refine ⟨?_, ?_, ⟨?_, ?_⟩, ⟨?_, ?_⟩, ?_, ?_⟩
  · show (if 63 < i then r.a else r.a * 2 % 18446744073709551616) = (if 63 < i then p.a else p.a * 2 % 18446744073709551616) ^^^ (if 63 < i then q.a else q.a * 2 % 18446744073709551616)
    split
    · exact h1
    · rw [h1, xor_two]
  · show (if 63 < i then r.b * 2 % 18446744073709551616 else r.b) = (if 63 < i then p.b * 2 % 18446744073709551616 else p.b) ^^^ (if 63 < i then q.b * 2 % 18446744073709551616 else q.b)
    split
    · rw [h2, xor_two]
    · exact h2
  · show (if p.d % 2 = 1 then (p.c / 2) ^^^ 16212958658533785600 else p.c / 2) = (if r.d % 2 = 1 then (r.c / 2) ^^^ 16212958658533785600 else r.c / 2)
    rw [h3, h5]
  · show (if q.d % 2 = 1 then (q.c / 2) ^^^ 16212958658533785600 else q.c / 2) = (if r.d % 2 = 1 then (r.c / 2) ^^^ 16212958658533785600 else r.c / 2)
    rw [h4, h6]
  · show p.d / 2 + p.c % 2 * 9223372036854775808 = r.d / 2 + r.c % 2 * 9223372036854775808
    rw [h3, h5]
  · show q.d / 2 + q.c % 2 * 9223372036854775808 = r.d / 2 + r.c % 2 * 9223372036854775808
    rw [h4, h6]
  · show (if tBit i r = 1 then r.x ^^^ r.c else r.x) = (if tBit i p = 1 then p.x ^^^ p.c else p.x) ^^^ (if tBit i q = 1 then q.x ^^^ q.c else q.x)
    rw [hbit, h7, h3, h4]
    rcases hb1 with e1 | e1 <;> rcases hb2 with e2 | e2 <;> rw [e1, e2]
    · rfl
    · show p.x ^^^ q.x ^^^ r.c = p.x ^^^ (q.x ^^^ r.c)
      rw [Nat.xor_assoc]
    · show p.x ^^^ q.x ^^^ r.c = p.x ^^^ r.c ^^^ q.x
      rw [Nat.xor_assoc, Nat.xor_assoc, Nat.xor_comm q.x]
    · show p.x ^^^ q.x = p.x ^^^ r.c ^^^ (q.x ^^^ r.c)
      rw [Nat.xor_assoc p.x, ← Nat.xor_assoc r.c, Nat.xor_comm r.c q.x, Nat.xor_assoc q.x, Nat.xor_self, Nat.xor_zero]
  · show (if tBit i r = 1 then r.y ^^^ r.d else r.y) = (if tBit i p = 1 then p.y ^^^ p.d else p.y) ^^^ (if tBit i q = 1 then q.y ^^^ q.d else q.y)
    rw [hbit, h8, h5, h6]
    rcases hb1 with e1 | e1 <;> rcases hb2 with e2 | e2 <;> rw [e1, e2]
    · rfl
    · show p.y ^^^ q.y ^^^ r.d = p.y ^^^ (q.y ^^^ r.d)
      rw [Nat.xor_assoc]
    · show p.y ^^^ q.y ^^^ r.d = p.y ^^^ r.d ^^^ q.y
      rw [Nat.xor_assoc, Nat.xor_assoc, Nat.xor_comm q.y]
    · show p.y ^^^ q.y = p.y ^^^ r.d ^^^ (q.y ^^^ r.d)
      rw [Nat.xor_assoc p.y, ← Nat.xor_assoc r.d, Nat.xor_comm r.d q.y, Nat.xor_assoc q.y, Nat.xor_self, Nat.xor_zero]
theorem run_sum {p q r : TS} (hp : Lt6 p) (hq : Lt6 q) (h : Sum3 p q r) (i : Nat) : Sum3 (tRun p i) (tRun q i) (tRun r i) := by
  induction i with
  | zero => exact h
  | succ i ih => exact step_sum i (tRun_lt p hp i) (tRun_lt q hq i) ih
/-- A product of a sum is the products' sum. -/
theorem mul_sum (a b a' b' c d : Nat) (ha : a < 18446744073709551616) (hb : b < 18446744073709551616) (ha' : a' < 18446744073709551616) (hb' : b' < 18446744073709551616) (hc : c < 18446744073709551616) (hd : d < 18446744073709551616) :
    mulX (a ^^^ a') (b ^^^ b') c d = mulX a b c d ^^^ mulX a' b' c d ∧ mulY (a ^^^ a') (b ^^^ b') c d = mulY a b c d ^^^ mulY a' b' c d := by
  have z : (0 : Nat) < 18446744073709551616 := by decide
  have h := run_sum (p := ⟨a, b, c, d, 0, 0⟩) (q := ⟨a', b', c, d, 0, 0⟩) (r := ⟨a ^^^ a', b ^^^ b', c, d, 0, 0⟩) ⟨ha, hb, hc, hd, z, z⟩ ⟨ha', hb', hc, hd, z, z⟩ ⟨rfl, rfl, ⟨rfl, rfl⟩, ⟨rfl, rfl⟩, (Nat.xor_zero 0).symm, (Nat.xor_zero 0).symm⟩ 128
  exact ⟨h.2.2.2.2.1, h.2.2.2.2.2⟩
end Go.Proofs.Gcm
