/-
  The document's own answer: ChaCha20's words and turns.
-/
import Derived.Test.YtijpfaknbgbphaaProg
import Derived.Test.YtijpfaknbgbphaaAesM
import Derived.Handy
import Derived.BigQuiet
import Derived.Deep.QuietTactic
namespace Go.Proofs.Cha
open Go.RowKit
open Go.Proofs.Aes (byt byt_lt get_byt)
theorem retI {k : IntKind} {a b : Int} (h : a = b) : Ending.returned (.int k a) = .returned (.int k b) := by rw [h]
/-- A word rolled to the left. -/
def rol (k x : Nat) : Nat := (x * 2 ^ k % 4294967296) ||| (x / 2 ^ (32 - k))
theorem or32_lt {a b : Nat} (ha : a < 4294967296) (hb : b < 4294967296) : a ||| b < 4294967296 := Nat.or_lt_two_pow (n := 32) ha hb
theorem xor32_lt {a b : Nat} (ha : a < 4294967296) (hb : b < 4294967296) : a ^^^ b < 4294967296 := Nat.xor_lt_two_pow (n := 32) ha hb
theorem rol_lt (k x : Nat) (hx : x < 4294967296) : rol k x < 4294967296 := or32_lt (Nat.mod_lt _ (by decide)) (Nat.lt_of_le_of_lt (Nat.div_le_self _ _) hx)
set_option maxHeartbeats 400000 in
theorem left_16 (x : Nat) (w : World) (hx : x < 4294967296) :
    Calls Try.prog 54 #[.int .u32 x, .int .i64 16] w fun e w' => e = .returned (.int .u32 (rol 16 x : Nat)) ∧ ∃ n, w' = w.drewN n := by
  go_enter Try.func54, Try.ntmps54
  go_wp2
  go_quiet (fail)
  go_wp2
  go_ret
  refine ⟨retI ?_, nq, rfl⟩
  have h := u32_or_nat (x * 65536 % 4294967296) (x / 65536) (by omega) (by omega)
  rw [show ((x * 65536 % 4294967296 : Nat) : Int) = (x : Int) * 65536 % 4294967296 by omega, show ((x / 65536 : Nat) : Int) = (x : Int) / 65536 by omega] at h
  exact h
set_option maxHeartbeats 400000 in
theorem left_12 (x : Nat) (w : World) (hx : x < 4294967296) :
    Calls Try.prog 54 #[.int .u32 x, .int .i64 12] w fun e w' => e = .returned (.int .u32 (rol 12 x : Nat)) ∧ ∃ n, w' = w.drewN n := by
  go_enter Try.func54, Try.ntmps54
  go_wp2
  go_quiet (fail)
  go_wp2
  go_ret
  refine ⟨retI ?_, nq, rfl⟩
  have h := u32_or_nat (x * 4096 % 4294967296) (x / 1048576) (by omega) (by omega)
  rw [show ((x * 4096 % 4294967296 : Nat) : Int) = (x : Int) * 4096 % 4294967296 by omega, show ((x / 1048576 : Nat) : Int) = (x : Int) / 1048576 by omega] at h
  exact h
set_option maxHeartbeats 400000 in
theorem left_8 (x : Nat) (w : World) (hx : x < 4294967296) :
    Calls Try.prog 54 #[.int .u32 x, .int .i64 8] w fun e w' => e = .returned (.int .u32 (rol 8 x : Nat)) ∧ ∃ n, w' = w.drewN n := by
  go_enter Try.func54, Try.ntmps54
  go_wp2
  go_quiet (fail)
  go_wp2
  go_ret
  refine ⟨retI ?_, nq, rfl⟩
  have h := u32_or_nat (x * 256 % 4294967296) (x / 16777216) (by omega) (by omega)
  rw [show ((x * 256 % 4294967296 : Nat) : Int) = (x : Int) * 256 % 4294967296 by omega, show ((x / 16777216 : Nat) : Int) = (x : Int) / 16777216 by omega] at h
  exact h
set_option maxHeartbeats 400000 in
theorem left_7 (x : Nat) (w : World) (hx : x < 4294967296) :
    Calls Try.prog 54 #[.int .u32 x, .int .i64 7] w fun e w' => e = .returned (.int .u32 (rol 7 x : Nat)) ∧ ∃ n, w' = w.drewN n := by
  go_enter Try.func54, Try.ntmps54
  go_wp2
  go_quiet (fail)
  go_wp2
  go_ret
  refine ⟨retI ?_, nq, rfl⟩
  have h := u32_or_nat (x * 128 % 4294967296) (x / 33554432) (by omega) (by omega)
  rw [show ((x * 128 % 4294967296 : Nat) : Int) = (x : Int) * 128 % 4294967296 by omega, show ((x / 33554432 : Nat) : Int) = (x : Int) / 33554432 by omega] at h
  exact h
/-- Four bytes as a word, the lowest first. -/
def leN (s : ByteArray) (a : Nat) : Nat := byt s a + byt s (a + 1) * 256 + byt s (a + 2) * 65536 + byt s (a + 3) * 16777216
theorem leN_lt (s : ByteArray) (a : Nat) : leN s a < 4294967296 := by
  have h0 := byt_lt s a; have h1 := byt_lt s (a + 1); have h2 := byt_lt s (a + 2); have h3 := byt_lt s (a + 3)
  unfold leN; omega
theorem le_bits (a b c d : Nat) (ha : a < 256) (hb : b < 256) (hc : c < 256) (hd : d < 256) :
    bits .or .u32 (bits .or .u32 (bits .or .u32 ((a : Int) % 4294967296) ((b : Int) % 4294967296 * 256 % 4294967296)) ((c : Int) % 4294967296 * 65536 % 4294967296)) ((d : Int) % 4294967296 * 16777216 % 4294967296) = ((a + b * 256 + c * 65536 + d * 16777216 : Nat) : Int) := by
  rw [show (a : Int) % 4294967296 = (a : Int) by omega, show (b : Int) % 4294967296 * 256 % 4294967296 = ((b * 256 : Nat) : Int) by omega, show (c : Int) % 4294967296 * 65536 % 4294967296 = ((c * 65536 : Nat) : Int) by omega, show (d : Int) % 4294967296 * 16777216 % 4294967296 = ((d * 16777216 : Nat) : Int) by omega]
  rw [u32_or_nat _ _ (by omega) (by omega), Nat.or_comm, nat_join 8 (b * 256) a (by omega) (by omega)]
  rw [u32_or_nat _ _ (by omega) (by omega), Nat.or_comm, nat_join 16 (c * 65536) (b * 256 + a) (by omega) (by omega)]
  rw [u32_or_nat _ _ (by omega) (by omega), Nat.or_comm, nat_join 24 (d * 16777216) (c * 65536 + (b * 256 + a)) (by omega) (by omega)]
  omega
set_option maxHeartbeats 400000 in
theorem le_any (s : ByteArray) (a : Nat) (w : World) (ha : a + 4 ≤ s.size) (hs : s.size ≤ 1000) :
    Calls Try.prog 51 #[.string s, .int .i64 a] w fun e w' => e = .returned (.int .u32 (leN s a : Nat)) ∧ ∃ n, w' = w.drewN n := by
  have l0 : (a : Int) < (s.size : Int) := by omega
  have l1 : (a : Int) + 1 < (s.size : Int) := by omega
  have l2 : (a : Int) + 2 < (s.size : Int) := by omega
  have l3 : (a : Int) + 3 < (s.size : Int) := by omega
  have p1 : (0 : Int) ≤ (a : Int) + 1 := by omega
  have p2 : (0 : Int) ≤ (a : Int) + 2 := by omega
  have p3 : (0 : Int) ≤ (a : Int) + 3 := by omega
  have t1 : ((a : Int) + 1).toNat = a + 1 := by omega
  have t2 : ((a : Int) + 2).toNat = a + 2 := by omega
  have t3 : ((a : Int) + 3).toNat = a + 3 := by omega
  have w1 : IntKind.i64.wrap ((a : Int) + 1) = (a : Int) + 1 := IntWalk.i64_in _ (by omega)
  have w2 : IntKind.i64.wrap ((a : Int) + 2) = (a : Int) + 2 := IntWalk.i64_in _ (by omega)
  have w3 : IntKind.i64.wrap ((a : Int) + 3) = (a : Int) + 3 := IntWalk.i64_in _ (by omega)
  have v0 : ∀ h : a < s.size, (s[a]'h).toNat = byt s a := fun h => get_byt s _ h
  have v1 : ∀ h : a + 1 < s.size, (s[a + 1]'h).toNat = byt s (a + 1) := fun h => get_byt s _ h
  have v2 : ∀ h : a + 2 < s.size, (s[a + 2]'h).toNat = byt s (a + 2) := fun h => get_byt s _ h
  have v3 : ∀ h : a + 3 < s.size, (s[a + 3]'h).toNat = byt s (a + 3) := fun h => get_byt s _ h
  go_enter Try.func51, Try.ntmps51
  go_wp2
  go_quiet (fail)
  go_wp2
  go_ret
  refine ⟨retI ?_, nq, rfl⟩
  exact le_bits _ _ _ _ (byt_lt s a) (byt_lt s (a + 1)) (byt_lt s (a + 2)) (byt_lt s (a + 3))
end Go.Proofs.Cha
