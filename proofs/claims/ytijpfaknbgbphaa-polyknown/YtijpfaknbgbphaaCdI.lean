/-
  The developers' chacha: small forms for the laws.
-/
import Derived.Test.YtijpfaknbgbphaaCdF
import Derived.Test.YtijpfaknbgbphaaChaG
import Derived.Deep.DeepCutAuto
namespace Go.Proofs.Cd
open Go.RowKit
open Go.Proofs.Cha
open Go.Proofs.Aes (byt byt_lt get_byt)
open Go.Proofs.Lw (num_same wpList_val)
/-- A Block and a Xor whose form is fine. -/
theorem ok_of (K : ByteArray) (n : Nat) (N : ByteArray) (hk : K.size = 32) (hN : N.size = 12) (hn : n < 4294967296) : chaOk K (n : Int) N = true := (chaOk_iff K n N).2 ⟨hk, by omega, by omega, hN⟩
theorem blk_fine (K : ByteArray) (n : Nat) (N : ByteArray) (w : World) (hk : K.size = 32) (hN : N.size = 12) (hn : n < 4294967296) :
    Calls Try.prog 17 #[.string K, .int .i64 n, .string N] w fun e w' => e = .returned (.tuple #[.string (chaS K n N), .int .i64 0]) ∧ Below w.heap.size w w' := by
  have h := blk_ok K n N w (ok_of K n N hk hN hn)
  rw [Int.toNat_natCast] at h
  exact h
theorem xor_fine (K : ByteArray) (n : Nat) (N s : ByteArray) (w : World) (hk : K.size = 32) (hN : N.size = 12) (hn : n < 4294967296) (hs : s.size ≤ 65536) :
    Calls Try.prog 16 #[.string K, .int .i64 n, .string N, .string s] w fun e w' => e = .returned (.tuple #[.string (strS K n N s), .int .i64 0]) ∧ Below w.heap.size w w' := by
  have h := xor_ok K n N s w (ok_of K n N hk hN hn) hs
  rw [Int.toNat_natCast] at h
  exact h
theorem nought32 (W : World) (g : Nat) (r : Lw.RowB W g 32 (fun _ => 0)) : (Go.convert 32 9 (.slice (some ⟨g, 0, none⟩) 32 32)).run Try.prog W = .ok (.string z32) W := r.text 0 32 32 (by decide)
theorem maskN32 (z : Int) : ∃ n : Nat, n ≤ 4294967295 ∧ bits .and .i64 z 4294967295 = (n : Int) := ⟨_, Nat.and_le_right, Lw.and_of z 4294967295 (by omega)⟩
theorem maskN7 (z : Int) : ∃ n : Nat, n ≤ 7 ∧ bits .and .i64 z 7 = (n : Int) := ⟨_, Nat.and_le_right, Lw.and_of z 7 (by omega)⟩
/-- A natural number's lowest 32 bits. -/
theorem mask32 (n : Nat) (h : n < 9223372036854775808) : bits .and .i64 (n : Int) 4294967295 = ((n % 4294967296 : Nat) : Int) := by
  have e := Lw.and_of (n : Int) 4294967295 (by omega)
  rw [show ((n : Int) % 18446744073709551616).toNat = n by omega, nat_mask32] at e
  exact e
/-- How many blocks a text's first part has. -/
theorem part_of (z : Int) (n : Nat) (hn : n ≤ 3000) : ∃ b : Nat, b ≤ 46 ∧ 64 * b ≤ n ∧ (IntKind.u64.wrap z).tmod ((n : Int) / 64 + 1) = (b : Int) := by
  have e : IntKind.u64.wrap z = z % 18446744073709551616 := rfl
  refine ⟨((z % 18446744073709551616) % ((n : Int) / 64 + 1)).toNat, ?_, ?_, ?_⟩
  · have := Int.emod_lt_of_pos (z % 18446744073709551616) (show (0 : Int) < (n : Int) / 64 + 1 by omega)
    omega
  · have := Int.emod_lt_of_pos (z % 18446744073709551616) (show (0 : Int) < (n : Int) / 64 + 1 by omega)
    omega
  · rw [e, Int.tmod_eq_emod_of_nonneg (by omega)]
    have := Int.emod_nonneg (z % 18446744073709551616) (show (n : Int) / 64 + 1 ≠ 0 by omega)
    omega
end Go.Proofs.Cd
