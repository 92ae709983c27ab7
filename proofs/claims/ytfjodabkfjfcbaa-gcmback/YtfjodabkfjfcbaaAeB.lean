/-
  Contracts of the developers' aes: words, turns, doubled words, substitutes.
-/
import Derived.Test.YtfjodabkfjfcbaaProg
import Derived.Test.YtfjodabkfjfcbaaAeA
import Derived.Test.YtfjodabkfjfcbaaShaL
import Derived.Test.YtfjodabkfjfcbaaImL
import Derived.Deep.WholeRow
import Derived.Deep.OwnRows
import Derived.BigQuiet
import Derived.Deep.QuietTactic
namespace Go.Proofs.Ae
open Go.RowKit
open Go.Proofs.Aes
open Go.Proofs.Sha (wordCells wordCells_get wordCells_size rowIs_of wpList_alloc_to)
theorem retI {k : IntKind} {a b : Int} (h : a = b) : Ending.returned (.int k a) = .returned (.int k b) := by rw [h]
theorem rotl_8 (x : Nat) (w : World) (hx : x < 4294967296) :
    Calls Try.prog 46 #[.int .u32 x, .int .i64 8] w fun e w' => e = .returned (.int .u32 (((x * 256 % 4294967296) ||| (x / 16777216) : Nat) : Int)) ∧ w' = w := by
  have hb : bits .and .u64 8 31 = 8 := by decide
  go_enter Try.func46, Try.ntmps46
  go_wp2
  go_ret
  refine ⟨retI ?_, rfl⟩
  have h := u32_or_nat (x * 256 % 4294967296) (x / 16777216) (by omega) (by omega)
  rw [show ((x / 16777216 : Nat) : Int) = (x : Int) / 16777216 by omega, show ((x * 256 % 4294967296 : Nat) : Int) = (x : Int) * 256 % 4294967296 by omega] at h
  exact h
theorem rotl_16 (x : Nat) (w : World) (hx : x < 4294967296) :
    Calls Try.prog 46 #[.int .u32 x, .int .i64 16] w fun e w' => e = .returned (.int .u32 (((x * 65536 % 4294967296) ||| (x / 65536) : Nat) : Int)) ∧ w' = w := by
  have hb : bits .and .u64 16 31 = 16 := by decide
  go_enter Try.func46, Try.ntmps46
  go_wp2
  go_ret
  refine ⟨retI ?_, rfl⟩
  have h := u32_or_nat (x * 65536 % 4294967296) (x / 65536) (by omega) (by omega)
  rw [show ((x / 65536 : Nat) : Int) = (x : Int) / 65536 by omega, show ((x * 65536 % 4294967296 : Nat) : Int) = (x : Int) * 65536 % 4294967296 by omega] at h
  exact h
theorem rotl_24 (x : Nat) (w : World) (hx : x < 4294967296) :
    Calls Try.prog 46 #[.int .u32 x, .int .i64 24] w fun e w' => e = .returned (.int .u32 (((x * 16777216 % 4294967296) ||| (x / 256) : Nat) : Int)) ∧ w' = w := by
  have hb : bits .and .u64 24 31 = 24 := by decide
  go_enter Try.func46, Try.ntmps46
  go_wp2
  go_ret
  refine ⟨retI ?_, rfl⟩
  have h := u32_or_nat (x * 16777216 % 4294967296) (x / 256) (by omega) (by omega)
  rw [show ((x / 256 : Nat) : Int) = (x : Int) / 256 by omega, show ((x * 16777216 % 4294967296 : Nat) : Int) = (x : Int) * 16777216 % 4294967296 by omega] at h
  exact h
/-- Each of a word's bytes doubled, as words tell it. -/
def dblN (x : Nat) : Nat := ((x &&& 2139062143) * 2 % 4294967296) ^^^ ((x / 128 &&& 16843009) * 27 % 4294967296)
theorem dblN_lt (x : Nat) : dblN x < 4294967296 := Nat.xor_lt_two_pow (n := 32) (Nat.mod_lt _ (by decide)) (Nat.mod_lt _ (by decide))
theorem doubled_any (x : Nat) (w : World) (hx : x < 4294967296) :
    Calls Try.prog 48 #[.int .u32 x] w fun e w' => e = .returned (.int .u32 (dblN x : Nat)) ∧ w' = w := by
  have l1 : x &&& 2139062143 < 4294967296 := Nat.and_lt_two_pow (n := 32) _ (by decide)
  have l2 : x / 128 &&& 16843009 < 4294967296 := Nat.and_lt_two_pow (n := 32) _ (by decide)
  have h1 : bits .and .u32 (x : Int) 2139062143 = ((x &&& 2139062143 : Nat) : Int) := u32_and_nat x 2139062143 hx (by decide)
  have h2 : bits .and .u32 ((x : Int) / 128) 16843009 = ((x / 128 &&& 16843009 : Nat) : Int) := u32_and_nat (x / 128) 16843009 (by omega) (by decide)
  have h3 := u32_xor_nat ((x &&& 2139062143) * 2 % 4294967296) ((x / 128 &&& 16843009) * 27 % 4294967296) (Nat.mod_lt _ (by decide)) (Nat.mod_lt _ (by decide))
  have HD : Hid (((x &&& 2139062143) * 2 % 4294967296) ^^^ ((x / 128 &&& 16843009) * 27 % 4294967296) = dblN x) := rfl
  generalize x &&& 2139062143 = p at *
  generalize x / 128 &&& 16843009 = q at *
  have h4 : ((p * 2 % 4294967296 : Nat) : Int) = (p : Int) * 2 % 4294967296 := by omega
  have h5 : ((q * 27 % 4294967296 : Nat) : Int) = (q : Int) * 27 % 4294967296 := by omega
  rw [h4, h5, HD.out] at h3
  clear h4 h5
  have H3 := Lib.hid h3
  clear h3
  go_enter Try.func48, Try.ntmps48
  go_wp2
  go_ret
  exact ⟨retI H3.out, rfl⟩
set_option maxHeartbeats 1000000 in
theorem word_any (s : ByteArray) (i : Nat) (w : World) (hi : 4 * i + 4 ≤ s.size) (hs : s.size ≤ 1000) :
    Calls Try.prog 45 #[.string s, .int .i64 i] w fun e w' => e = .returned (.int .u32 (wd (byt s) i : Nat)) ∧ ∃ n, w' = w.drewN n := by
  have l0 : 4 * (i : Int) < (s.size : Int) := by omega
  have l1 : 4 * (i : Int) + 1 < (s.size : Int) := by omega
  have l2 : 4 * (i : Int) + 2 < (s.size : Int) := by omega
  have l3 : 4 * (i : Int) + 3 < (s.size : Int) := by omega
  have p0 : (0 : Int) ≤ 4 * (i : Int) := by omega
  have p1 : (0 : Int) ≤ 4 * (i : Int) + 1 := by omega
  have p2 : (0 : Int) ≤ 4 * (i : Int) + 2 := by omega
  have p3 : (0 : Int) ≤ 4 * (i : Int) + 3 := by omega
  have t0 : (4 * (i : Int)).toNat = 4 * i := by omega
  have t1 : (4 * (i : Int) + 1).toNat = 4 * i + 1 := by omega
  have t2 : (4 * (i : Int) + 2).toNat = 4 * i + 2 := by omega
  have t3 : (4 * (i : Int) + 3).toNat = 4 * i + 3 := by omega
  have w0 : IntKind.i64.wrap (4 * (i : Int)) = 4 * (i : Int) := IntWalk.i64_in _ (by omega)
  have w1 : IntKind.i64.wrap (4 * (i : Int) + 1) = 4 * (i : Int) + 1 := IntWalk.i64_in _ (by omega)
  have w2 : IntKind.i64.wrap (4 * (i : Int) + 2) = 4 * (i : Int) + 2 := IntWalk.i64_in _ (by omega)
  have w3 : IntKind.i64.wrap (4 * (i : Int) + 3) = 4 * (i : Int) + 3 := IntWalk.i64_in _ (by omega)
  have v0 : ∀ h : 4 * i < s.size, (s[4 * i]'h).toNat = byt s (4 * i) := fun h => get_byt s _ h
  have v1 : ∀ h : 4 * i + 1 < s.size, (s[4 * i + 1]'h).toNat = byt s (4 * i + 1) := fun h => get_byt s _ h
  have v2 : ∀ h : 4 * i + 2 < s.size, (s[4 * i + 2]'h).toNat = byt s (4 * i + 2) := fun h => get_byt s _ h
  have v3 : ∀ h : 4 * i + 3 < s.size, (s[4 * i + 3]'h).toNat = byt s (4 * i + 3) := fun h => get_byt s _ h
  have b0 := byt_lt s (4 * i)
  have b1 := byt_lt s (4 * i + 1)
  have b2 := byt_lt s (4 * i + 2)
  have b3 := byt_lt s (4 * i + 3)
  have HJ := Lib.hid (join_bits _ _ _ _ b0 b1 b2 b3)
  go_enter Try.func45, Try.ntmps45
  go_wp2
  go_quiet (fail)
  go_wp2
  go_ret
  exact ⟨retI HJ.out, nq, rfl⟩
end Go.Proofs.Ae
