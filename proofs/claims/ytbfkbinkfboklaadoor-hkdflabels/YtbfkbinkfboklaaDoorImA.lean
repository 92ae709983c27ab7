/-
  Contracts of the developers' sha: turns, words out of bytes and into bytes.
-/
import Derived.Test.YtbfkbinkfboklaaDoorProg
import Derived.Test.YtbfkbinkfboklaaDoorShaM
import Derived.Test.YtbfkbinkfboklaaDoorSha5M
import Derived.Test.YtbfkbinkfboklaaDoorShaL
import Derived.Test.YtbfkbinkfboklaaDoorBeA
import Derived.Handy
import Derived.Deep.OwnRows
import Derived.WalkSmall
namespace Go.Proofs.Im
open Go.RowKit
theorem retI {k : IntKind} {a b : Int} (h : a = b) : Ending.returned (.int k a) = .returned (.int k b) := by rw [h]
theorem rotl32_2 (x : Nat) (w : World) (hx : x < 4294967296) :
    Calls Tryd.prog 61 #[.int .u32 x, .int .i64 (-2)] w fun e w' => e = .returned (.int .u32 (Sha.ror 2 x : Nat)) ∧ w' = w := by
  have hb : bits .and .u64 (IntKind.u64.wrap (-2)) 31 = 30 := by decide
  go_enter Tryd.func61, Tryd.ntmps61
  go_wp2
  go_ret
  refine ⟨retI ?_, rfl⟩
  have h := u32_or_nat (x * 1073741824 % 4294967296) (x / 4) (by omega) (by omega)
  rw [show ((x / 4 : Nat) : Int) = (x : Int) / 4 by omega, show ((x * 1073741824 % 4294967296 : Nat) : Int) = (x : Int) * 1073741824 % 4294967296 by omega, Nat.or_comm] at h
  exact h
theorem turn32_2 (x : Nat) (w : World) (hx : x < 4294967296) :
    Calls Tryd.prog 57 #[.int .u32 x, .int .i64 2] w fun e w' => e = .returned (.int .u32 (Sha.ror 2 x : Nat)) ∧ w' = w := by
  go_enter Tryd.func57, Tryd.ntmps57
  go_wp2_with (go_at_call 61; refine (rotl32_2 x _ hx).mono ?_; rintro e u ⟨rfl, rfl⟩)
  go_ret
  exact ⟨rfl, rfl⟩
theorem rotl32_6 (x : Nat) (w : World) (hx : x < 4294967296) :
    Calls Tryd.prog 61 #[.int .u32 x, .int .i64 (-6)] w fun e w' => e = .returned (.int .u32 (Sha.ror 6 x : Nat)) ∧ w' = w := by
  have hb : bits .and .u64 (IntKind.u64.wrap (-6)) 31 = 26 := by decide
  go_enter Tryd.func61, Tryd.ntmps61
  go_wp2
  go_ret
  refine ⟨retI ?_, rfl⟩
  have h := u32_or_nat (x * 67108864 % 4294967296) (x / 64) (by omega) (by omega)
  rw [show ((x / 64 : Nat) : Int) = (x : Int) / 64 by omega, show ((x * 67108864 % 4294967296 : Nat) : Int) = (x : Int) * 67108864 % 4294967296 by omega, Nat.or_comm] at h
  exact h
theorem turn32_6 (x : Nat) (w : World) (hx : x < 4294967296) :
    Calls Tryd.prog 57 #[.int .u32 x, .int .i64 6] w fun e w' => e = .returned (.int .u32 (Sha.ror 6 x : Nat)) ∧ w' = w := by
  go_enter Tryd.func57, Tryd.ntmps57
  go_wp2_with (go_at_call 61; refine (rotl32_6 x _ hx).mono ?_; rintro e u ⟨rfl, rfl⟩)
  go_ret
  exact ⟨rfl, rfl⟩
theorem rotl32_7 (x : Nat) (w : World) (hx : x < 4294967296) :
    Calls Tryd.prog 61 #[.int .u32 x, .int .i64 (-7)] w fun e w' => e = .returned (.int .u32 (Sha.ror 7 x : Nat)) ∧ w' = w := by
  have hb : bits .and .u64 (IntKind.u64.wrap (-7)) 31 = 25 := by decide
  go_enter Tryd.func61, Tryd.ntmps61
  go_wp2
  go_ret
  refine ⟨retI ?_, rfl⟩
  have h := u32_or_nat (x * 33554432 % 4294967296) (x / 128) (by omega) (by omega)
  rw [show ((x / 128 : Nat) : Int) = (x : Int) / 128 by omega, show ((x * 33554432 % 4294967296 : Nat) : Int) = (x : Int) * 33554432 % 4294967296 by omega, Nat.or_comm] at h
  exact h
theorem turn32_7 (x : Nat) (w : World) (hx : x < 4294967296) :
    Calls Tryd.prog 57 #[.int .u32 x, .int .i64 7] w fun e w' => e = .returned (.int .u32 (Sha.ror 7 x : Nat)) ∧ w' = w := by
  go_enter Tryd.func57, Tryd.ntmps57
  go_wp2_with (go_at_call 61; refine (rotl32_7 x _ hx).mono ?_; rintro e u ⟨rfl, rfl⟩)
  go_ret
  exact ⟨rfl, rfl⟩
theorem rotl32_11 (x : Nat) (w : World) (hx : x < 4294967296) :
    Calls Tryd.prog 61 #[.int .u32 x, .int .i64 (-11)] w fun e w' => e = .returned (.int .u32 (Sha.ror 11 x : Nat)) ∧ w' = w := by
  have hb : bits .and .u64 (IntKind.u64.wrap (-11)) 31 = 21 := by decide
  go_enter Tryd.func61, Tryd.ntmps61
  go_wp2
  go_ret
  refine ⟨retI ?_, rfl⟩
  have h := u32_or_nat (x * 2097152 % 4294967296) (x / 2048) (by omega) (by omega)
  rw [show ((x / 2048 : Nat) : Int) = (x : Int) / 2048 by omega, show ((x * 2097152 % 4294967296 : Nat) : Int) = (x : Int) * 2097152 % 4294967296 by omega, Nat.or_comm] at h
  exact h
theorem turn32_11 (x : Nat) (w : World) (hx : x < 4294967296) :
    Calls Tryd.prog 57 #[.int .u32 x, .int .i64 11] w fun e w' => e = .returned (.int .u32 (Sha.ror 11 x : Nat)) ∧ w' = w := by
  go_enter Tryd.func57, Tryd.ntmps57
  go_wp2_with (go_at_call 61; refine (rotl32_11 x _ hx).mono ?_; rintro e u ⟨rfl, rfl⟩)
  go_ret
  exact ⟨rfl, rfl⟩
theorem rotl32_13 (x : Nat) (w : World) (hx : x < 4294967296) :
    Calls Tryd.prog 61 #[.int .u32 x, .int .i64 (-13)] w fun e w' => e = .returned (.int .u32 (Sha.ror 13 x : Nat)) ∧ w' = w := by
  have hb : bits .and .u64 (IntKind.u64.wrap (-13)) 31 = 19 := by decide
  go_enter Tryd.func61, Tryd.ntmps61
  go_wp2
  go_ret
  refine ⟨retI ?_, rfl⟩
  have h := u32_or_nat (x * 524288 % 4294967296) (x / 8192) (by omega) (by omega)
  rw [show ((x / 8192 : Nat) : Int) = (x : Int) / 8192 by omega, show ((x * 524288 % 4294967296 : Nat) : Int) = (x : Int) * 524288 % 4294967296 by omega, Nat.or_comm] at h
  exact h
theorem turn32_13 (x : Nat) (w : World) (hx : x < 4294967296) :
    Calls Tryd.prog 57 #[.int .u32 x, .int .i64 13] w fun e w' => e = .returned (.int .u32 (Sha.ror 13 x : Nat)) ∧ w' = w := by
  go_enter Tryd.func57, Tryd.ntmps57
  go_wp2_with (go_at_call 61; refine (rotl32_13 x _ hx).mono ?_; rintro e u ⟨rfl, rfl⟩)
  go_ret
  exact ⟨rfl, rfl⟩
theorem rotl32_17 (x : Nat) (w : World) (hx : x < 4294967296) :
    Calls Tryd.prog 61 #[.int .u32 x, .int .i64 (-17)] w fun e w' => e = .returned (.int .u32 (Sha.ror 17 x : Nat)) ∧ w' = w := by
  have hb : bits .and .u64 (IntKind.u64.wrap (-17)) 31 = 15 := by decide
  go_enter Tryd.func61, Tryd.ntmps61
  go_wp2
  go_ret
  refine ⟨retI ?_, rfl⟩
  have h := u32_or_nat (x * 32768 % 4294967296) (x / 131072) (by omega) (by omega)
  rw [show ((x / 131072 : Nat) : Int) = (x : Int) / 131072 by omega, show ((x * 32768 % 4294967296 : Nat) : Int) = (x : Int) * 32768 % 4294967296 by omega, Nat.or_comm] at h
  exact h
theorem turn32_17 (x : Nat) (w : World) (hx : x < 4294967296) :
    Calls Tryd.prog 57 #[.int .u32 x, .int .i64 17] w fun e w' => e = .returned (.int .u32 (Sha.ror 17 x : Nat)) ∧ w' = w := by
  go_enter Tryd.func57, Tryd.ntmps57
  go_wp2_with (go_at_call 61; refine (rotl32_17 x _ hx).mono ?_; rintro e u ⟨rfl, rfl⟩)
  go_ret
  exact ⟨rfl, rfl⟩
theorem rotl32_18 (x : Nat) (w : World) (hx : x < 4294967296) :
    Calls Tryd.prog 61 #[.int .u32 x, .int .i64 (-18)] w fun e w' => e = .returned (.int .u32 (Sha.ror 18 x : Nat)) ∧ w' = w := by
  have hb : bits .and .u64 (IntKind.u64.wrap (-18)) 31 = 14 := by decide
  go_enter Tryd.func61, Tryd.ntmps61
  go_wp2
  go_ret
  refine ⟨retI ?_, rfl⟩
  have h := u32_or_nat (x * 16384 % 4294967296) (x / 262144) (by omega) (by omega)
  rw [show ((x / 262144 : Nat) : Int) = (x : Int) / 262144 by omega, show ((x * 16384 % 4294967296 : Nat) : Int) = (x : Int) * 16384 % 4294967296 by omega, Nat.or_comm] at h
  exact h
theorem turn32_18 (x : Nat) (w : World) (hx : x < 4294967296) :
    Calls Tryd.prog 57 #[.int .u32 x, .int .i64 18] w fun e w' => e = .returned (.int .u32 (Sha.ror 18 x : Nat)) ∧ w' = w := by
  go_enter Tryd.func57, Tryd.ntmps57
  go_wp2_with (go_at_call 61; refine (rotl32_18 x _ hx).mono ?_; rintro e u ⟨rfl, rfl⟩)
  go_ret
  exact ⟨rfl, rfl⟩
theorem rotl32_19 (x : Nat) (w : World) (hx : x < 4294967296) :
    Calls Tryd.prog 61 #[.int .u32 x, .int .i64 (-19)] w fun e w' => e = .returned (.int .u32 (Sha.ror 19 x : Nat)) ∧ w' = w := by
  have hb : bits .and .u64 (IntKind.u64.wrap (-19)) 31 = 13 := by decide
  go_enter Tryd.func61, Tryd.ntmps61
  go_wp2
  go_ret
  refine ⟨retI ?_, rfl⟩
  have h := u32_or_nat (x * 8192 % 4294967296) (x / 524288) (by omega) (by omega)
  rw [show ((x / 524288 : Nat) : Int) = (x : Int) / 524288 by omega, show ((x * 8192 % 4294967296 : Nat) : Int) = (x : Int) * 8192 % 4294967296 by omega, Nat.or_comm] at h
  exact h
theorem turn32_19 (x : Nat) (w : World) (hx : x < 4294967296) :
    Calls Tryd.prog 57 #[.int .u32 x, .int .i64 19] w fun e w' => e = .returned (.int .u32 (Sha.ror 19 x : Nat)) ∧ w' = w := by
  go_enter Tryd.func57, Tryd.ntmps57
  go_wp2_with (go_at_call 61; refine (rotl32_19 x _ hx).mono ?_; rintro e u ⟨rfl, rfl⟩)
  go_ret
  exact ⟨rfl, rfl⟩
theorem rotl32_22 (x : Nat) (w : World) (hx : x < 4294967296) :
    Calls Tryd.prog 61 #[.int .u32 x, .int .i64 (-22)] w fun e w' => e = .returned (.int .u32 (Sha.ror 22 x : Nat)) ∧ w' = w := by
  have hb : bits .and .u64 (IntKind.u64.wrap (-22)) 31 = 10 := by decide
  go_enter Tryd.func61, Tryd.ntmps61
  go_wp2
  go_ret
  refine ⟨retI ?_, rfl⟩
  have h := u32_or_nat (x * 1024 % 4294967296) (x / 4194304) (by omega) (by omega)
  rw [show ((x / 4194304 : Nat) : Int) = (x : Int) / 4194304 by omega, show ((x * 1024 % 4294967296 : Nat) : Int) = (x : Int) * 1024 % 4294967296 by omega, Nat.or_comm] at h
  exact h
theorem turn32_22 (x : Nat) (w : World) (hx : x < 4294967296) :
    Calls Tryd.prog 57 #[.int .u32 x, .int .i64 22] w fun e w' => e = .returned (.int .u32 (Sha.ror 22 x : Nat)) ∧ w' = w := by
  go_enter Tryd.func57, Tryd.ntmps57
  go_wp2_with (go_at_call 61; refine (rotl32_22 x _ hx).mono ?_; rintro e u ⟨rfl, rfl⟩)
  go_ret
  exact ⟨rfl, rfl⟩
theorem rotl32_25 (x : Nat) (w : World) (hx : x < 4294967296) :
    Calls Tryd.prog 61 #[.int .u32 x, .int .i64 (-25)] w fun e w' => e = .returned (.int .u32 (Sha.ror 25 x : Nat)) ∧ w' = w := by
  have hb : bits .and .u64 (IntKind.u64.wrap (-25)) 31 = 7 := by decide
  go_enter Tryd.func61, Tryd.ntmps61
  go_wp2
  go_ret
  refine ⟨retI ?_, rfl⟩
  have h := u32_or_nat (x * 128 % 4294967296) (x / 33554432) (by omega) (by omega)
  rw [show ((x / 33554432 : Nat) : Int) = (x : Int) / 33554432 by omega, show ((x * 128 % 4294967296 : Nat) : Int) = (x : Int) * 128 % 4294967296 by omega, Nat.or_comm] at h
  exact h
theorem turn32_25 (x : Nat) (w : World) (hx : x < 4294967296) :
    Calls Tryd.prog 57 #[.int .u32 x, .int .i64 25] w fun e w' => e = .returned (.int .u32 (Sha.ror 25 x : Nat)) ∧ w' = w := by
  go_enter Tryd.func57, Tryd.ntmps57
  go_wp2_with (go_at_call 61; refine (rotl32_25 x _ hx).mono ?_; rintro e u ⟨rfl, rfl⟩)
  go_ret
  exact ⟨rfl, rfl⟩
theorem rotl64_1 (x : Nat) (w : World) (hx : x < 18446744073709551616) :
    Calls Tryd.prog 62 #[.int .u64 x, .int .i64 (-1)] w fun e w' => e = .returned (.int .u64 (Sha5.ror 1 x : Nat)) ∧ w' = w := by
  have hb : bits .and .u64 (IntKind.u64.wrap (-1)) 63 = 63 := by decide
  go_enter Tryd.func62, Tryd.ntmps62
  go_wp2
  go_ret
  refine ⟨retI ?_, rfl⟩
  have h := u64_or_nat (x * 9223372036854775808 % 18446744073709551616) (x / 2) (by omega) (by omega)
  rw [show ((x / 2 : Nat) : Int) = (x : Int) / 2 by omega, show ((x * 9223372036854775808 % 18446744073709551616 : Nat) : Int) = (x : Int) * 9223372036854775808 % 18446744073709551616 by omega, Nat.or_comm] at h
  exact h
theorem turn64_1 (x : Nat) (w : World) (hx : x < 18446744073709551616) :
    Calls Tryd.prog 59 #[.int .u64 x, .int .i64 1] w fun e w' => e = .returned (.int .u64 (Sha5.ror 1 x : Nat)) ∧ w' = w := by
  go_enter Tryd.func59, Tryd.ntmps59
  go_wp2_with (go_at_call 62; refine (rotl64_1 x _ hx).mono ?_; rintro e u ⟨rfl, rfl⟩)
  go_ret
  exact ⟨rfl, rfl⟩
theorem rotl64_8 (x : Nat) (w : World) (hx : x < 18446744073709551616) :
    Calls Tryd.prog 62 #[.int .u64 x, .int .i64 (-8)] w fun e w' => e = .returned (.int .u64 (Sha5.ror 8 x : Nat)) ∧ w' = w := by
  have hb : bits .and .u64 (IntKind.u64.wrap (-8)) 63 = 56 := by decide
  go_enter Tryd.func62, Tryd.ntmps62
  go_wp2
  go_ret
  refine ⟨retI ?_, rfl⟩
  have h := u64_or_nat (x * 72057594037927936 % 18446744073709551616) (x / 256) (by omega) (by omega)
  rw [show ((x / 256 : Nat) : Int) = (x : Int) / 256 by omega, show ((x * 72057594037927936 % 18446744073709551616 : Nat) : Int) = (x : Int) * 72057594037927936 % 18446744073709551616 by omega, Nat.or_comm] at h
  exact h
theorem turn64_8 (x : Nat) (w : World) (hx : x < 18446744073709551616) :
    Calls Tryd.prog 59 #[.int .u64 x, .int .i64 8] w fun e w' => e = .returned (.int .u64 (Sha5.ror 8 x : Nat)) ∧ w' = w := by
  go_enter Tryd.func59, Tryd.ntmps59
  go_wp2_with (go_at_call 62; refine (rotl64_8 x _ hx).mono ?_; rintro e u ⟨rfl, rfl⟩)
  go_ret
  exact ⟨rfl, rfl⟩
theorem rotl64_14 (x : Nat) (w : World) (hx : x < 18446744073709551616) :
    Calls Tryd.prog 62 #[.int .u64 x, .int .i64 (-14)] w fun e w' => e = .returned (.int .u64 (Sha5.ror 14 x : Nat)) ∧ w' = w := by
  have hb : bits .and .u64 (IntKind.u64.wrap (-14)) 63 = 50 := by decide
  go_enter Tryd.func62, Tryd.ntmps62
  go_wp2
  go_ret
  refine ⟨retI ?_, rfl⟩
  have h := u64_or_nat (x * 1125899906842624 % 18446744073709551616) (x / 16384) (by omega) (by omega)
  rw [show ((x / 16384 : Nat) : Int) = (x : Int) / 16384 by omega, show ((x * 1125899906842624 % 18446744073709551616 : Nat) : Int) = (x : Int) * 1125899906842624 % 18446744073709551616 by omega, Nat.or_comm] at h
  exact h
theorem turn64_14 (x : Nat) (w : World) (hx : x < 18446744073709551616) :
    Calls Tryd.prog 59 #[.int .u64 x, .int .i64 14] w fun e w' => e = .returned (.int .u64 (Sha5.ror 14 x : Nat)) ∧ w' = w := by
  go_enter Tryd.func59, Tryd.ntmps59
  go_wp2_with (go_at_call 62; refine (rotl64_14 x _ hx).mono ?_; rintro e u ⟨rfl, rfl⟩)
  go_ret
  exact ⟨rfl, rfl⟩
theorem rotl64_18 (x : Nat) (w : World) (hx : x < 18446744073709551616) :
    Calls Tryd.prog 62 #[.int .u64 x, .int .i64 (-18)] w fun e w' => e = .returned (.int .u64 (Sha5.ror 18 x : Nat)) ∧ w' = w := by
  have hb : bits .and .u64 (IntKind.u64.wrap (-18)) 63 = 46 := by decide
  go_enter Tryd.func62, Tryd.ntmps62
  go_wp2
  go_ret
  refine ⟨retI ?_, rfl⟩
  have h := u64_or_nat (x * 70368744177664 % 18446744073709551616) (x / 262144) (by omega) (by omega)
  rw [show ((x / 262144 : Nat) : Int) = (x : Int) / 262144 by omega, show ((x * 70368744177664 % 18446744073709551616 : Nat) : Int) = (x : Int) * 70368744177664 % 18446744073709551616 by omega, Nat.or_comm] at h
  exact h
theorem turn64_18 (x : Nat) (w : World) (hx : x < 18446744073709551616) :
    Calls Tryd.prog 59 #[.int .u64 x, .int .i64 18] w fun e w' => e = .returned (.int .u64 (Sha5.ror 18 x : Nat)) ∧ w' = w := by
  go_enter Tryd.func59, Tryd.ntmps59
  go_wp2_with (go_at_call 62; refine (rotl64_18 x _ hx).mono ?_; rintro e u ⟨rfl, rfl⟩)
  go_ret
  exact ⟨rfl, rfl⟩
theorem rotl64_19 (x : Nat) (w : World) (hx : x < 18446744073709551616) :
    Calls Tryd.prog 62 #[.int .u64 x, .int .i64 (-19)] w fun e w' => e = .returned (.int .u64 (Sha5.ror 19 x : Nat)) ∧ w' = w := by
  have hb : bits .and .u64 (IntKind.u64.wrap (-19)) 63 = 45 := by decide
  go_enter Tryd.func62, Tryd.ntmps62
  go_wp2
  go_ret
  refine ⟨retI ?_, rfl⟩
  have h := u64_or_nat (x * 35184372088832 % 18446744073709551616) (x / 524288) (by omega) (by omega)
  rw [show ((x / 524288 : Nat) : Int) = (x : Int) / 524288 by omega, show ((x * 35184372088832 % 18446744073709551616 : Nat) : Int) = (x : Int) * 35184372088832 % 18446744073709551616 by omega, Nat.or_comm] at h
  exact h
theorem turn64_19 (x : Nat) (w : World) (hx : x < 18446744073709551616) :
    Calls Tryd.prog 59 #[.int .u64 x, .int .i64 19] w fun e w' => e = .returned (.int .u64 (Sha5.ror 19 x : Nat)) ∧ w' = w := by
  go_enter Tryd.func59, Tryd.ntmps59
  go_wp2_with (go_at_call 62; refine (rotl64_19 x _ hx).mono ?_; rintro e u ⟨rfl, rfl⟩)
  go_ret
  exact ⟨rfl, rfl⟩
theorem rotl64_28 (x : Nat) (w : World) (hx : x < 18446744073709551616) :
    Calls Tryd.prog 62 #[.int .u64 x, .int .i64 (-28)] w fun e w' => e = .returned (.int .u64 (Sha5.ror 28 x : Nat)) ∧ w' = w := by
  have hb : bits .and .u64 (IntKind.u64.wrap (-28)) 63 = 36 := by decide
  go_enter Tryd.func62, Tryd.ntmps62
  go_wp2
  go_ret
  refine ⟨retI ?_, rfl⟩
  have h := u64_or_nat (x * 68719476736 % 18446744073709551616) (x / 268435456) (by omega) (by omega)
  rw [show ((x / 268435456 : Nat) : Int) = (x : Int) / 268435456 by omega, show ((x * 68719476736 % 18446744073709551616 : Nat) : Int) = (x : Int) * 68719476736 % 18446744073709551616 by omega, Nat.or_comm] at h
  exact h
theorem turn64_28 (x : Nat) (w : World) (hx : x < 18446744073709551616) :
    Calls Tryd.prog 59 #[.int .u64 x, .int .i64 28] w fun e w' => e = .returned (.int .u64 (Sha5.ror 28 x : Nat)) ∧ w' = w := by
  go_enter Tryd.func59, Tryd.ntmps59
  go_wp2_with (go_at_call 62; refine (rotl64_28 x _ hx).mono ?_; rintro e u ⟨rfl, rfl⟩)
  go_ret
  exact ⟨rfl, rfl⟩
theorem rotl64_34 (x : Nat) (w : World) (hx : x < 18446744073709551616) :
    Calls Tryd.prog 62 #[.int .u64 x, .int .i64 (-34)] w fun e w' => e = .returned (.int .u64 (Sha5.ror 34 x : Nat)) ∧ w' = w := by
  have hb : bits .and .u64 (IntKind.u64.wrap (-34)) 63 = 30 := by decide
  go_enter Tryd.func62, Tryd.ntmps62
  go_wp2
  go_ret
  refine ⟨retI ?_, rfl⟩
  have h := u64_or_nat (x * 1073741824 % 18446744073709551616) (x / 17179869184) (by omega) (by omega)
  rw [show ((x / 17179869184 : Nat) : Int) = (x : Int) / 17179869184 by omega, show ((x * 1073741824 % 18446744073709551616 : Nat) : Int) = (x : Int) * 1073741824 % 18446744073709551616 by omega, Nat.or_comm] at h
  exact h
theorem turn64_34 (x : Nat) (w : World) (hx : x < 18446744073709551616) :
    Calls Tryd.prog 59 #[.int .u64 x, .int .i64 34] w fun e w' => e = .returned (.int .u64 (Sha5.ror 34 x : Nat)) ∧ w' = w := by
  go_enter Tryd.func59, Tryd.ntmps59
  go_wp2_with (go_at_call 62; refine (rotl64_34 x _ hx).mono ?_; rintro e u ⟨rfl, rfl⟩)
  go_ret
  exact ⟨rfl, rfl⟩
theorem rotl64_39 (x : Nat) (w : World) (hx : x < 18446744073709551616) :
    Calls Tryd.prog 62 #[.int .u64 x, .int .i64 (-39)] w fun e w' => e = .returned (.int .u64 (Sha5.ror 39 x : Nat)) ∧ w' = w := by
  have hb : bits .and .u64 (IntKind.u64.wrap (-39)) 63 = 25 := by decide
  go_enter Tryd.func62, Tryd.ntmps62
  go_wp2
  go_ret
  refine ⟨retI ?_, rfl⟩
  have h := u64_or_nat (x * 33554432 % 18446744073709551616) (x / 549755813888) (by omega) (by omega)
  rw [show ((x / 549755813888 : Nat) : Int) = (x : Int) / 549755813888 by omega, show ((x * 33554432 % 18446744073709551616 : Nat) : Int) = (x : Int) * 33554432 % 18446744073709551616 by omega, Nat.or_comm] at h
  exact h
theorem turn64_39 (x : Nat) (w : World) (hx : x < 18446744073709551616) :
    Calls Tryd.prog 59 #[.int .u64 x, .int .i64 39] w fun e w' => e = .returned (.int .u64 (Sha5.ror 39 x : Nat)) ∧ w' = w := by
  go_enter Tryd.func59, Tryd.ntmps59
  go_wp2_with (go_at_call 62; refine (rotl64_39 x _ hx).mono ?_; rintro e u ⟨rfl, rfl⟩)
  go_ret
  exact ⟨rfl, rfl⟩
theorem rotl64_41 (x : Nat) (w : World) (hx : x < 18446744073709551616) :
    Calls Tryd.prog 62 #[.int .u64 x, .int .i64 (-41)] w fun e w' => e = .returned (.int .u64 (Sha5.ror 41 x : Nat)) ∧ w' = w := by
  have hb : bits .and .u64 (IntKind.u64.wrap (-41)) 63 = 23 := by decide
  go_enter Tryd.func62, Tryd.ntmps62
  go_wp2
  go_ret
  refine ⟨retI ?_, rfl⟩
  have h := u64_or_nat (x * 8388608 % 18446744073709551616) (x / 2199023255552) (by omega) (by omega)
  rw [show ((x / 2199023255552 : Nat) : Int) = (x : Int) / 2199023255552 by omega, show ((x * 8388608 % 18446744073709551616 : Nat) : Int) = (x : Int) * 8388608 % 18446744073709551616 by omega, Nat.or_comm] at h
  exact h
theorem turn64_41 (x : Nat) (w : World) (hx : x < 18446744073709551616) :
    Calls Tryd.prog 59 #[.int .u64 x, .int .i64 41] w fun e w' => e = .returned (.int .u64 (Sha5.ror 41 x : Nat)) ∧ w' = w := by
  go_enter Tryd.func59, Tryd.ntmps59
  go_wp2_with (go_at_call 62; refine (rotl64_41 x _ hx).mono ?_; rintro e u ⟨rfl, rfl⟩)
  go_ret
  exact ⟨rfl, rfl⟩
theorem rotl64_61 (x : Nat) (w : World) (hx : x < 18446744073709551616) :
    Calls Tryd.prog 62 #[.int .u64 x, .int .i64 (-61)] w fun e w' => e = .returned (.int .u64 (Sha5.ror 61 x : Nat)) ∧ w' = w := by
  have hb : bits .and .u64 (IntKind.u64.wrap (-61)) 63 = 3 := by decide
  go_enter Tryd.func62, Tryd.ntmps62
  go_wp2
  go_ret
  refine ⟨retI ?_, rfl⟩
  have h := u64_or_nat (x * 8 % 18446744073709551616) (x / 2305843009213693952) (by omega) (by omega)
  rw [show ((x / 2305843009213693952 : Nat) : Int) = (x : Int) / 2305843009213693952 by omega, show ((x * 8 % 18446744073709551616 : Nat) : Int) = (x : Int) * 8 % 18446744073709551616 by omega, Nat.or_comm] at h
  exact h
theorem turn64_61 (x : Nat) (w : World) (hx : x < 18446744073709551616) :
    Calls Tryd.prog 59 #[.int .u64 x, .int .i64 61] w fun e w' => e = .returned (.int .u64 (Sha5.ror 61 x : Nat)) ∧ w' = w := by
  go_enter Tryd.func59, Tryd.ntmps59
  go_wp2_with (go_at_call 62; refine (rotl64_61 x _ hx).mono ?_; rintro e u ⟨rfl, rfl⟩)
  go_ret
  exact ⟨rfl, rfl⟩
/-- By how many bits it is turned here. -/
def turns32 (k : Int) : Bool := k = 2 || k = 6 || k = 7 || k = 11 || k = 13 || k = 17 || k = 18 || k = 19 || k = 22 || k = 25
theorem turn32_any (x : Nat) (k : Int) (w : World) (hk : turns32 k = true) (hx : x < 4294967296) :
    Calls Tryd.prog 57 #[.int .u32 x, .int .i64 k] w fun e w' => e = .returned (.int .u32 (Sha.ror k.toNat x : Nat)) ∧ w' = w := by
  have h : k = 2 ∨ k = 6 ∨ k = 7 ∨ k = 11 ∨ k = 13 ∨ k = 17 ∨ k = 18 ∨ k = 19 ∨ k = 22 ∨ k = 25 := by simpa [turns32, or_assoc] using hk
  rcases h with rfl | rfl | rfl | rfl | rfl | rfl | rfl | rfl | rfl | rfl
  · exact turn32_2 x w hx
  · exact turn32_6 x w hx
  · exact turn32_7 x w hx
  · exact turn32_11 x w hx
  · exact turn32_13 x w hx
  · exact turn32_17 x w hx
  · exact turn32_18 x w hx
  · exact turn32_19 x w hx
  · exact turn32_22 x w hx
  · exact turn32_25 x w hx
/-- By how many bits it is turned here. -/
def turns64 (k : Int) : Bool := k = 1 || k = 8 || k = 14 || k = 18 || k = 19 || k = 28 || k = 34 || k = 39 || k = 41 || k = 61
theorem turn64_any (x : Nat) (k : Int) (w : World) (hk : turns64 k = true) (hx : x < 18446744073709551616) :
    Calls Tryd.prog 59 #[.int .u64 x, .int .i64 k] w fun e w' => e = .returned (.int .u64 (Sha5.ror k.toNat x : Nat)) ∧ w' = w := by
  have h : k = 1 ∨ k = 8 ∨ k = 14 ∨ k = 18 ∨ k = 19 ∨ k = 28 ∨ k = 34 ∨ k = 39 ∨ k = 41 ∨ k = 61 := by simpa [turns64, or_assoc] using hk
  rcases h with rfl | rfl | rfl | rfl | rfl | rfl | rfl | rfl | rfl | rfl
  · exact turn64_1 x w hx
  · exact turn64_8 x w hx
  · exact turn64_14 x w hx
  · exact turn64_18 x w hx
  · exact turn64_19 x w hx
  · exact turn64_28 x w hx
  · exact turn64_34 x w hx
  · exact turn64_39 x w hx
  · exact turn64_41 x w hx
  · exact turn64_61 x w hx
end Go.Proofs.Im
