/-
  Contracts of the document's own answer: turn.
-/
import Derived.Test.YtbfkbinkfboklaaDoorProg
import Derived.Test.YtbfkbinkfboklaaDoorSha5M
import Derived.Handy
import Derived.BigQuiet
import Derived.Deep.QuietTactic
namespace Go.Proofs.Sha5
open Go.RowKit
theorem retI {k : IntKind} {a b : Int} (h : a = b) : Ending.returned (.int k a) = .returned (.int k b) := by rw [h]
set_option maxHeartbeats 400000 in
theorem rot_1 (x : Nat) (w : World) (hx : x < 18446744073709551616) :
    Calls Tryd.prog 49 #[.int .u64 x, .int .i64 1] w fun e w' => e = .returned (.int .u64 (ror 1 x : Nat)) ∧ ∃ n, w' = w.drewN n := by
  have H := Lib.hid hx
  clear hx
  go_enter Tryd.func49, Tryd.ntmps49
  go_wp2
  go_quiet (fail)
  go_wp2
  go_ret
  have hx := H.out
  refine ⟨retI ?_, nq, rfl⟩
  have h := u64_or_nat (x / 2) (x * 9223372036854775808 % 18446744073709551616) (by omega) (by omega)
  rw [show ((x / 2 : Nat) : Int) = (x : Int) / 2 by omega, show ((x * 9223372036854775808 % 18446744073709551616 : Nat) : Int) = IntKind.u64.wrap ((x : Int) * 9223372036854775808) by rw [IntKind.wrap_u64]; omega] at h
  exact h
set_option maxHeartbeats 400000 in
theorem rot_8 (x : Nat) (w : World) (hx : x < 18446744073709551616) :
    Calls Tryd.prog 49 #[.int .u64 x, .int .i64 8] w fun e w' => e = .returned (.int .u64 (ror 8 x : Nat)) ∧ ∃ n, w' = w.drewN n := by
  have H := Lib.hid hx
  clear hx
  go_enter Tryd.func49, Tryd.ntmps49
  go_wp2
  go_quiet (fail)
  go_wp2
  go_ret
  have hx := H.out
  refine ⟨retI ?_, nq, rfl⟩
  have h := u64_or_nat (x / 256) (x * 72057594037927936 % 18446744073709551616) (by omega) (by omega)
  rw [show ((x / 256 : Nat) : Int) = (x : Int) / 256 by omega, show ((x * 72057594037927936 % 18446744073709551616 : Nat) : Int) = IntKind.u64.wrap ((x : Int) * 72057594037927936) by rw [IntKind.wrap_u64]; omega] at h
  exact h
set_option maxHeartbeats 400000 in
theorem rot_14 (x : Nat) (w : World) (hx : x < 18446744073709551616) :
    Calls Tryd.prog 49 #[.int .u64 x, .int .i64 14] w fun e w' => e = .returned (.int .u64 (ror 14 x : Nat)) ∧ ∃ n, w' = w.drewN n := by
  have H := Lib.hid hx
  clear hx
  go_enter Tryd.func49, Tryd.ntmps49
  go_wp2
  go_quiet (fail)
  go_wp2
  go_ret
  have hx := H.out
  refine ⟨retI ?_, nq, rfl⟩
  have h := u64_or_nat (x / 16384) (x * 1125899906842624 % 18446744073709551616) (by omega) (by omega)
  rw [show ((x / 16384 : Nat) : Int) = (x : Int) / 16384 by omega, show ((x * 1125899906842624 % 18446744073709551616 : Nat) : Int) = IntKind.u64.wrap ((x : Int) * 1125899906842624) by rw [IntKind.wrap_u64]; omega] at h
  exact h
set_option maxHeartbeats 400000 in
theorem rot_18 (x : Nat) (w : World) (hx : x < 18446744073709551616) :
    Calls Tryd.prog 49 #[.int .u64 x, .int .i64 18] w fun e w' => e = .returned (.int .u64 (ror 18 x : Nat)) ∧ ∃ n, w' = w.drewN n := by
  have H := Lib.hid hx
  clear hx
  go_enter Tryd.func49, Tryd.ntmps49
  go_wp2
  go_quiet (fail)
  go_wp2
  go_ret
  have hx := H.out
  refine ⟨retI ?_, nq, rfl⟩
  have h := u64_or_nat (x / 262144) (x * 70368744177664 % 18446744073709551616) (by omega) (by omega)
  rw [show ((x / 262144 : Nat) : Int) = (x : Int) / 262144 by omega, show ((x * 70368744177664 % 18446744073709551616 : Nat) : Int) = IntKind.u64.wrap ((x : Int) * 70368744177664) by rw [IntKind.wrap_u64]; omega] at h
  exact h
set_option maxHeartbeats 400000 in
theorem rot_19 (x : Nat) (w : World) (hx : x < 18446744073709551616) :
    Calls Tryd.prog 49 #[.int .u64 x, .int .i64 19] w fun e w' => e = .returned (.int .u64 (ror 19 x : Nat)) ∧ ∃ n, w' = w.drewN n := by
  have H := Lib.hid hx
  clear hx
  go_enter Tryd.func49, Tryd.ntmps49
  go_wp2
  go_quiet (fail)
  go_wp2
  go_ret
  have hx := H.out
  refine ⟨retI ?_, nq, rfl⟩
  have h := u64_or_nat (x / 524288) (x * 35184372088832 % 18446744073709551616) (by omega) (by omega)
  rw [show ((x / 524288 : Nat) : Int) = (x : Int) / 524288 by omega, show ((x * 35184372088832 % 18446744073709551616 : Nat) : Int) = IntKind.u64.wrap ((x : Int) * 35184372088832) by rw [IntKind.wrap_u64]; omega] at h
  exact h
set_option maxHeartbeats 400000 in
theorem rot_28 (x : Nat) (w : World) (hx : x < 18446744073709551616) :
    Calls Tryd.prog 49 #[.int .u64 x, .int .i64 28] w fun e w' => e = .returned (.int .u64 (ror 28 x : Nat)) ∧ ∃ n, w' = w.drewN n := by
  have H := Lib.hid hx
  clear hx
  go_enter Tryd.func49, Tryd.ntmps49
  go_wp2
  go_quiet (fail)
  go_wp2
  go_ret
  have hx := H.out
  refine ⟨retI ?_, nq, rfl⟩
  have h := u64_or_nat (x / 268435456) (x * 68719476736 % 18446744073709551616) (by omega) (by omega)
  rw [show ((x / 268435456 : Nat) : Int) = (x : Int) / 268435456 by omega, show ((x * 68719476736 % 18446744073709551616 : Nat) : Int) = IntKind.u64.wrap ((x : Int) * 68719476736) by rw [IntKind.wrap_u64]; omega] at h
  exact h
set_option maxHeartbeats 400000 in
theorem rot_34 (x : Nat) (w : World) (hx : x < 18446744073709551616) :
    Calls Tryd.prog 49 #[.int .u64 x, .int .i64 34] w fun e w' => e = .returned (.int .u64 (ror 34 x : Nat)) ∧ ∃ n, w' = w.drewN n := by
  have H := Lib.hid hx
  clear hx
  go_enter Tryd.func49, Tryd.ntmps49
  go_wp2
  go_quiet (fail)
  go_wp2
  go_ret
  have hx := H.out
  refine ⟨retI ?_, nq, rfl⟩
  have h := u64_or_nat (x / 17179869184) (x * 1073741824 % 18446744073709551616) (by omega) (by omega)
  rw [show ((x / 17179869184 : Nat) : Int) = (x : Int) / 17179869184 by omega, show ((x * 1073741824 % 18446744073709551616 : Nat) : Int) = IntKind.u64.wrap ((x : Int) * 1073741824) by rw [IntKind.wrap_u64]; omega] at h
  exact h
set_option maxHeartbeats 400000 in
theorem rot_39 (x : Nat) (w : World) (hx : x < 18446744073709551616) :
    Calls Tryd.prog 49 #[.int .u64 x, .int .i64 39] w fun e w' => e = .returned (.int .u64 (ror 39 x : Nat)) ∧ ∃ n, w' = w.drewN n := by
  have H := Lib.hid hx
  clear hx
  go_enter Tryd.func49, Tryd.ntmps49
  go_wp2
  go_quiet (fail)
  go_wp2
  go_ret
  have hx := H.out
  refine ⟨retI ?_, nq, rfl⟩
  have h := u64_or_nat (x / 549755813888) (x * 33554432 % 18446744073709551616) (by omega) (by omega)
  rw [show ((x / 549755813888 : Nat) : Int) = (x : Int) / 549755813888 by omega, show ((x * 33554432 % 18446744073709551616 : Nat) : Int) = IntKind.u64.wrap ((x : Int) * 33554432) by rw [IntKind.wrap_u64]; omega] at h
  exact h
set_option maxHeartbeats 400000 in
theorem rot_41 (x : Nat) (w : World) (hx : x < 18446744073709551616) :
    Calls Tryd.prog 49 #[.int .u64 x, .int .i64 41] w fun e w' => e = .returned (.int .u64 (ror 41 x : Nat)) ∧ ∃ n, w' = w.drewN n := by
  have H := Lib.hid hx
  clear hx
  go_enter Tryd.func49, Tryd.ntmps49
  go_wp2
  go_quiet (fail)
  go_wp2
  go_ret
  have hx := H.out
  refine ⟨retI ?_, nq, rfl⟩
  have h := u64_or_nat (x / 2199023255552) (x * 8388608 % 18446744073709551616) (by omega) (by omega)
  rw [show ((x / 2199023255552 : Nat) : Int) = (x : Int) / 2199023255552 by omega, show ((x * 8388608 % 18446744073709551616 : Nat) : Int) = IntKind.u64.wrap ((x : Int) * 8388608) by rw [IntKind.wrap_u64]; omega] at h
  exact h
set_option maxHeartbeats 400000 in
theorem rot_61 (x : Nat) (w : World) (hx : x < 18446744073709551616) :
    Calls Tryd.prog 49 #[.int .u64 x, .int .i64 61] w fun e w' => e = .returned (.int .u64 (ror 61 x : Nat)) ∧ ∃ n, w' = w.drewN n := by
  have H := Lib.hid hx
  clear hx
  go_enter Tryd.func49, Tryd.ntmps49
  go_wp2
  go_quiet (fail)
  go_wp2
  go_ret
  have hx := H.out
  refine ⟨retI ?_, nq, rfl⟩
  have h := u64_or_nat (x / 2305843009213693952) (x * 8 % 18446744073709551616) (by omega) (by omega)
  rw [show ((x / 2305843009213693952 : Nat) : Int) = (x : Int) / 2305843009213693952 by omega, show ((x * 8 % 18446744073709551616 : Nat) : Int) = IntKind.u64.wrap ((x : Int) * 8) by rw [IntKind.wrap_u64]; omega] at h
  exact h
/-- By how many bits it is turned here. -/
def turns (k : Int) : Bool := k = 1 || k = 8 || k = 14 || k = 18 || k = 19 || k = 28 || k = 34 || k = 39 || k = 41 || k = 61
theorem rot_any (x : Nat) (k : Int) (w : World) (hk : turns k = true) (hx : x < 18446744073709551616) :
    Calls Tryd.prog 49 #[.int .u64 x, .int .i64 k] w fun e w' => e = .returned (.int .u64 (ror k.toNat x : Nat)) ∧ ∃ n, w' = w.drewN n := by
  have h : k = 1 ∨ k = 8 ∨ k = 14 ∨ k = 18 ∨ k = 19 ∨ k = 28 ∨ k = 34 ∨ k = 39 ∨ k = 41 ∨ k = 61 := by simpa [turns, or_assoc] using hk
  rcases h with rfl | rfl | rfl | rfl | rfl | rfl | rfl | rfl | rfl | rfl
  · exact rot_1 x w hx
  · exact rot_8 x w hx
  · exact rot_14 x w hx
  · exact rot_18 x w hx
  · exact rot_19 x w hx
  · exact rot_28 x w hx
  · exact rot_34 x w hx
  · exact rot_39 x w hx
  · exact rot_41 x w hx
  · exact rot_61 x w hx
end Go.Proofs.Sha5
