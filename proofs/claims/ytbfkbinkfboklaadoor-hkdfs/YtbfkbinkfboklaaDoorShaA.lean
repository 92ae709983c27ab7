/-
  Contracts of the document's own answer: rot.
-/
import Derived.Test.YtbfkbinkfboklaaDoorProg
import Derived.Test.YtbfkbinkfboklaaDoorShaM
import Derived.Handy
import Derived.BigQuiet
import Derived.Deep.QuietTactic
namespace Go.Proofs.Sha
open Go.RowKit
theorem retI {k : IntKind} {a b : Int} (h : a = b) : Ending.returned (.int k a) = .returned (.int k b) := by rw [h]
set_option maxHeartbeats 400000 in
theorem rot_2 (x : Nat) (w : World) (hx : x < 4294967296) :
    Calls Tryd.prog 48 #[.int .u32 x, .int .i64 2] w fun e w' => e = .returned (.int .u32 (ror 2 x : Nat)) ∧ ∃ n, w' = w.drewN n := by
  go_enter Tryd.func48, Tryd.ntmps48
  go_wp2
  go_quiet (fail)
  go_wp2
  go_ret
  refine ⟨retI ?_, nq, rfl⟩
  have h := u32_or_nat (x / 4) (x * 1073741824 % 4294967296) (by omega) (by omega)
  rw [show ((x / 4 : Nat) : Int) = (x : Int) / 4 by omega, show ((x * 1073741824 % 4294967296 : Nat) : Int) = (x : Int) * 1073741824 % 4294967296 by omega] at h
  exact h
set_option maxHeartbeats 400000 in
theorem rot_6 (x : Nat) (w : World) (hx : x < 4294967296) :
    Calls Tryd.prog 48 #[.int .u32 x, .int .i64 6] w fun e w' => e = .returned (.int .u32 (ror 6 x : Nat)) ∧ ∃ n, w' = w.drewN n := by
  go_enter Tryd.func48, Tryd.ntmps48
  go_wp2
  go_quiet (fail)
  go_wp2
  go_ret
  refine ⟨retI ?_, nq, rfl⟩
  have h := u32_or_nat (x / 64) (x * 67108864 % 4294967296) (by omega) (by omega)
  rw [show ((x / 64 : Nat) : Int) = (x : Int) / 64 by omega, show ((x * 67108864 % 4294967296 : Nat) : Int) = (x : Int) * 67108864 % 4294967296 by omega] at h
  exact h
set_option maxHeartbeats 400000 in
theorem rot_7 (x : Nat) (w : World) (hx : x < 4294967296) :
    Calls Tryd.prog 48 #[.int .u32 x, .int .i64 7] w fun e w' => e = .returned (.int .u32 (ror 7 x : Nat)) ∧ ∃ n, w' = w.drewN n := by
  go_enter Tryd.func48, Tryd.ntmps48
  go_wp2
  go_quiet (fail)
  go_wp2
  go_ret
  refine ⟨retI ?_, nq, rfl⟩
  have h := u32_or_nat (x / 128) (x * 33554432 % 4294967296) (by omega) (by omega)
  rw [show ((x / 128 : Nat) : Int) = (x : Int) / 128 by omega, show ((x * 33554432 % 4294967296 : Nat) : Int) = (x : Int) * 33554432 % 4294967296 by omega] at h
  exact h
set_option maxHeartbeats 400000 in
theorem rot_11 (x : Nat) (w : World) (hx : x < 4294967296) :
    Calls Tryd.prog 48 #[.int .u32 x, .int .i64 11] w fun e w' => e = .returned (.int .u32 (ror 11 x : Nat)) ∧ ∃ n, w' = w.drewN n := by
  go_enter Tryd.func48, Tryd.ntmps48
  go_wp2
  go_quiet (fail)
  go_wp2
  go_ret
  refine ⟨retI ?_, nq, rfl⟩
  have h := u32_or_nat (x / 2048) (x * 2097152 % 4294967296) (by omega) (by omega)
  rw [show ((x / 2048 : Nat) : Int) = (x : Int) / 2048 by omega, show ((x * 2097152 % 4294967296 : Nat) : Int) = (x : Int) * 2097152 % 4294967296 by omega] at h
  exact h
set_option maxHeartbeats 400000 in
theorem rot_13 (x : Nat) (w : World) (hx : x < 4294967296) :
    Calls Tryd.prog 48 #[.int .u32 x, .int .i64 13] w fun e w' => e = .returned (.int .u32 (ror 13 x : Nat)) ∧ ∃ n, w' = w.drewN n := by
  go_enter Tryd.func48, Tryd.ntmps48
  go_wp2
  go_quiet (fail)
  go_wp2
  go_ret
  refine ⟨retI ?_, nq, rfl⟩
  have h := u32_or_nat (x / 8192) (x * 524288 % 4294967296) (by omega) (by omega)
  rw [show ((x / 8192 : Nat) : Int) = (x : Int) / 8192 by omega, show ((x * 524288 % 4294967296 : Nat) : Int) = (x : Int) * 524288 % 4294967296 by omega] at h
  exact h
set_option maxHeartbeats 400000 in
theorem rot_17 (x : Nat) (w : World) (hx : x < 4294967296) :
    Calls Tryd.prog 48 #[.int .u32 x, .int .i64 17] w fun e w' => e = .returned (.int .u32 (ror 17 x : Nat)) ∧ ∃ n, w' = w.drewN n := by
  go_enter Tryd.func48, Tryd.ntmps48
  go_wp2
  go_quiet (fail)
  go_wp2
  go_ret
  refine ⟨retI ?_, nq, rfl⟩
  have h := u32_or_nat (x / 131072) (x * 32768 % 4294967296) (by omega) (by omega)
  rw [show ((x / 131072 : Nat) : Int) = (x : Int) / 131072 by omega, show ((x * 32768 % 4294967296 : Nat) : Int) = (x : Int) * 32768 % 4294967296 by omega] at h
  exact h
set_option maxHeartbeats 400000 in
theorem rot_18 (x : Nat) (w : World) (hx : x < 4294967296) :
    Calls Tryd.prog 48 #[.int .u32 x, .int .i64 18] w fun e w' => e = .returned (.int .u32 (ror 18 x : Nat)) ∧ ∃ n, w' = w.drewN n := by
  go_enter Tryd.func48, Tryd.ntmps48
  go_wp2
  go_quiet (fail)
  go_wp2
  go_ret
  refine ⟨retI ?_, nq, rfl⟩
  have h := u32_or_nat (x / 262144) (x * 16384 % 4294967296) (by omega) (by omega)
  rw [show ((x / 262144 : Nat) : Int) = (x : Int) / 262144 by omega, show ((x * 16384 % 4294967296 : Nat) : Int) = (x : Int) * 16384 % 4294967296 by omega] at h
  exact h
set_option maxHeartbeats 400000 in
theorem rot_19 (x : Nat) (w : World) (hx : x < 4294967296) :
    Calls Tryd.prog 48 #[.int .u32 x, .int .i64 19] w fun e w' => e = .returned (.int .u32 (ror 19 x : Nat)) ∧ ∃ n, w' = w.drewN n := by
  go_enter Tryd.func48, Tryd.ntmps48
  go_wp2
  go_quiet (fail)
  go_wp2
  go_ret
  refine ⟨retI ?_, nq, rfl⟩
  have h := u32_or_nat (x / 524288) (x * 8192 % 4294967296) (by omega) (by omega)
  rw [show ((x / 524288 : Nat) : Int) = (x : Int) / 524288 by omega, show ((x * 8192 % 4294967296 : Nat) : Int) = (x : Int) * 8192 % 4294967296 by omega] at h
  exact h
set_option maxHeartbeats 400000 in
theorem rot_22 (x : Nat) (w : World) (hx : x < 4294967296) :
    Calls Tryd.prog 48 #[.int .u32 x, .int .i64 22] w fun e w' => e = .returned (.int .u32 (ror 22 x : Nat)) ∧ ∃ n, w' = w.drewN n := by
  go_enter Tryd.func48, Tryd.ntmps48
  go_wp2
  go_quiet (fail)
  go_wp2
  go_ret
  refine ⟨retI ?_, nq, rfl⟩
  have h := u32_or_nat (x / 4194304) (x * 1024 % 4294967296) (by omega) (by omega)
  rw [show ((x / 4194304 : Nat) : Int) = (x : Int) / 4194304 by omega, show ((x * 1024 % 4294967296 : Nat) : Int) = (x : Int) * 1024 % 4294967296 by omega] at h
  exact h
set_option maxHeartbeats 400000 in
theorem rot_25 (x : Nat) (w : World) (hx : x < 4294967296) :
    Calls Tryd.prog 48 #[.int .u32 x, .int .i64 25] w fun e w' => e = .returned (.int .u32 (ror 25 x : Nat)) ∧ ∃ n, w' = w.drewN n := by
  go_enter Tryd.func48, Tryd.ntmps48
  go_wp2
  go_quiet (fail)
  go_wp2
  go_ret
  refine ⟨retI ?_, nq, rfl⟩
  have h := u32_or_nat (x / 33554432) (x * 128 % 4294967296) (by omega) (by omega)
  rw [show ((x / 33554432 : Nat) : Int) = (x : Int) / 33554432 by omega, show ((x * 128 % 4294967296 : Nat) : Int) = (x : Int) * 128 % 4294967296 by omega] at h
  exact h
/-- By how many bits it is turned here. -/
def turns (k : Int) : Bool := k = 2 || k = 6 || k = 7 || k = 11 || k = 13 || k = 17 || k = 18 || k = 19 || k = 22 || k = 25
theorem rot_any (x : Nat) (k : Int) (w : World) (hk : turns k = true) (hx : x < 4294967296) :
    Calls Tryd.prog 48 #[.int .u32 x, .int .i64 k] w fun e w' => e = .returned (.int .u32 (ror k.toNat x : Nat)) ∧ ∃ n, w' = w.drewN n := by
  have h : k = 2 ∨ k = 6 ∨ k = 7 ∨ k = 11 ∨ k = 13 ∨ k = 17 ∨ k = 18 ∨ k = 19 ∨ k = 22 ∨ k = 25 := by simpa [turns, or_assoc] using hk
  rcases h with rfl | rfl | rfl | rfl | rfl | rfl | rfl | rfl | rfl | rfl
  · exact rot_2 x w hx
  · exact rot_6 x w hx
  · exact rot_7 x w hx
  · exact rot_11 x w hx
  · exact rot_13 x w hx
  · exact rot_17 x w hx
  · exact rot_18 x w hx
  · exact rot_19 x w hx
  · exact rot_22 x w hx
  · exact rot_25 x w hx
end Go.Proofs.Sha
