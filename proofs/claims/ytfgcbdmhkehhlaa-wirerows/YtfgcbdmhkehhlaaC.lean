/-
  awake answers true; it makes new memory alone.
-/
import Derived.Test.YtfgcbdmhkehhlaaB
namespace Go.Proofs.Ytfgcbdmhkehhlaa
open Go.RowKit

set_option maxHeartbeats 1000000 in
set_option maxRecDepth 100000 in
theorem awake_any (w : World) : Calls Try.prog 17 #[] w fun e w' => e = .returned (.bool true) ∧ Below w.heap.size w w' := by
  have k1 : ∀ w, Calls Try.prog 10 #[.string ⟨#[1, 2, 3]⟩, .int .i64 1] w fun e w' => e = .returned (.tuple #[.int .i64 515, .int .i64 3, .int .i64 0]) ∧ w = w' := fun w => u16_yes ⟨#[1, 2, 3]⟩ 1 w (by decide) (by decide)
  have k2 : ∀ w, Calls Try.prog 13 #[.string ⟨#[2, 97, 98, 122]⟩, .int .i64 0, .int .i64 1] w fun e w' => e = .returned (.tuple #[.string ⟨#[97, 98]⟩, .int .i64 3, .int .i64 0]) ∧ Below w.heap.size w w' := fun w => vec_yes ⟨#[2, 97, 98, 122]⟩ 0 1 w (by decide) (by decide) (by decide) (by decide) (by decide)
  have k3 : ∀ w, Calls Try.prog 18 #[.int .i64 258, .int .i64 3] w fun e w' => e = .returned (.tuple #[.string ⟨#[0, 1, 2]⟩, .int .i64 0]) ∧ Below w.heap.size w w' := fun w => put_yes 258 3 w (by decide)
  have k4 : ∀ w, Calls Try.prog 20 #[.string ⟨#[97, 98]⟩, .int .i64 2] w fun e w' => e = .returned (.tuple #[.string ⟨#[0, 2, 97, 98]⟩, .int .i64 0]) ∧ Below w.heap.size w w' := fun w => putVec_yes ⟨#[97, 98]⟩ 2 w (by decide)
  have k5 : ∀ w, Calls Try.prog 11 #[.string ⟨#[97, 98]⟩, .int .i64 0] w fun e w' => e = .returned (.tuple #[.int .i64 0, .int .i64 0, .int .i64 100]) ∧ w = w' := fun w => u24_no ⟨#[97, 98]⟩ 0 w (by decide) (by decide)
  have k6 : ∀ w, Calls Try.prog 13 #[.string ⟨#[5, 97]⟩, .int .i64 0, .int .i64 1] w fun e w' => e = .returned (.tuple #[.string ⟨#[]⟩, .int .i64 0, .int .i64 100]) ∧ w = w' := fun w => vec_short ⟨#[5, 97]⟩ 0 1 w (by decide) (by decide) (by decide) (by decide) (by decide)
  have K1 := Lib.hid k1; have K2 := Lib.hid k2; have K3 := Lib.hid k3; have K4 := Lib.hid k4; have K5 := Lib.hid k5; have K6 := Lib.hid k6
  clear k1 k2 k3 k4 k5 k6
  go_enter Try.func17, Try.ntmps17
  go_wp2_with fail
  refine (K1.out _).mono ?_
  rintro e w' ⟨rfl, rfl⟩
  go_wp2_with fail
  refine (K2.out _).mono ?_
  rintro e w2 ⟨rfl, b2⟩
  go_wp2_with fail
  refine (K3.out _).mono ?_
  rintro e w3 ⟨rfl, b3⟩
  go_wp2_with fail
  refine (K4.out _).mono ?_
  rintro e w4 ⟨rfl, b4⟩
  go_wp2_with fail
  refine (K5.out _).mono ?_
  rintro e w' ⟨rfl, rfl⟩
  go_wp2_with fail
  refine (K6.out _).mono ?_
  rintro e w' ⟨rfl, rfl⟩
  go_wp2
  go_ret
  exact ⟨rfl, b2.trans ((b3.mono b2.size).trans (b4.mono (Nat.le_trans b2.size b3.size)))⟩
end Go.Proofs.Ytfgcbdmhkehhlaa
