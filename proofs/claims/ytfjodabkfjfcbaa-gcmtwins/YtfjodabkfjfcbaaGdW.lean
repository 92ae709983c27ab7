/-
  Package wire's Put with four bytes.
-/
import Derived.Test.YtfjodabkfjfcbaaProg
import Derived.Test.YtfjodabkfjfcbaaBeA
import Derived.WalkKit
import Derived.WalkSpells
import Derived.WalkLawsBesides
import Derived.Lib.Hide
import Derived.Laws.MakeOwn
import Derived.Laws.BytesArg
namespace Go.Proofs.Wp
open Go.RowKit
open Go.Proofs.Be (beS lt4 retS beS4)
theorem make4 (w : World) : (Instr.makeSlice 32 (.int .i64 0) (.int .i64 4)).run Try.prog w = .ok (.slice (some ⟨w.heap.size, 0, none⟩) 0 4) (w.alloc (.cells #[.int .u8 0, .int .u8 0, .int .u8 0, .int .u8 0] 5)) := by kernel_rfl
set_option maxHeartbeats 400000 in
theorem digits_4 (x : Nat) (w : World) (hx : x < 4294967296) :
    Calls Try.prog 56 #[.int .i64 x, .int .i64 4] w fun e w' => e = .returned (.string (beS x 4)) ∧ Below w.heap.size w w' := by
  have hmk := make4
  go_enter Try.func56, Try.ntmps56
  go_wp2
  rw [run_convert_bytes_arg (P := Try.prog) _ 32 5 Try.underlying32 Try.underlying5 w.heap.size 0 4 4 [(x : Int) / 16777216, (x : Int) / 65536 % 256, (x : Int) / 256 % 256, (x : Int) % 256] rfl (lt4 (by simp [go_sem]) (by simp [go_sem]) (by simp [go_sem]) (by simp [go_sem])) 9 Try.underlying9]
  go_wp2
  go_ret
  refine ⟨retS ?_, ?_⟩
  · rw [← beS4 x, show (x : Int) / 16777216 = (x : Int) / 256 / 256 / 256 % 256 by omega, show (x : Int) / 65536 % 256 = (x : Int) / 256 / 256 % 256 by omega]
  · repeat (first | exact Below.refl _ _ | refine Below.alloc ?_ (by simp; try omega) _)
set_option maxHeartbeats 400000 in
theorem put_4 (n : Nat) (w : World) (hx : n < 4294967296) :
    Calls Try.prog 53 #[.int .i64 n, .int .i64 4] w fun e w' => e = .returned (.tuple #[.string (beS n 4), .int .i64 0]) ∧ Below w.heap.size w w' := by
  have hd := Lib.hid (digits_4 n w hx)
  have hc : (n : Int) ≤ 4294967295 := by omega
  clear hx
  go_enter Try.func53, Try.ntmps53
  go_wp2_with (first | (go_at_call 56; refine hd.out.mono ?_; rintro e w' ⟨rfl, hbel⟩) | (go_at_call 55; go_in))
  go_ret2
  exact ⟨rfl, hbel⟩
end Go.Proofs.Wp
