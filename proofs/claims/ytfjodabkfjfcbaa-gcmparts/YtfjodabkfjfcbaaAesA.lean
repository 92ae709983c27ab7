/-
  The document's own answer: double, one block by a schedule.
-/
import Derived.Test.YtfjodabkfjfcbaaProg
import Derived.Test.YtfjodabkfjfcbaaAesM
import Derived.Handy
import Derived.BigQuiet
import Derived.Deep.QuietTactic
import Derived.Deep.OwnRows
import Derived.Deep.MidRow
import Derived.StillTailTactics
import Derived.WalkSmall
import Derived.Deep.DeepCutAuto
import Derived.Laws.BytesArg
namespace Go.Proofs.Aes
open Go.RowKit
theorem retI {k : IntKind} {a b : Int} (h : a = b) : Ending.returned (.int k a) = .returned (.int k b) := by rw [h]
set_option maxHeartbeats 400000 in
theorem double_any (x : Nat) (w : World) (hx : x < 256) :
    Calls Try.prog 35 #[.int .u8 x] w fun e w' => e = .returned (.int .u8 (dbl x : Nat)) ∧ w' = w := by
  by_cases h : 127 < x
  · have h1 : ((127 : Int) < (x : Int)) = True := eq_true (by omega)
    have HX := Lib.hid h
    clear h
    go_enter Try.func35, Try.ntmps35
    go_wp2
    go_ret
    refine ⟨retI ?_, rfl⟩
    have hd : dbl x = (x * 2 % 256) ^^^ 27 := by unfold dbl; rw [if_pos HX.out]
    rw [hd]
    have := u8_xor (x * 2 % 256) 27 (by omega) (by decide)
    rw [show ((x * 2 % 256 : Nat) : Int) = (x : Int) * 2 % 256 by omega] at this
    exact this
  · have h1 : ((127 : Int) < (x : Int)) = False := eq_false (by omega)
    have HX := Lib.hid h
    clear h
    go_enter Try.func35, Try.ntmps35
    go_wp2
    go_ret
    refine ⟨retI ?_, rfl⟩
    have hd : dbl x = x * 2 := by unfold dbl; rw [if_neg HX.out]
    rw [hd]; have := HX.out; omega
end Go.Proofs.Aes
