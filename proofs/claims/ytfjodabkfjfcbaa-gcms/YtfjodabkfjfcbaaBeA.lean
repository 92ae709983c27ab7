/-
  Contracts of the document's own answers: Be (4 and 8 bytes), padded.
-/
import Derived.Test.YtfjodabkfjfcbaaProg
import Derived.WalkKit
import Derived.WalkSpells
import Derived.Handy
import Derived.Lib.Hide
import Derived.Lib.Strings
import Derived.Laws.BitsAllLaws
import Derived.Laws.BytesArg
import Derived.Laws.MakeOwn
import Derived.Deep.RegionHeld3
import Derived.StillTailTactics
import Derived.WalkSmall
namespace Go.Proofs.Be
open Go.RowKit
/-- A number's bytes, k of them, the highest first. -/
def beL (x : Nat) : Nat → List UInt8
  | 0 => []
  | k + 1 => beL (x / 256) k ++ [UInt8.ofNat (x % 256)]
def beS (x k : Nat) : ByteArray := ⟨(beL x k).toArray⟩
theorem beL_length (x k : Nat) : (beL x k).length = k := by
  induction k generalizing x with
  | zero => rfl
  | succ k ih => simp [beL, ih]
theorem beS_size (x k : Nat) : (beS x k).size = k := by simp [beS, ByteArray.size, beL_length]
theorem beS_list (x k : Nat) : (beS x k).data.toList = beL x k := by simp [beS]
theorem and255 (x : Nat) (h : x < 9223372036854775808) : bits .and .i64 (x : Int) 255 = ((x % 256 : Nat) : Int) := by
  have hx : x &&& 255 < 2 ^ 63 := Nat.and_lt_two_pow _ (by omega)
  show IntKind.i64.wrap ((BitVec.ofInt 64 (x : Int) &&& BitVec.ofInt 64 ((255 : Nat) : Int)).toNat : Int) = _
  rw [BitVec.toNat_and, ofInt_u64 x (by omega), ofInt_u64 255 (by omega), nat_mask8] at *
  exact IntWalk.i64_in _ (by omega)
theorem and255i (y : Int) (h : 0 ≤ y) (h2 : y < 9223372036854775808) : bits .and .i64 y 255 % 256 = y % 256 := by
  obtain ⟨n, rfl⟩ := Int.eq_ofNat_of_zero_le h
  rw [and255 n (by omega)]; omega
theorem retS {s t : ByteArray} (h : s = t) : Ending.returned (.string s) = .returned (.string t) := by rw [h]

theorem lt4 {P : Nat → Prop} (h0 : P 0) (h1 : P 1) (h2 : P 2) (h3 : P 3) (i : Nat) (hi : i < 4) : P i := by
  match i, hi with
  | 0, _ => exact h0
  | 1, _ => exact h1
  | 2, _ => exact h2
  | 3, _ => exact h3
theorem beS4 (x : Nat) : strOfNums [(x : Int) / 256 / 256 / 256 % 256, (x : Int) / 256 / 256 % 256, (x : Int) / 256 % 256, (x : Int) % 256] = beS x 4 := by
  simp only [strOfNums, beS, beL, List.map, List.nil_append, List.cons_append]
  rw [show ((x : Int) / 256 / 256 / 256 % 256).toNat = x / 256 / 256 / 256 % 256 by omega, show ((x : Int) / 256 / 256 % 256).toNat = x / 256 / 256 % 256 by omega, show ((x : Int) / 256 % 256).toNat = x / 256 % 256 by omega, show ((x : Int) % 256).toNat = x % 256 by omega]
theorem makeN4 (w : World) : (Instr.makeSlice 32 (.int .i64 4) (.int .i64 4)).run Try.prog w = .ok (.slice (some ⟨w.heap.size, 0, none⟩) 4 4) (w.alloc (.cells #[.int .u8 0, .int .u8 0, .int .u8 0, .int .u8 0] 5)) := by kernel_rfl
set_option maxHeartbeats 2000000 in
set_option maxRecDepth 100000 in
theorem be_4 (x : Nat) (w : World) (hx : x < 4294967296) :
    Calls Try.prog 37 #[.int .i64 x, .int .i64 4] w fun e w' => e = .returned (.string (beS x 4)) ∧ Below w.heap.size w w' := by
  have hmk := makeN4
  have b0 : (x : Int) < 4611686018427387904 := by omega
  go_enter Try.func37, Try.ntmps37
  go_wp2
  go_rounds 5
  rw [run_convert_bytes_arg (P := Try.prog) _ 32 5 Try.underlying32 Try.underlying5 w.heap.size 0 4 4 [bits .and .i64 ((x : Int) / 256 / 256 / 256) 255 % 256, bits .and .i64 ((x : Int) / 256 / 256) 255 % 256, bits .and .i64 ((x : Int) / 256) 255 % 256, bits .and .i64 ((x : Int)) 255 % 256] rfl (lt4 (by simp [go_sem]) (by simp [go_sem]) (by simp [go_sem]) (by simp [go_sem])) 9 Try.underlying9]
  go_wp2
  go_ret
  refine ⟨retS ?_, Below.alloc (Below.refl _ _) (Nat.le_refl _) _⟩
  rw [and255i ((x : Int) / 256 / 256 / 256) (by omega) (by omega), and255i ((x : Int) / 256 / 256) (by omega) (by omega), and255i ((x : Int) / 256) (by omega) (by omega), and255i ((x : Int)) (by omega) (by omega)]
  exact beS4 x

theorem lt8 {P : Nat → Prop} (h0 : P 0) (h1 : P 1) (h2 : P 2) (h3 : P 3) (h4 : P 4) (h5 : P 5) (h6 : P 6) (h7 : P 7) (i : Nat) (hi : i < 8) : P i := by
  match i, hi with
  | 0, _ => exact h0
  | 1, _ => exact h1
  | 2, _ => exact h2
  | 3, _ => exact h3
  | 4, _ => exact h4
  | 5, _ => exact h5
  | 6, _ => exact h6
  | 7, _ => exact h7
theorem beS8 (x : Nat) : strOfNums [(x : Int) / 256 / 256 / 256 / 256 / 256 / 256 / 256 % 256, (x : Int) / 256 / 256 / 256 / 256 / 256 / 256 % 256, (x : Int) / 256 / 256 / 256 / 256 / 256 % 256, (x : Int) / 256 / 256 / 256 / 256 % 256, (x : Int) / 256 / 256 / 256 % 256, (x : Int) / 256 / 256 % 256, (x : Int) / 256 % 256, (x : Int) % 256] = beS x 8 := by
  simp only [strOfNums, beS, beL, List.map, List.nil_append, List.cons_append]
  rw [show ((x : Int) / 256 / 256 / 256 / 256 / 256 / 256 / 256 % 256).toNat = x / 256 / 256 / 256 / 256 / 256 / 256 / 256 % 256 by omega, show ((x : Int) / 256 / 256 / 256 / 256 / 256 / 256 % 256).toNat = x / 256 / 256 / 256 / 256 / 256 / 256 % 256 by omega, show ((x : Int) / 256 / 256 / 256 / 256 / 256 % 256).toNat = x / 256 / 256 / 256 / 256 / 256 % 256 by omega, show ((x : Int) / 256 / 256 / 256 / 256 % 256).toNat = x / 256 / 256 / 256 / 256 % 256 by omega, show ((x : Int) / 256 / 256 / 256 % 256).toNat = x / 256 / 256 / 256 % 256 by omega, show ((x : Int) / 256 / 256 % 256).toNat = x / 256 / 256 % 256 by omega, show ((x : Int) / 256 % 256).toNat = x / 256 % 256 by omega, show ((x : Int) % 256).toNat = x % 256 by omega]
theorem makeN8 (w : World) : (Instr.makeSlice 32 (.int .i64 8) (.int .i64 8)).run Try.prog w = .ok (.slice (some ⟨w.heap.size, 0, none⟩) 8 8) (w.alloc (.cells #[.int .u8 0, .int .u8 0, .int .u8 0, .int .u8 0, .int .u8 0, .int .u8 0, .int .u8 0, .int .u8 0] 5)) := by kernel_rfl
set_option maxHeartbeats 2000000 in
set_option maxRecDepth 100000 in
theorem be_8 (x : Nat) (w : World) (hx : x < 4611686018427387904) :
    Calls Try.prog 37 #[.int .i64 x, .int .i64 8] w fun e w' => e = .returned (.string (beS x 8)) ∧ Below w.heap.size w w' := by
  have hmk := makeN8
  have b0 : (x : Int) < 4611686018427387904 := by omega
  go_enter Try.func37, Try.ntmps37
  go_wp2
  go_rounds 9
  rw [run_convert_bytes_arg (P := Try.prog) _ 32 5 Try.underlying32 Try.underlying5 w.heap.size 0 8 8 [bits .and .i64 ((x : Int) / 256 / 256 / 256 / 256 / 256 / 256 / 256) 255 % 256, bits .and .i64 ((x : Int) / 256 / 256 / 256 / 256 / 256 / 256) 255 % 256, bits .and .i64 ((x : Int) / 256 / 256 / 256 / 256 / 256) 255 % 256, bits .and .i64 ((x : Int) / 256 / 256 / 256 / 256) 255 % 256, bits .and .i64 ((x : Int) / 256 / 256 / 256) 255 % 256, bits .and .i64 ((x : Int) / 256 / 256) 255 % 256, bits .and .i64 ((x : Int) / 256) 255 % 256, bits .and .i64 ((x : Int)) 255 % 256] rfl (lt8 (by simp [go_sem]) (by simp [go_sem]) (by simp [go_sem]) (by simp [go_sem]) (by simp [go_sem]) (by simp [go_sem]) (by simp [go_sem]) (by simp [go_sem])) 9 Try.underlying9]
  go_wp2
  go_ret
  refine ⟨retS ?_, Below.alloc (Below.refl _ _) (Nat.le_refl _) _⟩
  rw [and255i ((x : Int) / 256 / 256 / 256 / 256 / 256 / 256 / 256) (by omega) (by omega), and255i ((x : Int) / 256 / 256 / 256 / 256 / 256 / 256) (by omega) (by omega), and255i ((x : Int) / 256 / 256 / 256 / 256 / 256) (by omega) (by omega), and255i ((x : Int) / 256 / 256 / 256 / 256) (by omega) (by omega), and255i ((x : Int) / 256 / 256 / 256) (by omega) (by omega), and255i ((x : Int) / 256 / 256) (by omega) (by omega), and255i ((x : Int) / 256) (by omega) (by omega), and255i ((x : Int)) (by omega) (by omega)]
  exact beS8 x
end Go.Proofs.Be
