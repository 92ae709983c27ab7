/-
  Contracts of what package wire is made of: holds, number, digits.
-/
import Derived.Test.YtfgcbdmhkehhlaaRows
import Derived.Test.YtfgcbdmhkehhlaaM
import Derived.WalkKit
import Derived.WalkSpells
import Derived.WalkLawsBesides
namespace Go.Proofs.Ytfgcbdmhkehhlaa
open Go.RowKit

set_option maxHeartbeats 400000 in
theorem holds_any (s : ByteArray) (a k : Int) (w : World) (hs : s.size ≤ maxLen) :
    Calls Try.prog 24 #[.string s, .int .i64 a, .int .i64 k] w fun e w' => e = .returned (.bool (holdsB s.size a k)) ∧ w = w' := by
  unfold maxLen at hs
  by_cases h1 : 0 ≤ a
  · by_cases h2 : a ≤ s.size
    · go_enter Try.func24, Try.ntmps24
      go_wp2
      go_ret
      exact ⟨by simp [holdsB, h1, h2], rfl⟩
    · go_enter Try.func24, Try.ntmps24
      go_wp2
      go_ret
      exact ⟨by simp [holdsB, h1]; omega, rfl⟩
  · go_enter Try.func24, Try.ntmps24
    go_wp2
    go_ret
    exact ⟨by simp [holdsB]; omega, rfl⟩

set_option maxHeartbeats 400000 in
theorem number_no (s : ByteArray) (a k : Int) (w : World) (hs : s.size ≤ maxLen) (h : holdsB s.size a k = false) :
    Calls Try.prog 22 #[.string s, .int .i64 a, .int .i64 k] w fun e w' => e = .returned (.tuple #[.int .i64 0, .int .i64 0, .int .i64 100]) ∧ w = w' := by
  go_enter Try.func22, Try.ntmps22
  go_wp2_with (go_at_call 24; refine (holds_any _ _ _ _ hs).mono ?_; rintro e w' ⟨rfl, rfl⟩)
  go_ret3
  exact ⟨rfl, rfl⟩

set_option maxHeartbeats 400000 in
theorem number_1 (s : ByteArray) (n : Nat) (w : World) (hs : s.size ≤ maxLen) (h : n + 1 ≤ s.size) :
    Calls Try.prog 22 #[.string s, .int .i64 n, .int .i64 1] w fun e w' => e = .returned (.tuple #[.int .i64 (numV s n 1 : Nat), .int .i64 (n + 1), .int .i64 0]) ∧ w = w' := by
  have hh : holdsB s.size n 1 = true := by simp [holdsB]; omega
  have hs' := hs
  unfold maxLen at hs
  go_enter Try.func22, Try.ntmps22
  go_wp2_with (go_at_call 24; refine (holds_any _ _ _ _ hs').mono ?_; rintro e w' ⟨rfl, rfl⟩)
  go_ret3
  refine ⟨ret3 (int64 ?_) rfl rfl, rfl⟩
  simp only [get_byt]
  rw [numV1]
  exact or_1 _ (byt_lt _ _)

set_option maxHeartbeats 400000 in
theorem number_2 (s : ByteArray) (n : Nat) (w : World) (hs : s.size ≤ maxLen) (h : n + 2 ≤ s.size) :
    Calls Try.prog 22 #[.string s, .int .i64 n, .int .i64 2] w fun e w' => e = .returned (.tuple #[.int .i64 (numV s n 2 : Nat), .int .i64 (n + 2), .int .i64 0]) ∧ w = w' := by
  have hh : holdsB s.size n 2 = true := by simp [holdsB]; omega
  have hs' := hs
  unfold maxLen at hs
  go_enter Try.func22, Try.ntmps22
  go_wp2_with (go_at_call 24; refine (holds_any _ _ _ _ hs').mono ?_; rintro e w' ⟨rfl, rfl⟩)
  go_ret3
  refine ⟨ret3 (int64 ?_) rfl rfl, rfl⟩
  simp only [get_byt]
  rw [numV2]
  exact or_2 _ _ (byt_lt _ _) (byt_lt _ _)

set_option maxHeartbeats 400000 in
theorem number_3 (s : ByteArray) (n : Nat) (w : World) (hs : s.size ≤ maxLen) (h : n + 3 ≤ s.size) :
    Calls Try.prog 22 #[.string s, .int .i64 n, .int .i64 3] w fun e w' => e = .returned (.tuple #[.int .i64 (numV s n 3 : Nat), .int .i64 (n + 3), .int .i64 0]) ∧ w = w' := by
  have hh : holdsB s.size n 3 = true := by simp [holdsB]; omega
  have hs' := hs
  unfold maxLen at hs
  go_enter Try.func22, Try.ntmps22
  go_wp2_with (go_at_call 24; refine (holds_any _ _ _ _ hs').mono ?_; rintro e w' ⟨rfl, rfl⟩)
  go_ret3
  refine ⟨ret3 (int64 ?_) rfl rfl, rfl⟩
  simp only [get_byt]
  rw [numV3]
  exact or_3 _ _ _ (byt_lt _ _) (byt_lt _ _) (byt_lt _ _)

set_option maxHeartbeats 400000 in
theorem number_4 (s : ByteArray) (n : Nat) (w : World) (hs : s.size ≤ maxLen) (h : n + 4 ≤ s.size) :
    Calls Try.prog 22 #[.string s, .int .i64 n, .int .i64 4] w fun e w' => e = .returned (.tuple #[.int .i64 (numV s n 4 : Nat), .int .i64 (n + 4), .int .i64 0]) ∧ w = w' := by
  have hh : holdsB s.size n 4 = true := by simp [holdsB]; omega
  have hs' := hs
  unfold maxLen at hs
  go_enter Try.func22, Try.ntmps22
  go_wp2_with (go_at_call 24; refine (holds_any _ _ _ _ hs').mono ?_; rintro e w' ⟨rfl, rfl⟩)
  go_ret3
  refine ⟨ret3 (int64 ?_) rfl rfl, rfl⟩
  simp only [get_byt]
  rw [numV4]
  exact or_4 _ _ _ _ (byt_lt _ _) (byt_lt _ _) (byt_lt _ _) (byt_lt _ _)

theorem number_yes (s : ByteArray) (a k : Int) (w : World) (hs : s.size ≤ maxLen) (h1 : 1 ≤ k) (h4 : k ≤ 4) (h : holdsB s.size a k = true) :
    Calls Try.prog 22 #[.string s, .int .i64 a, .int .i64 k] w fun e w' => e = .returned (.tuple #[.int .i64 (numV s a.toNat k.toNat : Nat), .int .i64 (a + k), .int .i64 0]) ∧ w = w' := by
  have hh : 0 ≤ a ∧ a ≤ s.size ∧ k ≤ s.size - a := by simpa [holdsB] using h
  obtain ⟨n, rfl⟩ := Int.eq_ofNat_of_zero_le hh.1
  rw [Int.toNat_natCast]
  have hk : k = 1 ∨ k = 2 ∨ k = 3 ∨ k = 4 := by omega
  rcases hk with rfl | rfl | rfl | rfl
  · exact number_1 s n w hs (by omega)
  · exact number_2 s n w hs (by omega)
  · exact number_3 s n w hs (by omega)
  · exact number_4 s n w hs (by omega)

theorem make4 (w : World) : (Instr.makeSlice 44 (.int .i64 0) (.int .i64 4)).run Try.prog w = .ok (.slice (some ⟨w.heap.size, 0, none⟩) 0 4) (w.alloc (.cells #[.int .u8 0, .int .u8 0, .int .u8 0, .int .u8 0] 5)) := by kernel_rfl

theorem lt4 {P : Nat → Prop} (h0 : P 0) (h1 : P 1) (h2 : P 2) (h3 : P 3) (i : Nat) (hi : i < 4) : P i := by
  match i, hi with
  | 0, _ => exact h0
  | 1, _ => exact h1
  | 2, _ => exact h2
  | 3, _ => exact h3
theorem lt3 {P : Nat → Prop} (h0 : P 0) (h1 : P 1) (h2 : P 2) (i : Nat) (hi : i < 3) : P i := by
  match i, hi with
  | 0, _ => exact h0
  | 1, _ => exact h1
  | 2, _ => exact h2
theorem lt2 {P : Nat → Prop} (h0 : P 0) (h1 : P 1) (i : Nat) (hi : i < 2) : P i := by
  match i, hi with
  | 0, _ => exact h0
  | 1, _ => exact h1
theorem lt1 {P : Nat → Prop} (h0 : P 0) (i : Nat) (hi : i < 1) : P i := by
  match i, hi with
  | 0, _ => exact h0
theorem retS {s t : ByteArray} (h : s = t) : Ending.returned (.string s) = .returned (.string t) := by rw [h]

set_option maxHeartbeats 400000 in
theorem digits_1 (x : Nat) (w : World) (hx : x < 256) :
    Calls Try.prog 27 #[.int .i64 x, .int .i64 1] w fun e w' => e = .returned (.string (beS x 1)) ∧ Below w.heap.size w w' := by
  have hmk := make4
  go_enter Try.func27, Try.ntmps27
  go_wp2
  rw [run_convert_bytes_arg (P := Try.prog) _ 44 5 Try.underlying44 Try.underlying5 w.heap.size 0 1 4 [(x : Int)] rfl (lt1 (by simp [go_sem])) 9 Try.underlying9]
  go_wp2
  go_ret
  refine ⟨retS ?_, ?_⟩
  · rw [show (x : Int) = (x : Int) % 256 by omega]; exact beS1 x
  · repeat (first | exact Below.refl _ _ | refine Below.alloc ?_ (by simp; try omega) _)

set_option maxHeartbeats 400000 in
theorem digits_2 (x : Nat) (w : World) (hx : x < 65536) :
    Calls Try.prog 27 #[.int .i64 x, .int .i64 2] w fun e w' => e = .returned (.string (beS x 2)) ∧ Below w.heap.size w w' := by
  have hmk := make4
  go_enter Try.func27, Try.ntmps27
  go_wp2
  rw [run_convert_bytes_arg (P := Try.prog) _ 44 5 Try.underlying44 Try.underlying5 w.heap.size 0 2 4 [(x : Int) / 256, (x : Int) % 256] rfl (lt2 (by simp [go_sem]) (by simp [go_sem])) 9 Try.underlying9]
  go_wp2
  go_ret
  refine ⟨retS ?_, ?_⟩
  · rw [show (x : Int) / 256 = (x : Int) / 256 % 256 by omega]; exact beS2 x
  · repeat (first | exact Below.refl _ _ | refine Below.alloc ?_ (by simp; try omega) _)

set_option maxHeartbeats 400000 in
theorem digits_3 (x : Nat) (w : World) (hx : x < 16777216) :
    Calls Try.prog 27 #[.int .i64 x, .int .i64 3] w fun e w' => e = .returned (.string (beS x 3)) ∧ Below w.heap.size w w' := by
  have hmk := make4
  go_enter Try.func27, Try.ntmps27
  go_wp2
  rw [run_convert_bytes_arg (P := Try.prog) _ 44 5 Try.underlying44 Try.underlying5 w.heap.size 0 3 4 [(x : Int) / 65536, (x : Int) / 256 % 256, (x : Int) % 256] rfl (lt3 (by simp [go_sem]) (by simp [go_sem]) (by simp [go_sem])) 9 Try.underlying9]
  go_wp2
  go_ret
  refine ⟨retS ?_, ?_⟩
  · rw [show (x : Int) / 65536 = (x : Int) / 65536 % 256 by omega]; exact beS3 x
  · repeat (first | exact Below.refl _ _ | refine Below.alloc ?_ (by simp; try omega) _)

set_option maxHeartbeats 400000 in
theorem digits_4 (x : Nat) (w : World) (hx : x < 4294967296) :
    Calls Try.prog 27 #[.int .i64 x, .int .i64 4] w fun e w' => e = .returned (.string (beS x 4)) ∧ Below w.heap.size w w' := by
  have hmk := make4
  go_enter Try.func27, Try.ntmps27
  go_wp2
  rw [run_convert_bytes_arg (P := Try.prog) _ 44 5 Try.underlying44 Try.underlying5 w.heap.size 0 4 4 [(x : Int) / 16777216, (x : Int) / 65536 % 256, (x : Int) / 256 % 256, (x : Int) % 256] rfl (lt4 (by simp [go_sem]) (by simp [go_sem]) (by simp [go_sem]) (by simp [go_sem])) 9 Try.underlying9]
  go_wp2
  go_ret
  refine ⟨retS ?_, ?_⟩
  · rw [show (x : Int) / 16777216 = (x : Int) / 16777216 % 256 by omega]; exact beS4 x
  · repeat (first | exact Below.refl _ _ | refine Below.alloc ?_ (by simp; try omega) _)
end Go.Proofs.Ytfgcbdmhkehhlaa
