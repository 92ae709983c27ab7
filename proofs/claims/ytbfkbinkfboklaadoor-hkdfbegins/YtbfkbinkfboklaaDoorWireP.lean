/-
  Contracts of package wire, writing alone: digits, Put, PutVec.
-/
import Derived.Test.YtbfkbinkfboklaaDoorProg
import Derived.Test.YtbfkbinkfboklaaDoorWireM
import Derived.WalkKit
import Derived.WalkSpells
import Derived.WalkLawsBesides
import Derived.Lib.Hide
import Derived.Laws.MakeOwn
namespace Go.Proofs.Wire
open Go.RowKit

theorem make4 (w : World) : (Instr.makeSlice 35 (.int .i64 0) (.int .i64 4)).run Tryd.prog w = .ok (.slice (some ⟨w.heap.size, 0, none⟩) 0 4) (w.alloc (.cells #[.int .u8 0, .int .u8 0, .int .u8 0, .int .u8 0] 5)) := by kernel_rfl

theorem lt4 {P : Nat → Prop} (h0 : P 0) (h1 : P 1) (h2 : P 2) (h3 : P 3) (i : Nat) (hi : i < 4) : P i := by
  match i, hi with
  | 0, _ => exact h0
  | 1, _ => exact h1
  | 2, _ => exact h2
  | 3, _ => exact h3
theorem lt3 {P : Nat → Prop} (h0 : P 0) (h1 : P 1) (h2 : P 2) (i : Nat) (hi : i < 3) : P i := by
  match i, hi with
  | 0, _ => exact h0
  | 1, _ => exact h1
  | 2, _ => exact h2
theorem lt2 {P : Nat → Prop} (h0 : P 0) (h1 : P 1) (i : Nat) (hi : i < 2) : P i := by
  match i, hi with
  | 0, _ => exact h0
  | 1, _ => exact h1
theorem lt1 {P : Nat → Prop} (h0 : P 0) (i : Nat) (hi : i < 1) : P i := by
  match i, hi with
  | 0, _ => exact h0
theorem retS {s t : ByteArray} (h : s = t) : Ending.returned (.string s) = .returned (.string t) := by rw [h]

set_option maxHeartbeats 400000 in
theorem digits_1 (x : Nat) (w : World) (hx : x < 256) :
    Calls Tryd.prog 46 #[.int .i64 x, .int .i64 1] w fun e w' => e = .returned (.string (beS x 1)) ∧ Below w.heap.size w w' := by
  have hmk := make4
  go_enter Tryd.func46, Tryd.ntmps46
  go_wp2
  rw [run_convert_bytes_arg (P := Tryd.prog) _ 35 5 Tryd.underlying35 Tryd.underlying5 w.heap.size 0 1 4 [(x : Int)] rfl (lt1 (by simp [go_sem])) 9 Tryd.underlying9]
  go_wp2
  go_ret
  refine ⟨retS ?_, ?_⟩
  · rw [show (x : Int) = (x : Int) % 256 by omega]; exact beS1 x
  · repeat (first | exact Below.refl _ _ | refine Below.alloc ?_ (by simp; try omega) _)

set_option maxHeartbeats 400000 in
theorem digits_2 (x : Nat) (w : World) (hx : x < 65536) :
    Calls Tryd.prog 46 #[.int .i64 x, .int .i64 2] w fun e w' => e = .returned (.string (beS x 2)) ∧ Below w.heap.size w w' := by
  have hmk := make4
  go_enter Tryd.func46, Tryd.ntmps46
  go_wp2
  rw [run_convert_bytes_arg (P := Tryd.prog) _ 35 5 Tryd.underlying35 Tryd.underlying5 w.heap.size 0 2 4 [(x : Int) / 256, (x : Int) % 256] rfl (lt2 (by simp [go_sem]) (by simp [go_sem])) 9 Tryd.underlying9]
  go_wp2
  go_ret
  refine ⟨retS ?_, ?_⟩
  · rw [show (x : Int) / 256 = (x : Int) / 256 % 256 by omega]; exact beS2 x
  · repeat (first | exact Below.refl _ _ | refine Below.alloc ?_ (by simp; try omega) _)

set_option maxHeartbeats 400000 in
theorem digits_3 (x : Nat) (w : World) (hx : x < 16777216) :
    Calls Tryd.prog 46 #[.int .i64 x, .int .i64 3] w fun e w' => e = .returned (.string (beS x 3)) ∧ Below w.heap.size w w' := by
  have hmk := make4
  go_enter Tryd.func46, Tryd.ntmps46
  go_wp2
  rw [run_convert_bytes_arg (P := Tryd.prog) _ 35 5 Tryd.underlying35 Tryd.underlying5 w.heap.size 0 3 4 [(x : Int) / 65536, (x : Int) / 256 % 256, (x : Int) % 256] rfl (lt3 (by simp [go_sem]) (by simp [go_sem]) (by simp [go_sem])) 9 Tryd.underlying9]
  go_wp2
  go_ret
  refine ⟨retS ?_, ?_⟩
  · rw [show (x : Int) / 65536 = (x : Int) / 65536 % 256 by omega]; exact beS3 x
  · repeat (first | exact Below.refl _ _ | refine Below.alloc ?_ (by simp; try omega) _)

set_option maxHeartbeats 400000 in
theorem digits_4 (x : Nat) (w : World) (hx : x < 4294967296) :
    Calls Tryd.prog 46 #[.int .i64 x, .int .i64 4] w fun e w' => e = .returned (.string (beS x 4)) ∧ Below w.heap.size w w' := by
  have hmk := make4
  go_enter Tryd.func46, Tryd.ntmps46
  go_wp2
  rw [run_convert_bytes_arg (P := Tryd.prog) _ 35 5 Tryd.underlying35 Tryd.underlying5 w.heap.size 0 4 4 [(x : Int) / 16777216, (x : Int) / 65536 % 256, (x : Int) / 256 % 256, (x : Int) % 256] rfl (lt4 (by simp [go_sem]) (by simp [go_sem]) (by simp [go_sem]) (by simp [go_sem])) 9 Tryd.underlying9]
  go_wp2
  go_ret
  refine ⟨retS ?_, ?_⟩
  · rw [show (x : Int) / 16777216 = (x : Int) / 16777216 % 256 by omega]; exact beS4 x
  · repeat (first | exact Below.refl _ _ | refine Below.alloc ?_ (by simp; try omega) _)
theorem ret2 {a b : Value} {a' b' : Value} (h : a = a') (h2 : b = b') : Ending.returned (.tuple #[a, b]) = .returned (.tuple #[a', b']) := by rw [h, h2]

theorem digits_any (x k : Int) (w : World) (h1 : 1 ≤ k) (h4 : k ≤ 4) (h0 : 0 ≤ x) (hx : x.toNat < 256 ^ k.toNat) :
    Calls Tryd.prog 46 #[.int .i64 x, .int .i64 k] w fun e w' => e = .returned (.string (beS x.toNat k.toNat)) ∧ Below w.heap.size w w' := by
  obtain ⟨n, rfl⟩ := Int.eq_ofNat_of_zero_le h0
  rw [Int.toNat_natCast] at *
  have hk : k = 1 ∨ k = 2 ∨ k = 3 ∨ k = 4 := by omega
  rcases hk with rfl | rfl | rfl | rfl
  · exact digits_1 n w (by simpa using hx)
  · exact digits_2 n w (by simpa using hx)
  · exact digits_3 n w (by simpa using hx)
  · exact digits_4 n w (by simpa using hx)

/-- x fits into k bytes. -/
def fitsB (x k : Int) : Bool := decide (1 ≤ k ∧ k ≤ 4 ∧ 0 ≤ x ∧ x < 256 ^ k.toNat)

set_option maxHeartbeats 400000 in
theorem put_1 (n : Nat) (w : World) (hx : n < 256) :
    Calls Tryd.prog 34 #[.int .i64 n, .int .i64 1] w fun e w' => e = .returned (.tuple #[.string (beS n 1), .int .i64 0]) ∧ Below w.heap.size w w' := by
  have hd := Lib.hid (digits_1 n w hx)
  have hc : (n : Int) ≤ 255 := by omega
  clear hx
  go_enter Tryd.func34, Tryd.ntmps34
  go_wp2_with (first | (go_at_call 46; refine hd.out.mono ?_; rintro e w' ⟨rfl, hbel⟩) | (go_at_call 45; go_in))
  go_ret2
  exact ⟨rfl, hbel⟩
set_option maxHeartbeats 400000 in
theorem put_2 (n : Nat) (w : World) (hx : n < 65536) :
    Calls Tryd.prog 34 #[.int .i64 n, .int .i64 2] w fun e w' => e = .returned (.tuple #[.string (beS n 2), .int .i64 0]) ∧ Below w.heap.size w w' := by
  have hd := Lib.hid (digits_2 n w hx)
  have hc : (n : Int) ≤ 65535 := by omega
  clear hx
  go_enter Tryd.func34, Tryd.ntmps34
  go_wp2_with (first | (go_at_call 46; refine hd.out.mono ?_; rintro e w' ⟨rfl, hbel⟩) | (go_at_call 45; go_in))
  go_ret2
  exact ⟨rfl, hbel⟩
set_option maxHeartbeats 400000 in
theorem put_3 (n : Nat) (w : World) (hx : n < 16777216) :
    Calls Tryd.prog 34 #[.int .i64 n, .int .i64 3] w fun e w' => e = .returned (.tuple #[.string (beS n 3), .int .i64 0]) ∧ Below w.heap.size w w' := by
  have hd := Lib.hid (digits_3 n w hx)
  have hc : (n : Int) ≤ 16777215 := by omega
  clear hx
  go_enter Tryd.func34, Tryd.ntmps34
  go_wp2_with (first | (go_at_call 46; refine hd.out.mono ?_; rintro e w' ⟨rfl, hbel⟩) | (go_at_call 45; go_in))
  go_ret2
  exact ⟨rfl, hbel⟩
set_option maxHeartbeats 400000 in
theorem put_4 (n : Nat) (w : World) (hx : n < 4294967296) :
    Calls Tryd.prog 34 #[.int .i64 n, .int .i64 4] w fun e w' => e = .returned (.tuple #[.string (beS n 4), .int .i64 0]) ∧ Below w.heap.size w w' := by
  have hd := Lib.hid (digits_4 n w hx)
  have hc : (n : Int) ≤ 4294967295 := by omega
  clear hx
  go_enter Tryd.func34, Tryd.ntmps34
  go_wp2_with (first | (go_at_call 46; refine hd.out.mono ?_; rintro e w' ⟨rfl, hbel⟩) | (go_at_call 45; go_in))
  go_ret2
  exact ⟨rfl, hbel⟩
theorem put_yes (x k : Int) (w : World) (h : fitsB x k = true) :
    Calls Tryd.prog 34 #[.int .i64 x, .int .i64 k] w fun e w' => e = .returned (.tuple #[.string (beS x.toNat k.toNat), .int .i64 0]) ∧ Below w.heap.size w w' := by
  have hh : 1 ≤ k ∧ k ≤ 4 ∧ 0 ≤ x ∧ x < 256 ^ k.toNat := by simpa [fitsB] using h
  obtain ⟨h1, h4, h0, hx⟩ := hh
  obtain ⟨n, rfl⟩ := Int.eq_ofNat_of_zero_le h0
  rw [Int.toNat_natCast]
  have hk : k = 1 ∨ k = 2 ∨ k = 3 ∨ k = 4 := by omega
  rcases hk with rfl | rfl | rfl | rfl
  · exact put_1 n w (by have := hx; simp at this; omega)
  · exact put_2 n w (by have := hx; simp at this; omega)
  · exact put_3 n w (by have := hx; simp at this; omega)
  · exact put_4 n w (by have := hx; simp at this; omega)
set_option maxHeartbeats 400000 in
theorem put_no (x k : Int) (w : World) (h : fitsB x k = false) :
    Calls Tryd.prog 34 #[.int .i64 x, .int .i64 k] w fun e w' => e = .returned (.tuple #[.string ⟨#[]⟩, .int .i64 101]) ∧ w = w' := by
  by_cases h1 : k < 1
  · clear h
    go_enter Tryd.func34, Tryd.ntmps34
    go_wp2
    go_ret2
    exact ⟨rfl, rfl⟩
  · by_cases h4 : 4 < k
    · clear h
      go_enter Tryd.func34, Tryd.ntmps34
      go_wp2
      go_ret2
      exact ⟨rfl, rfl⟩
    · by_cases h0 : x < 0
      · clear h
        go_enter Tryd.func34, Tryd.ntmps34
        go_wp2
        go_ret2
        exact ⟨rfl, rfl⟩
      · have hh : ¬ (x < 256 ^ k.toNat) := by
          intro hx
          have : fitsB x k = true := by simp [fitsB]; exact ⟨by omega, by omega, by omega, hx⟩
          rw [h] at this; cases this
        clear h
        have hk : k = 1 ∨ k = 2 ∨ k = 3 ∨ k = 4 := by omega
        rcases hk with rfl | rfl | rfl | rfl
        all_goals
          simp at hh
          go_enter Tryd.func34, Tryd.ntmps34
          go_wp2
          go_ret2
          exact ⟨rfl, rfl⟩
/-- A text of n bytes has a length of k bytes. -/
def lenB (n : Nat) (k : Int) : Bool := decide (1 ≤ k ∧ k ≤ 3 ∧ n < 256 ^ k.toNat)
set_option maxHeartbeats 400000 in
theorem putVec_yes (s : ByteArray) (k : Int) (w : World) (h : lenB s.size k = true) :
    Calls Tryd.prog 35 #[.string s, .int .i64 k] w fun e w' => e = .returned (.tuple #[.string (beS s.size k.toNat ++ s), .int .i64 0]) ∧ Below w.heap.size w w' := by
  have hh : 1 ≤ k ∧ k ≤ 3 ∧ s.size < 256 ^ k.toNat := by simpa [lenB] using h
  obtain ⟨h1, h3, hx⟩ := hh
  clear h
  have hk : k = 1 ∨ k = 2 ∨ k = 3 := by omega
  rcases hk with rfl | rfl | rfl
  all_goals
    simp at hx
    go_enter Tryd.func35, Tryd.ntmps35
    go_wp2_with (first | (go_at_call 45; go_in) | (go_at_call 47; go_in))
    refine (digits_any _ _ _ (by omega) (by omega) (by omega) (by simp; omega)).mono ?_
    rintro e w' ⟨rfl, hbel⟩
    have hz : ∀ x k, (beS x k).size = k := beS_size
    go_wp2
    go_ret2
    exact ⟨rfl, hbel⟩
set_option maxHeartbeats 400000 in
theorem putVec_no (s : ByteArray) (k : Int) (w : World) (h : lenB s.size k = false) :
    Calls Tryd.prog 35 #[.string s, .int .i64 k] w fun e w' => e = .returned (.tuple #[.string ⟨#[]⟩, .int .i64 101]) ∧ w = w' := by
  by_cases h1 : 1 ≤ k
  · by_cases h3 : k ≤ 3
    · have hh : ¬ (s.size < 256 ^ k.toNat) := by
        intro hx
        have : lenB s.size k = true := by simp [lenB]; exact ⟨by omega, by omega, hx⟩
        rw [h] at this; cases this
      clear h
      have hk : k = 1 ∨ k = 2 ∨ k = 3 := by omega
      rcases hk with rfl | rfl | rfl
      all_goals
        simp at hh
        go_enter Tryd.func35, Tryd.ntmps35
        go_wp2
        go_ret2
        exact ⟨rfl, rfl⟩
    · clear h
      go_enter Tryd.func35, Tryd.ntmps35
      go_wp2
      go_ret2
      exact ⟨rfl, rfl⟩
  · clear h
    go_enter Tryd.func35, Tryd.ntmps35
    go_wp2
    go_ret2
    exact ⟨rfl, rfl⟩
end Go.Proofs.Wire
