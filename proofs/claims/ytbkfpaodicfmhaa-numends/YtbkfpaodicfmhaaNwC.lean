/-
  For layer 9's laws: calls with numbers; what halberdlaw9's awake answers.
-/
import Derived.Test.YtbkfpaodicfmhaaNdV
import Derived.Test.YtbkfpaodicfmhaaNwB
import Derived.Test.YtbkfpaodicfmhaaNtG
namespace Go.Proofs.Nw
open Go.RowKit Go.Proofs.Nu
open Go.Proofs.Nt
theorem md_two (z : Int) : md z < 2 ^ 256 := by have := md_lt z; rwa [show (2 : Nat) ^ 256 = B8 from b8.symm]
theorem bn_num {z : Int} {A : Nat} (hA : A < md z) : bn (t32 A) = A := bn_t32 (Nat.lt_trans hA (md_two z))
theorem num_ok {z : Int} {A : Nat} (hz : 0 ≤ z ∧ z ≤ 2) (hA : A < md z) : numOk z (t32 A) = true := (numOk_iff _ _).2 ⟨hz, t32_size A, by rw [bn_num hA]; exact hA⟩
theorem both_ok {z : Int} {A B : Nat} (hz : 0 ≤ z ∧ z ≤ 2) (hA : A < md z) (hB : B < md z) : c9Ok z (t32 A) (t32 B) = true := by unfold c9Ok; rw [num_ok hz hA, num_ok hz hB]; rfl
theorem add_num {z : Int} {A B : Nat} (hz : 0 ≤ z ∧ z ≤ 2) (hA : A < md z) (hB : B < md z) (w : World) :
    Calls Try.prog 8 #[.int .i64 z, .string (t32 A), .string (t32 B)] w fun e w' => e = .returned (.tuple #[.string (t32 ((A + B) % md z)), .int .i64 0]) ∧ Below w.heap.size w w' := by
  have h := Nd.add_any z (t32 A) (t32 B) w
  unfold c9S c9E c9X at h
  rw [both_ok hz hA hB, bn_num hA, bn_num hB] at h
  exact h
theorem sub_num {z : Int} {A B : Nat} (hz : 0 ≤ z ∧ z ≤ 2) (hA : A < md z) (hB : B < md z) (w : World) :
    Calls Try.prog 10 #[.int .i64 z, .string (t32 A), .string (t32 B)] w fun e w' => e = .returned (.tuple #[.string (t32 ((A + md z - B) % md z)), .int .i64 0]) ∧ Below w.heap.size w w' := by
  have h := Nd.sub_any z (t32 A) (t32 B) w
  unfold c9S c9E c9X at h
  rw [both_ok hz hA hB, bn_num hA, bn_num hB] at h
  exact h
theorem mul_num {z : Int} {A B : Nat} (hz : 0 ≤ z ∧ z ≤ 2) (hA : A < md z) (hB : B < md z) (w : World) :
    Calls Try.prog 11 #[.int .i64 z, .string (t32 A), .string (t32 B)] w fun e w' => e = .returned (.tuple #[.string (t32 (A * B % md z)), .int .i64 0]) ∧ Below w.heap.size w w' := by
  have h := Nd.mul_any z (t32 A) (t32 B) w
  unfold c9S c9E c9X at h
  rw [both_ok hz hA hB, bn_num hA, bn_num hB] at h
  exact h
theorem inv_num {z : Int} {A : Nat} (hz : 0 ≤ z ∧ z ≤ 2) (hA : A < md z) (h0 : ¬ A = 0) (w : World) :
    Calls Try.prog 12 #[.int .i64 z, .string (t32 A)] w fun e w' => e = .returned (.tuple #[.string (t32 (vi (md z) A)), .int .i64 0]) ∧ Below w.heap.size w w' := by
  have h := Nd.inv_any z (t32 A) w
  unfold i9S i9E i9Ok at h
  rw [num_ok hz hA, bn_num hA, decide_eq_false h0] at h
  exact h
theorem inv_zero {z : Int} (hz : 0 ≤ z ∧ z ≤ 2) (w : World) :
    Calls Try.prog 12 #[.int .i64 z, .string (t32 0)] w fun e w' => e = .returned (.tuple #[.string ⟨#[]⟩, .int .i64 900]) ∧ Below w.heap.size w w' := by
  have h := Nd.inv_any z (t32 0) w
  unfold i9S i9E i9Ok at h
  rw [num_ok hz (md_pos z), bn_num (md_pos z)] at h
  exact h
theorem no_left {z : Int} {a b : ByteArray} (h : numOk z a = false) : c9Ok z a b = false := by unfold c9Ok; rw [h]; rfl
theorem no_right {z : Int} {a b : ByteArray} (h : numOk z b = false) : c9Ok z a b = false := by unfold c9Ok; rw [h, Bool.and_false]
theorem no_empty (z : Int) : numOk z ⟨#[]⟩ = false := by unfold numOk; rw [decide_eq_false (show ¬ (⟨#[]⟩ : ByteArray).size = 32 by decide), Bool.false_and, Bool.and_false]
theorem add_bad {z : Int} {a b : ByteArray} (h : c9Ok z a b = false) (w : World) :
    Calls Try.prog 8 #[.int .i64 z, .string a, .string b] w fun e w' => e = .returned (.tuple #[.string ⟨#[]⟩, .int .i64 900]) ∧ Below w.heap.size w w' := by
  have h2 := Nd.add_any z a b w
  unfold c9S c9E at h2
  rw [h] at h2
  exact h2
theorem sub_bad {z : Int} {a b : ByteArray} (h : c9Ok z a b = false) (w : World) :
    Calls Try.prog 10 #[.int .i64 z, .string a, .string b] w fun e w' => e = .returned (.tuple #[.string ⟨#[]⟩, .int .i64 900]) ∧ Below w.heap.size w w' := by
  have h2 := Nd.sub_any z a b w
  unfold c9S c9E at h2
  rw [h] at h2
  exact h2
theorem mul_bad {z : Int} {a b : ByteArray} (h : c9Ok z a b = false) (w : World) :
    Calls Try.prog 11 #[.int .i64 z, .string a, .string b] w fun e w' => e = .returned (.tuple #[.string ⟨#[]⟩, .int .i64 900]) ∧ Below w.heap.size w w' := by
  have h2 := Nd.mul_any z a b w
  unfold c9S c9E at h2
  rw [h] at h2
  exact h2
theorem inv_bad {z : Int} {a : ByteArray} (h : numOk z a = false) (w : World) :
    Calls Try.prog 12 #[.int .i64 z, .string a] w fun e w' => e = .returned (.tuple #[.string ⟨#[]⟩, .int .i64 900]) ∧ Below w.heap.size w w' := by
  have h2 := Nd.inv_any z a w
  unfold i9S i9E i9Ok at h2
  rw [h] at h2
  exact h2
theorem red_num (z : Int) (s : ByteArray) (hz : 0 ≤ z ∧ z ≤ 2) : ∃ A, A < md z ∧ redS z s = t32 A := by
  obtain ⟨_, h2, h3⟩ := (numOk_iff _ _).1 (redS_ok z s hz)
  exact ⟨bn (redS z s), h3, (t32_bn h2).symm⟩
theorem third_of (x : Int) : ∃ q : Nat, q ≤ 2 ∧ (IntKind.u64.wrap x).tmod 3 = (q : Int) ∧ (IntKind.u64.wrap x) % 3 = (q : Int) := by
  have h0 : 0 ≤ IntKind.u64.wrap x := by show 0 ≤ x % 18446744073709551616; omega
  refine ⟨(IntKind.u64.wrap x % 3).toNat, by omega, ?_, by omega⟩
  rw [Int.tmod_eq_emod_of_nonneg h0]
  omega
theorem t32_ne {A B : Nat} {z : Int} (hA : A < md z) (hB : B < md z) (h : ¬ A = B) : ((t32 A).toList == (t32 B).toList) = false := by
  rw [Bool.eq_false_iff]
  intro c
  rw [beq_iff_eq, ByteArray.toList_eq, ByteArray.toList_eq] at c
  have e : t32 A = t32 B := ByteArray.ext (Array.toList_inj.1 c)
  exact h (by rw [← bn_num hA, ← bn_num hB, e])
theorem small_lt (z : Int) {A : Nat} (h : A < 1000000000000) : A < md z := Nat.lt_trans (Nat.lt_trans h (by decide)) (md_big z)
theorem vi_unit {m : Nat} (h : 1 < m) : vi m 1 = 1 := by
  unfold vi
  rw [Nat.one_pow, Nat.mod_eq_of_lt h]
set_option maxHeartbeats 2000000 in
set_option maxRecDepth 20000 in
theorem awake9_any (w : World) : Calls Try.prog 15 #[] w fun e w' => e = .returned (.bool true) ∧ Below w.heap.size w w' := by
  have HW : Hid (∀ (x : Nat), x < 1000 → ∀ w, Calls Try.prog 17 #[.int .i64 (x : Nat)] w fun e w' => e = .returned (.string (t32 x)) ∧ Below w.heap.size w w') := fun x hx w => word_any x w (by omega)
  have a1 : Hid (∀ w, Calls Try.prog 8 #[.int .i64 0, .string (t32 5), .string (t32 7)] w fun e w' => e = .returned (.tuple #[.string (t32 12), .int .i64 0]) ∧ Below w.heap.size w w') := fun w => by
    have h := add_num (z := 0) ⟨by decide, by decide⟩ (small_lt 0 (show 5 < 1000000000000 by decide)) (small_lt 0 (show 7 < 1000000000000 by decide)) w
    rw [Nat.mod_eq_of_lt (small_lt 0 (show 5 + 7 < 1000000000000 by decide))] at h
    exact h
  have a2 : Hid (∀ w, Calls Try.prog 10 #[.int .i64 1, .string (t32 7), .string (t32 7)] w fun e w' => e = .returned (.tuple #[.string (t32 0), .int .i64 0]) ∧ Below w.heap.size w w') := fun w => by
    have h := sub_num (z := 1) ⟨by decide, by decide⟩ (small_lt 1 (show 7 < 1000000000000 by decide)) (small_lt 1 (show 7 < 1000000000000 by decide)) w
    rw [show 7 + md 1 - 7 = md 1 by omega, Nat.mod_self] at h
    exact h
  have a3 : Hid (∀ w, Calls Try.prog 11 #[.int .i64 2, .string (t32 6), .string (t32 7)] w fun e w' => e = .returned (.tuple #[.string (t32 42), .int .i64 0]) ∧ Below w.heap.size w w') := fun w => by
    have h := mul_num (z := 2) ⟨by decide, by decide⟩ (small_lt 2 (show 6 < 1000000000000 by decide)) (small_lt 2 (show 7 < 1000000000000 by decide)) w
    rw [Nat.mod_eq_of_lt (small_lt 2 (show 6 * 7 < 1000000000000 by decide))] at h
    exact h
  have a4 : Hid (∀ w, Calls Try.prog 12 #[.int .i64 0, .string (t32 1)] w fun e w' => e = .returned (.tuple #[.string (t32 1), .int .i64 0]) ∧ Below w.heap.size w w') := fun w => by
    have h := inv_num (z := 0) ⟨by decide, by decide⟩ (small_lt 0 (show 1 < 1000000000000 by decide)) (by decide) w
    rw [vi_unit (small_lt 0 (show 1 < 1000000000000 by decide))] at h
    exact h
  have a5 := Lib.hid (fun w => inv_zero (z := 0) ⟨by decide, by decide⟩ w)
  have a6 := Lib.hid (fun w => add_bad (z := 3) (a := t32 0) (b := t32 0) (no_left (by unfold numOk; rw [decide_eq_false (show ¬ (3 : Int) ≤ 2 by decide), Bool.and_false, Bool.false_and])) w)
  have w0 : Hid (∀ w, Calls Try.prog 17 #[.int .i64 0] w fun e w' => e = .returned (.string (t32 0)) ∧ Below w.heap.size w w') := HW.out 0 (by decide)
  have w1 : Hid (∀ w, Calls Try.prog 17 #[.int .i64 1] w fun e w' => e = .returned (.string (t32 1)) ∧ Below w.heap.size w w') := HW.out 1 (by decide)
  have w5 : Hid (∀ w, Calls Try.prog 17 #[.int .i64 5] w fun e w' => e = .returned (.string (t32 5)) ∧ Below w.heap.size w w') := HW.out 5 (by decide)
  have w6 : Hid (∀ w, Calls Try.prog 17 #[.int .i64 6] w fun e w' => e = .returned (.string (t32 6)) ∧ Below w.heap.size w w') := HW.out 6 (by decide)
  have w7 : Hid (∀ w, Calls Try.prog 17 #[.int .i64 7] w fun e w' => e = .returned (.string (t32 7)) ∧ Below w.heap.size w w') := HW.out 7 (by decide)
  have w12 : Hid (∀ w, Calls Try.prog 17 #[.int .i64 12] w fun e w' => e = .returned (.string (t32 12)) ∧ Below w.heap.size w w') := HW.out 12 (by decide)
  have w42 : Hid (∀ w, Calls Try.prog 17 #[.int .i64 42] w fun e w' => e = .returned (.string (t32 42)) ∧ Below w.heap.size w w') := HW.out 42 (by decide)
  clear HW
  generalize t32 0 = T0 at *
  generalize t32 1 = T1 at *
  generalize t32 5 = T5 at *
  generalize t32 6 = T6 at *
  generalize t32 7 = T7 at *
  generalize t32 12 = T12 at *
  generalize t32 42 = T42 at *
  have HB : Hid (Below w.heap.size w w) := Below.refl _ _
  go_enter Try.func15, Try.ntmps15
  go_wp2_with (first
    | (go_at_call_of 17 (Value.int IntKind.i64 0); refine (w0.out _).mono ?_; rintro e u ⟨rfl, hb⟩; have HB := Lib.hid (Lw.go_on HB.out hb); clear hb)
    | (go_at_call_of 17 (Value.int IntKind.i64 1); refine (w1.out _).mono ?_; rintro e u ⟨rfl, hb⟩; have HB := Lib.hid (Lw.go_on HB.out hb); clear hb)
    | (go_at_call_of 17 (Value.int IntKind.i64 5); refine (w5.out _).mono ?_; rintro e u ⟨rfl, hb⟩; have HB := Lib.hid (Lw.go_on HB.out hb); clear hb)
    | (go_at_call_of 17 (Value.int IntKind.i64 6); refine (w6.out _).mono ?_; rintro e u ⟨rfl, hb⟩; have HB := Lib.hid (Lw.go_on HB.out hb); clear hb)
    | (go_at_call_of 17 (Value.int IntKind.i64 7); refine (w7.out _).mono ?_; rintro e u ⟨rfl, hb⟩; have HB := Lib.hid (Lw.go_on HB.out hb); clear hb)
    | (go_at_call_of 17 (Value.int IntKind.i64 12); refine (w12.out _).mono ?_; rintro e u ⟨rfl, hb⟩; have HB := Lib.hid (Lw.go_on HB.out hb); clear hb)
    | (go_at_call_of 17 (Value.int IntKind.i64 42); refine (w42.out _).mono ?_; rintro e u ⟨rfl, hb⟩; have HB := Lib.hid (Lw.go_on HB.out hb); clear hb)
    | (go_at_call_of 8 (Value.int IntKind.i64 0); refine (a1.out _).mono ?_; rintro e u ⟨rfl, hb⟩; have HB := Lib.hid (Lw.go_on HB.out hb); clear hb)
    | (go_at_call_of 8 (Value.int IntKind.i64 3); refine (a6.out _).mono ?_; rintro e u ⟨rfl, hb⟩; have HB := Lib.hid (Lw.go_on HB.out hb); clear hb)
    | (go_at_call 10; refine (a2.out _).mono ?_; rintro e u ⟨rfl, hb⟩; have HB := Lib.hid (Lw.go_on HB.out hb); clear hb)
    | (go_at_call 11; refine (a3.out _).mono ?_; rintro e u ⟨rfl, hb⟩; have HB := Lib.hid (Lw.go_on HB.out hb); clear hb)
    | (go_at_call_of 12 (Value.string T1); refine (a4.out _).mono ?_; rintro e u ⟨rfl, hb⟩; have HB := Lib.hid (Lw.go_on HB.out hb); clear hb)
    | (go_at_call_of 12 (Value.string T0); refine (a5.out _).mono ?_; rintro e u ⟨rfl, hb⟩; have HB := Lib.hid (Lw.go_on HB.out hb); clear hb)
    | (go_at_call 14; refine (Lw.num_same _ _).mono ?_; rintro e u ⟨rfl, rfl⟩))
  go_ret
  exact ⟨rfl, HB.out⟩
end Go.Proofs.Nw
