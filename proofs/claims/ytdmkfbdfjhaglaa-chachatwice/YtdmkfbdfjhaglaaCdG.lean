/-
  The developers' chacha: small forms for the laws; what halberdlaw6's awake answers.
-/
import Derived.Test.YtdmkfbdfjhaglaaCdF
import Derived.Test.YtdmkfbdfjhaglaaChaG
import Derived.Deep.DeepCutAuto
namespace Go.Proofs.Cd
open Go.RowKit
open Go.Proofs.Cha
open Go.Proofs.Aes (byt byt_lt get_byt)
open Go.Proofs.Lw (num_same wpList_val)
/-- A Block and a Xor whose form is fine. -/
theorem ok_of (K : ByteArray) (n : Nat) (N : ByteArray) (hk : K.size = 32) (hN : N.size = 12) (hn : n < 4294967296) : chaOk K (n : Int) N = true := (chaOk_iff K n N).2 ⟨hk, by omega, by omega, hN⟩
theorem blk_fine (K : ByteArray) (n : Nat) (N : ByteArray) (w : World) (hk : K.size = 32) (hN : N.size = 12) (hn : n < 4294967296) :
    Calls Try.prog 7 #[.string K, .int .i64 n, .string N] w fun e w' => e = .returned (.tuple #[.string (chaS K n N), .int .i64 0]) ∧ Below w.heap.size w w' := by
  have h := blk_ok K n N w (ok_of K n N hk hN hn)
  rw [Int.toNat_natCast] at h
  exact h
theorem xor_fine (K : ByteArray) (n : Nat) (N s : ByteArray) (w : World) (hk : K.size = 32) (hN : N.size = 12) (hn : n < 4294967296) (hs : s.size ≤ 65536) :
    Calls Try.prog 9 #[.string K, .int .i64 n, .string N, .string s] w fun e w' => e = .returned (.tuple #[.string (strS K n N s), .int .i64 0]) ∧ Below w.heap.size w w' := by
  have h := xor_ok K n N s w (ok_of K n N hk hN hn) hs
  rw [Int.toNat_natCast] at h
  exact h
theorem nought32 (W : World) (g : Nat) (r : Lw.RowB W g 32 (fun _ => 0)) : (Go.convert 32 9 (.slice (some ⟨g, 0, none⟩) 32 32)).run Try.prog W = .ok (.string z32) W := r.text 0 32 32 (by decide)
theorem maskN32 (z : Int) : ∃ n : Nat, n ≤ 4294967295 ∧ bits .and .i64 z 4294967295 = (n : Int) := ⟨_, Nat.and_le_right, Lw.and_of z 4294967295 (by omega)⟩
theorem maskN7 (z : Int) : ∃ n : Nat, n ≤ 7 ∧ bits .and .i64 z 7 = (n : Int) := ⟨_, Nat.and_le_right, Lw.and_of z 7 (by omega)⟩
/-- A natural number's lowest 32 bits. -/
theorem mask32 (n : Nat) (h : n < 9223372036854775808) : bits .and .i64 (n : Int) 4294967295 = ((n % 4294967296 : Nat) : Int) := by
  have e := Lw.and_of (n : Int) 4294967295 (by omega)
  rw [show ((n : Int) % 18446744073709551616).toNat = n by omega, nat_mask32] at e
  exact e
/-- How many blocks a text's first part has. -/
theorem part_of (z : Int) (n : Nat) (hn : n ≤ 3000) : ∃ b : Nat, b ≤ 46 ∧ 64 * b ≤ n ∧ (IntKind.u64.wrap z).tmod ((n : Int) / 64 + 1) = (b : Int) := by
  have e : IntKind.u64.wrap z = z % 18446744073709551616 := rfl
  refine ⟨((z % 18446744073709551616) % ((n : Int) / 64 + 1)).toNat, ?_, ?_, ?_⟩
  · have := Int.emod_lt_of_pos (z % 18446744073709551616) (show (0 : Int) < (n : Int) / 64 + 1 by omega)
    omega
  · have := Int.emod_lt_of_pos (z % 18446744073709551616) (show (0 : Int) < (n : Int) / 64 + 1 by omega)
    omega
  · rw [e, Int.tmod_eq_emod_of_nonneg (by omega)]
    have := Int.emod_nonneg (z % 18446744073709551616) (show (n : Int) / 64 + 1 ≠ 0 by omega)
    omega
def abcS : ByteArray := ⟨#[97, 98, 99]⟩
set_option maxHeartbeats 2000000 in
theorem awake6_any (w : World) : Calls Try.prog 12 #[] w fun e w' => e = .returned (.bool true) ∧ Below w.heap.size w w' := by
  obtain ⟨M, hM, hMc, hmk0⟩ := Lw.zeros 32 (by decide)
  have hmk : ∀ W : World, (Instr.makeSlice 32 (.int .i64 32) (.int .i64 32)).run Try.prog W = .ok (.slice (some ⟨W.heap.size, 0, none⟩) 32 32) (W.alloc (.cells M 5)) := hmk0
  have hcv := nought32 _ _ (Lw.rowB_new w M 32 hM hMc)
  clear hmk0 hM hMc
  go_enter Try.func12, Try.ntmps12
  go_upto_region 1 with (fail)
  apply wp_region_lit
  refine wpList_val rfl (.slice (some ⟨w.heap.size, 0, none⟩) 32 32) (w.alloc (.cells M 5)) (by go_simp) ?_
  refine wpList_val rfl (.string z32) (w.alloc (.cells M 5)) (by go_simp) ?_
  simp only [Act.put, List.setIfInBounds_toArray, List.set_cons_zero, List.set_cons_succ]
  have HB : Hid (Below w.heap.size w (w.alloc (.cells M 5))) := (Below.refl _ _).alloc (Nat.le_refl _) _
  generalize w.alloc (.cells M 5) = w1 at HB
  clear hmk hcv
  have hz : z32.size = 32 := by decide
  have hx : z32.extract 0 12 = z12 := by decide +kernel
  have hA := chaS_size z32 0 z12
  have hAa : ∀ h : 0 < (chaS z32 0 z12).size, ((chaS z32 0 z12)[0]'h).toNat = 118 := fun h => by rw [get_byt _ _ h, known_0]
  have hAb : ∀ h : 1 < (chaS z32 0 z12).size, ((chaS z32 0 z12)[1]'h).toNat = 184 := fun h => by rw [get_byt _ _ h, known_1]
  have k1 := Lib.hid fun w => blk_fine z32 0 z12 w (by decide) (by decide) (by decide)
  have k2 := Lib.hid fun w => xor_fine z32 0 z12 abcS w (by decide) (by decide) (by decide) (by decide)
  have hB := strS_size z32 0 z12 abcS
  have k3 := Lib.hid fun w => xor_fine z32 0 z12 (strS z32 0 z12 abcS) w (by decide) (by decide) (by decide) (by rw [hB]; decide)
  rw [strS_twice] at k3
  have k4 := Lib.hid fun w => blk_no z32 (-1) z12 w (by decide)
  clear hB
  generalize z12 = N at hx hA hAa hAb k1 k2 k3 k4
  generalize z32 = Z at hz hx hA hAa hAb k1 k2 k3 k4 ⊢
  generalize chaS Z 0 N = A at hA hAa hAb k1
  generalize strS Z 0 N abcS = B at k2 k3
  go_wp2_with (fail)
  refine (k1.out _).mono ?_
  rintro e u1 ⟨rfl, hb⟩
  have HB := Lib.hid (Lw.go_on HB.out hb)
  clear hb
  go_wp2_with (fail)
  refine (k2.out _).mono ?_
  rintro e u2 ⟨rfl, hb⟩
  have HB := Lib.hid (Lw.go_on HB.out hb)
  clear hb
  go_wp2_with (fail)
  refine (k3.out _).mono ?_
  rintro e u3 ⟨rfl, hb⟩
  have HB := Lib.hid (Lw.go_on HB.out hb)
  clear hb
  go_wp2_with (fail)
  refine (k4.out _).mono ?_
  rintro e u4 ⟨rfl, hb⟩
  have HB := Lib.hid (Lw.go_on HB.out hb)
  clear hb
  simp only [abcS]
  go_wp2_with (go_at_call 11; refine (num_same _ _).mono ?_; rintro e u ⟨rfl, rfl⟩)
  go_ret
  exact ⟨rfl, HB.out⟩
end Go.Proofs.Cd
