/-
  For layer 9's laws: small numbers' texts.
-/
import Derived.Test.YtbkfpaodicfmhaaNuO
namespace Go.Proofs.Nw
open Go.RowKit Go.Proofs.Nu
open Go.Proofs.Nt
open Go.Proofs.Aes (byt byt_lt get_byt)
/-- The bytes of a small number written so far, the lowest first from the end. -/
def wb (x i t : Nat) : Nat := if 31 - t < i ∧ t < 32 then tb x t else 0
theorem wb_end (x t : Nat) (hx : x < 18446744073709551616) (ht : t < 32) : wb x 8 t = tb x t := by
  unfold wb
  by_cases h : 31 - t < 8
  · rw [if_pos ⟨h, ht⟩]
  · rw [if_neg (by omega)]
    unfold tb
    have e : (256 : Nat) ^ 8 ≤ 256 ^ (31 - t) := Nat.pow_le_pow_right (by decide) (by omega)
    rw [Nat.div_eq_of_lt (Nat.lt_of_lt_of_le hx e)]
set_option maxHeartbeats 2000000 in
set_option maxRecDepth 20000 in
theorem word_any (x : Nat) (w : World) (hx : x < 9223372036854775808) : Calls Try.prog 17 #[.int .i64 (x : Nat)] w fun e w' => e = .returned (.string (t32 x)) ∧ Below w.heap.size w w' := by
  obtain ⟨M, hM, hMc, hmk0⟩ := Lw.zeros 32 (by decide)
  have hmk : ∀ W : World, (Instr.makeSlice 36 (.int .i64 32) (.int .i64 32)).run Try.prog W = .ok (.slice (some ⟨W.heap.size, 0, none⟩) 32 32) (W.alloc (.cells M 5)) := hmk0
  have HX := Lib.hid hx
  have HR : Hid (Lw.RowB (w.alloc (.cells M 5)) w.heap.size 32 (fun _ => 0)) := Lw.rowB_new w M 32 hM hMc
  have HB : Hid (Below w.heap.size w (w.alloc (.cells M 5))) := (Below.refl _ _).alloc (Nat.le_refl _) _
  clear hmk0 hM hMc hx
  go_enter Try.func17, Try.ntmps17
  go_upto_region 2 with (fail)
  clear hmk
  generalize w.alloc (.cells M 5) = w2 at HR HB ⊢
  go_wp2_with (fail)
  go_loopw [4] (fun v wx => ∃ i : Nat, Hid (i ≤ 8) ∧ v = .int .i64 i ∧ Hid (Lw.RowB wx w.heap.size 32 (wb x i)) ∧ Hid (Below w.heap.size w wx)) (fun v _ => 8 - (intOf v).toNat)
  case atStart => exact ⟨0, Nat.zero_le _, rfl, HR.out.congr fun t _ => by unfold wb; rw [if_neg (by omega)], HB⟩
  case round =>
    clear HR HB
    obtain ⟨i, hi, rfl, HR, HB⟩ := hrel
    by_cases hlt : i < 8
    · have il : ((i : Int) < 8) = True := eq_true (by omega)
      have il' : (i : Int) < 8 := by omega
      have HI := Lib.hid hlt
      obtain ⟨t, ht⟩ : ∃ t, 31 - i = t := ⟨_, rfl⟩
      have t32' : t < 32 := by omega
      have t1 : (31 : Int) - (i : Int) = (t : Int) := by omega
      have t2 : (t : Int) < 32 := by omega
      have yc := World.rowIs.cell HR.out (i := t) t32'
      have yf := World.rowIs.frozen HR.out t
      have HT : Hid (x / 2 ^ (8 * i) % 256 = tb x t) := by
        unfold tb
        rw [show (256 : Nat) ^ (31 - t) = 2 ^ (8 * i) by rw [show (256 : Nat) = 2 ^ 8 by rfl, ← Nat.pow_mul]; congr 1; omega]
        rfl
      have lx := HX.out
      have e1 : bits .and .i64 ((x : Int) / 2 ^ (8 * i)) 255 % 256 = ((tb x t : Nat) : Int) := by
        have e0 : (x : Int) / 2 ^ (8 * i) = ((x / 2 ^ (8 * i) : Nat) : Int) := by rw [Int.natCast_ediv, Int.natCast_pow]; rfl
        have h0 : x / 2 ^ (8 * i) < 9223372036854775808 := Nat.lt_of_le_of_lt (Nat.div_le_self _ _) lx
        have hy := HT.out
        rw [e0]
        generalize x / 2 ^ (8 * i) = y at h0 hy ⊢
        have h1 := Lw.and_of (y : Int) 255 (by decide)
        rw [show ((y : Int) % 18446744073709551616).toNat = y by omega, show 255 = 2 ^ 8 - 1 from rfl, Nat.and_two_pow_sub_one_eq_mod] at h1
        rw [show bits .and .i64 (y : Int) 255 = ((y % 2 ^ 8 : Nat) : Int) from h1, show (2 : Nat) ^ 8 = 256 from rfl, hy]
        have := tb_lt x t
        omega
      clear hlt lx
      go_wp2_with (fail)
      refine ⟨⟨i + 1, HI.out, by go_num, (HR.out.set t (tb x t)).congr fun s hs => ?_, HB.out.setCell (Nat.le_refl _) _⟩, Lw.meas 8 i HI.out⟩
      have hi8 := HI.out
      have htt : t = 31 - i := by omega
      unfold wb
      by_cases h : s = t
      · rw [if_pos h, if_pos (by omega), h]
      · rw [if_neg h]
        by_cases h2 : 31 - s < i ∧ s < 32
        · rw [if_pos h2, if_pos (by omega)]
        · rw [if_neg h2, if_neg (by omega)]
    · have il : ((i : Int) < 8) = False := eq_false (by omega)
      obtain rfl : i = 8 := by have := hi.out; omega
      rw [show ((8 : Nat) : Int) = 8 from rfl]
      clear hlt il hi
      have hct := (HR.out.congr (Y := tb x) fun t ht => wb_end x t (by have := HX.out; omega) ht).text 0 32 32 (by decide)
      go_wp2_with (fail)
      go_ret
      exact ⟨rfl, HB.out⟩
end Go.Proofs.Nw
