/-
  The document's own answer: a number as eight bytes, the lowest first.
-/
import Derived.Test.YtijpfaknbgbphaaPolC
namespace Go.Proofs.Pol
open Go.RowKit
/-- Byte i of a number. -/
def litB (x i : Nat) : Nat := x / 2 ^ (8 * i) % 256
def litS (x : Nat) : ByteArray := strOfNums ((List.range 8).map fun i => (litB x i : Int))
theorem litS_size (x : Nat) : (litS x).size = 8 := by simp [litS, strOfNums_size]
set_option maxHeartbeats 2000000 in
theorem little_any (x : Nat) (w : World) (hx : x < 4611686018427387904) :
    Calls Try.prog 43 #[.int .i64 x] w fun e w' => e = .returned (.string (litS x)) ∧ Below w.heap.size w w' := by
  have HX := Lib.hid hx
  clear hx
  obtain ⟨M, hM, hMc, hmk0⟩ := Lw.zeros 8 (by decide)
  have hmk : ∀ W : World, (Instr.makeSlice 32 (.int .i64 8) (.int .i64 8)).run Try.prog W = .ok (.slice (some ⟨W.heap.size, 0, none⟩) 8 8) (W.alloc (.cells M 5)) := hmk0
  have HO : Hid (Lw.RowB (w.alloc (.cells M 5)) w.heap.size 8 (outP (litB x) 0)) := (Lw.rowB_new w M 8 hM hMc).congr fun t _ => by unfold outP; rw [if_neg (by omega)]
  have HB : Hid (Below w.heap.size w (w.alloc (.cells M 5))) := (Below.refl _ _).alloc (Nat.le_refl _) _
  clear hmk0 hM hMc
  go_enter Try.func43, Try.ntmps43
  go_wp2_with (fail)
  clear hmk
  generalize w.alloc (.cells M 5) = w1 at HO HB ⊢
  go_loopw [4] (fun v wx => ∃ i : Nat, Hid (i ≤ 8) ∧ v = .int .i64 i ∧ Hid (Lw.RowB wx w.heap.size 8 (outP (litB x) i)) ∧ Hid (Below w.heap.size w wx)) (fun v _ => 8 - (intOf v).toNat)
  case atStart => exact ⟨0, Nat.zero_le _, rfl, HO, HB⟩
  case round =>
    clear HO HB
    obtain ⟨i, hi, rfl, HO, HB⟩ := hrel
    by_cases hlt : i < 8
    · have il : ((i : Int) < 8) = True := eq_true (by omega)
      have HI := Lib.hid hlt
      have xc := World.rowIs.cell HO.out (i := i) hlt
      have xf := World.rowIs.frozen HO.out i
      generalize outP (litB x) i i = old at xc
      clear hlt
      go_upto_region 5 with (fail)
      clear il
      apply wp_region_lit
      refine Lw.wpList_val rfl (.slice (some ⟨w.heap.size, 0, none⟩) 8 8) wr (by go_simp) ?_
      refine Lw.wpList_val rfl (.int .i64 (i : Int)) wr (by go_simp) ?_
      refine Lw.wpList_val rfl (.int .i64 (x : Int)) wr (by go_simp) ?_
      refine Lw.wpList_val rfl (.int .i64 (i : Int)) wr (by go_simp) ?_
      refine Lw.wpList_val rfl (.int .i64 ((8 * i : Nat) : Int)) wr (by
        have e : IntKind.i64.wrap (8 * (i : Int)) = ((8 * i : Nat) : Int) := by rw [IntWalk.i64_in _ (by have := HI.out; omega)]; omega
        generalize 8 * i = z at e
        go_simp) ?_
      have HV : Hid (litB x i = x / 2 ^ (8 * i) % 256) := rfl
      have HZ : Hid (8 * i < 64) := by show 8 * i < 64; have := HI.out; omega
      generalize 8 * i = z at HV HZ ⊢
      refine Lw.wpList_val rfl (.int .i64 ((x / 2 ^ z : Nat) : Int)) wr (by go_simp; rw [Nat.min_eq_left (by have := HZ.out; omega)]) ?_
      have HY : Hid (x / 2 ^ z < 4611686018427387904) := Nat.lt_of_le_of_lt (Nat.div_le_self _ _) HX.out
      generalize x / 2 ^ z = y at HV HY ⊢
      refine Lw.wpList_val rfl (.int .i64 ((y % 256 : Nat) : Int)) wr (by
        have e : bits .and .i64 (y : Int) 255 = ((y % 256 : Nat) : Int) := by
          have h := Lw.and_of (y : Int) 255 (by decide)
          rw [show (((y : Int) % 18446744073709551616).toNat) = y by have := HY.out; omega, show (255 : Nat) = 2 ^ 8 - 1 from rfl, Nat.and_two_pow_sub_one_eq_mod] at h
          exact h
        generalize y % 256 = t at e
        go_simp) ?_
      have HT : Hid (y % 256 < 256) := Nat.mod_lt _ (by decide)
      generalize y % 256 = t at HV HT ⊢
      have i8 : (i : Int) < 8 := by have := HI.out; omega
      refine Lw.wpList_val rfl (.int .u8 (t : Int)) wr (by
        have e : IntKind.u8.wrap (t : Int) = (t : Int) := by (show (t : Int) % 256 = _; have := HT.out; omega)
        have e2 : (t : Int) % 256 = (t : Int) := by have := HT.out; omega
        go_simp) ?_
      simp only [Act.put, List.setIfInBounds_toArray, List.set_cons_zero, List.set_cons_succ]
      generalize ((z : Nat) : Int) = zz
      generalize ((y : Nat) : Int) = yy
      go_wp2_with (fail)
      refine ⟨⟨i + 1, HI.out, by go_num, ?_, HB.out.setCell (Nat.le_refl _) _⟩, Lw.meas 8 i HI.out⟩
      exact (HO.out.set i t).congr fun u _ => by have h := outP_succ (litB x) i u; rw [HV.out] at h; exact h
    · have il : ((i : Int) < 8) = False := eq_false (by omega)
      obtain rfl : i = 8 := by have := hi.out; omega
      rw [show ((8 : Nat) : Int) = 8 from rfl]
      clear hlt il hi
      have hcv := (HO.out.congr (Y := litB x) fun t ht => by unfold outP; rw [if_pos (by omega)]).text 0 8 8 (by decide)
      go_wp2_with (fail)
      go_ret
      refine ⟨?_, HB.out⟩
      unfold litS Lw.pieceS
      simp only [Nat.zero_add]
      rfl
end Go.Proofs.Pol
