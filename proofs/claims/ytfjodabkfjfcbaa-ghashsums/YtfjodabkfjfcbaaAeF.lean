/-
  The developers' aes: the state's columns mixed.
-/
import Derived.Test.YtfjodabkfjfcbaaAeE
namespace Go.Proofs.Ae
open Go.RowKit
open Go.Proofs.Aes
open Go.Proofs.Im (wpList_box_to words_heap words_one run_index_row)
open Go.Proofs.Sha (wordCells wordCells_get wordCells_size rowIs_of wpList_alloc_to)
theorem xor32_lt {a b : Nat} (ha : a < 4294967296) (hb : b < 4294967296) : a ^^^ b < 4294967296 := Nat.xor_lt_two_pow (n := 32) ha hb
def mixW (X : Nat → Nat) : Nat → Nat := fun i => mixN (X i)
/-- A word turned to the left. -/
def r8 (x : Nat) : Nat := (x * 256 % 4294967296) ||| (x / 16777216)
def r16 (x : Nat) : Nat := (x * 65536 % 4294967296) ||| (x / 65536)
def r24 (x : Nat) : Nat := (x * 16777216 % 4294967296) ||| (x / 256)
theorem or32_lt {a b : Nat} (ha : a < 4294967296) (hb : b < 4294967296) : a ||| b < 4294967296 := Nat.or_lt_two_pow (n := 32) ha hb
theorem r8_lt (x : Nat) (h : x < 4294967296) : r8 x < 4294967296 := or32_lt (Nat.mod_lt _ (by decide)) (by omega)
theorem r16_lt (x : Nat) (h : x < 4294967296) : r16 x < 4294967296 := or32_lt (Nat.mod_lt _ (by decide)) (by omega)
theorem r24_lt (x : Nat) (h : x < 4294967296) : r24 x < 4294967296 := or32_lt (Nat.mod_lt _ (by decide)) (by omega)
theorem rol_8 (x : Nat) (w : World) (hx : x < 4294967296) : Calls Try.prog 46 #[.int .u32 x, .int .i64 8] w fun e w' => e = .returned (.int .u32 (r8 x : Nat)) ∧ w' = w := rotl_8 x w hx
theorem rol_16 (x : Nat) (w : World) (hx : x < 4294967296) : Calls Try.prog 46 #[.int .u32 x, .int .i64 16] w fun e w' => e = .returned (.int .u32 (r16 x : Nat)) ∧ w' = w := rotl_16 x w hx
theorem rol_24 (x : Nat) (w : World) (hx : x < 4294967296) : Calls Try.prog 46 #[.int .u32 x, .int .i64 24] w fun e w' => e = .returned (.int .u32 (r24 x : Nat)) ∧ w' = w := rotl_24 x w hx
theorem mixN_eq (x : Nat) : mixN x = dblN (x ^^^ r8 x) ^^^ r8 x ^^^ r16 x ^^^ r24 x := rfl
set_option maxHeartbeats 2000000 in
theorem mixed_any (X : Nat → Nat) (w : World) (hX : ∀ i, X i < 4294967296) :
    Calls Try.prog 50 #[.agg (stA X)] w fun e w' => e = .returned (.agg (stA (mixW X))) ∧ Below w.heap.size w w' := by
  have HX := Lib.hid hX
  clear hX
  go_enter Try.func50, Try.ntmps50
  go_upto_region 0 with (fail)
  apply wp_region_lit
  refine wpList_box_to rfl 87 _ rfl (stA X) rfl w.heap.size rfl ?_
  refine wpList_alloc_to rfl 87 rfl (stA fun _ => 0) (w.heap.size + 1) (by simp) alloc4 ?_
  have HM := Lib.hid (mem2_new w X)
  generalize (w.alloc (.cells (stA X) 87)).alloc (.cells (stA fun _ => 0) 87) = w1 at HM ⊢
  have HN := Lib.hid HM.out.1.heap
  go_upto_region 1 with (fail)
  apply wp_region_lit
  refine wpList_load_row rfl 87 _ rfl w.heap.size rfl 87 (stA X) (0, 0) _ HN.out Try.underlying87 rfl (by kernel_rfl) ?_
  clear HN
  go_wp2_with (fail)
  go_loopw [7] (fun i wx => ∃ j : Nat, Hid (j ≤ 4) ∧ i = .int .i64 j ∧ Hid (Mem2 w wx (upTo X (mixW X) j))) (fun i _ => 4 - (intOf i).toNat)
  case atStart => exact ⟨0, Nat.zero_le 4, rfl, HM.out.congr fun i _ => upTo_zero _ _ i⟩
  case round =>
    clear HM
    obtain ⟨j, hj, rfl, HM⟩ := hrel
    by_cases hlt : j < 4
    · have jl : ((j : Int) < 4) = True := eq_true (by omega)
      have jl' : (j : Int) < 4 := by omega
      have xc := HM.out.1.at_ j (X j) hlt (upTo_at _ _ _)
      have xf := World.rowIs.frozen HM.out.1 j
      have hix := fun W => run_index_row (P := Try.prog) W 87 78 4 (stA X) .i64 j (.int .u32 (X j : Nat)) Try.underlying87 (by kernel_rfl) _ Try.underlying78 rfl hlt (stA_get X j hlt)
      have HJ := Lib.hid hlt
      have HL := Lib.hid (HX.out j)
      clear hlt
      have H8 := Lib.hid (r8_lt _ HL.out)
      have o1 := u32_xor_nat (X j) (r8 (X j)) HL.out H8.out
      have HD := Lib.hid (xor32_lt HL.out H8.out)
      have o2 := u32_xor_nat (dblN (X j ^^^ r8 (X j))) (r8 (X j)) (dblN_lt _) H8.out
      have o3 := u32_xor_nat (dblN (X j ^^^ r8 (X j)) ^^^ r8 (X j)) (r16 (X j)) (xor32_lt (dblN_lt _) H8.out) (r16_lt _ HL.out)
      have o4 := u32_xor_nat (dblN (X j ^^^ r8 (X j)) ^^^ r8 (X j) ^^^ r16 (X j)) (r24 (X j)) (xor32_lt (xor32_lt (dblN_lt _) H8.out) (r16_lt _ HL.out)) (r24_lt _ HL.out)
      go_wp2_with (first
        | (go_at_call_of 46 (Value.int IntKind.i64 8); refine (rol_8 (X j) _ HL.out).mono ?_; rintro e u ⟨rfl, rfl⟩)
        | (go_at_call_of 46 (Value.int IntKind.i64 16); refine (rol_16 (X j) _ HL.out).mono ?_; rintro e u ⟨rfl, rfl⟩)
        | (go_at_call_of 46 (Value.int IntKind.i64 24); refine (rol_24 (X j) _ HL.out).mono ?_; rintro e u ⟨rfl, rfl⟩)
        | (go_at_call 48; refine (doubled_any _ _ HD.out).mono ?_; rintro e u ⟨rfl, rfl⟩))
      exact ⟨⟨j + 1, HJ.out, by go_num, (HM.out.set j (mixW X j)).congr fun i _ => upTo_succ _ _ j i⟩, meas 4 j HJ.out⟩
    · have jl : ((j : Int) < 4) = False := eq_false (by omega)
      obtain rfl : j = 4 := by have := hj.out; omega
      have HM : Hid (Mem2 w wr (mixW X)) := HM.out.congr fun i hi => upTo_all _ _ i hi
      have HN := Lib.hid HM.out.1.heap
      have HO := Lib.hid HM.out.2.1.heap
      rw [show ((4 : Nat) : Int) = 4 from rfl]
      clear hlt jl hj
      go_upto_region 7 with (fail)
      apply wp_region_lit
      refine wpList_load_row rfl 87 _ rfl w.heap.size rfl 87 (stA (mixW X)) (0, 0) _ HN.out Try.underlying87 rfl (by kernel_rfl) ?_
      refine wpList_store_row rfl 87 _ _ rfl (w.heap.size + 1) (stA (mixW X)) rfl rfl 87 _ HO.out (by kernel_rfl) rfl (stA_one _) ?_
      go_wp2_with (fail)
      refine bodyPost_ret (v := .agg (stA (mixW X))) ?_ rfl ?_
      · exact results_cell_row (fn := Try.f50) Try.results50 _ _ (w.heap.size + 1) 87 _ (0, 0) _ rfl (setRow_heap _ _ _ _ _ _ HO.out) Try.underlying87 rfl (by kernel_rfl)
      · exact ⟨rfl, below_setRow HM.out.2.2 (by omega) _⟩
end Go.Proofs.Ae
