/-
  The developers' numbers: whether a number is 0.
-/
import Derived.Test.YtbkfpaodicfmhaaNdF
import Derived.Test.YtbkfpaodicfmhaaNuO
namespace Go.Proofs.Nd
open Go.RowKit
open Go.Proofs.Im (wpList_box_to words_heap words_one run_index_row)
open Go.Proofs.Sha (wordCells wordCells_get wordCells_size rowIs_of wpList_alloc_to wpList_build_to)
open Go.Proofs.Nt
open Go.Proofs.Nu (nmL nmA nmV lt8 nmA_get nmA_congr nmA_one nmA_size results_row_slot B8 b8 nv8 nmA_lb nv_lt8 items_eq zero_iff)
theorem eql_zero (w : World) {x : Nat} (hx : x < B8) : (Op.equalIn 10000 48 (.agg (nmA (lb x))) (.agg (nmA (lb 0)))).run Try.prog w = .ok (decide (x = 0)) w := by
  obtain ⟨i, hi⟩ : ∃ i, Try.prog.info? 46 = some i := info_of_underlying Try.underlying46
  have h := run_equalIn_array (P := Try.prog) w 9999 (nmA (lb x)) (nmA (lb 0)) Try.underlying48 hi
  rw [show Try.prog.cellsOf 46 = 1 by kernel_rfl, items_eq w 9998 (lb x) (lb 0) (List.range 8) (fun i hi => List.mem_range.1 hi), zero_iff hx] at h
  exact h
set_option maxHeartbeats 1000000 in
theorem zero_any (x : Nat) (w : World) (hx : x < B8) : Calls Try.prog 47 #[nmV x] w fun e u => e = .returned (.bool (decide (x = 0))) ∧ Below w.heap.size w u := by
  have HE := Lib.hid (fun u => eql_zero u hx)
  generalize decide (x = 0) = R at HE ⊢
  go_enter Try.func47, Try.ntmps47
  go_upto_region 0 with (fail)
  apply wp_region_lit
  refine wpList_box_to rfl 48 _ rfl (nmA (lb x)) (by kernel_rfl) w.heap.size rfl ?_
  refine Lw.wpList_val rfl (.bool false) (w.alloc (.cells (nmA (lb x)) 48)) (by go_simp) ?_
  simp only [Act.put, List.setIfInBounds_toArray, List.set_cons_zero, List.set_cons_succ]
  have HX := Lib.hid (RP.new w (lb x))
  have HB : Hid (Below w.heap.size w (w.alloc (.cells (nmA (lb x)) 48))) := (Below.refl _ _).alloc (Nat.le_refl _) _
  generalize w.alloc (.cells (nmA (lb x)) 48) = w1 at HX HB ⊢
  generalize nmV x = Av
  have HN := Lib.hid HX.out.heap
  go_upto_region 1 with (fail)
  apply wp_region_lit
  refine wpList_load_row rfl 48 _ rfl w.heap.size (by kernel_rfl) 48 (nmA (lb x)) (0, 0) _ HN.out Try.underlying48 rfl (by kernel_rfl) ?_
  refine wpList_build_to rfl 48 _ rfl (nmA (lb 0)) (by kernel_rfl) ?_
  simp only [Act.put, List.setIfInBounds_toArray, List.set_cons_zero, List.set_cons_succ]
  have hq := HE.out w1
  generalize nmA (lb x) = A at hq ⊢
  generalize nmA (lb 0) = Z at hq ⊢
  go_wp2_with (fail)
  go_ret
  exact ⟨rfl, HB.out⟩
end Go.Proofs.Nd
