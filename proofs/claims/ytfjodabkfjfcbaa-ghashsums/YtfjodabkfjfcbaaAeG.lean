/-
  The developers' aes: the state substituted and shifted.
-/
import Derived.Test.YtfjodabkfjfcbaaAeF
import Derived.Test.YtfjodabkfjfcbaaImQt
namespace Go.Proofs.Ae
open Go.RowKit
open Go.Proofs.Aes
open Go.Proofs.Im (wpList_box_to words_heap words_one run_index_row wp_region_quiet_tail)
open Go.Proofs.Sha (wordCells wordCells_get wordCells_size rowIs_of wpList_alloc_to)
def subW (X : Nat → Nat) : Nat → Nat := fun i => colN (X i) (X ((i + 1) % 4)) (X ((i + 2) % 4)) (X ((i + 3) % 4))
set_option maxHeartbeats 2000000 in
theorem shifted_any (X K : Nat → Nat) (g n : Nat) (w : World) (h : Ciph w g K n) (hX : ∀ i, X i < 4294967296) :
    Calls Try.prog 51 #[.pointer (some ⟨g, 0, none⟩), .agg (stA X)] w fun e w' => e = .returned (.agg (stA (subW X))) ∧ Below w.heap.size w w' := by
  have HC := Lib.hid h
  have HX := Lib.hid hX
  clear h hX
  go_enter Try.func51, Try.ntmps51
  go_upto_region 0 with (fail)
  apply wp_region_lit
  refine wpList_box_to rfl 87 _ rfl (stA X) rfl w.heap.size rfl ?_
  refine wpList_alloc_to rfl 87 rfl (stA fun _ => 0) (w.heap.size + 1) (by simp) alloc4 ?_
  have HM := Lib.hid (mem2_new w X)
  generalize (w.alloc (.cells (stA X) 87)).alloc (.cells (stA fun _ => 0) 87) = w1 at HM ⊢
  have HO := Lib.hid HM.out.2.1.heap
  have HC1 := Lib.hid (HC.out.below HM.out.2.2 HC.out.lt)
  have c0 := HM.out.1.at_ 0 (X 0) (by decide) rfl
  have c1 := HM.out.1.at_ 1 (X 1) (by decide) rfl
  have c2 := HM.out.1.at_ 2 (X 2) (by decide) rfl
  have c3 := HM.out.1.at_ 3 (X 3) (by decide) rfl
  go_upto_region 1 with (fail)
  refine wp_region_quiet_tail 41 (by kernel_rfl) (by kernel_rfl) ?_
  simp only [List.take_succ_cons, List.take_zero, List.drop_succ_cons, List.drop_zero, Act.put, List.setIfInBounds_toArray, List.set_cons_zero, List.set_cons_succ]
  repeat (go_big_quiet_step ((go_at_call 47; exact Calls.quiet_of (column_any _ _ _ _ g K n _ (HC1.out.drewN _) (HX.out _) (HX.out _) (HX.out _) (HX.out _)))))
  refine wpQuiet_nil ?_
  intro nq
  have HM := Lib.hid (HM.out.drewN nq)
  have HO := Lib.hid HM.out.2.1.heap
  clear c0 c1 c2 c3 HC1
  generalize w1.drewN nq = w2 at HM HO ⊢
  refine wpList_store_row rfl 87 _ _ rfl (w.heap.size + 1) (stA (subW X)) rfl rfl 87 _ HO.out (by kernel_rfl) rfl (stA_one _) ?_
  go_wp2_with (fail)
  refine bodyPost_ret (v := .agg (stA (subW X))) ?_ rfl ?_
  · exact results_cell_row (fn := Try.f51) Try.results51 _ _ (w.heap.size + 1) 87 _ (0, 0) _ rfl (setRow_heap _ _ _ _ _ _ HO.out) Try.underlying87 rfl (by kernel_rfl)
  · exact ⟨rfl, below_setRow HM.out.2.2 (by omega) _⟩
end Go.Proofs.Ae
