/-
  The developers' numbers: differences in a field.
-/
import Derived.Test.YtpniinolkflfjaaJobb
namespace Go.Proofs.Nd
open Go.RowKit
open Go.Proofs.Im (wpList_box_to words_heap words_one run_index_row)
open Go.Proofs.Sha (wordCells wordCells_get wordCells_size rowIs_of wpList_alloc_to wpList_build_to)
open Go.Proofs.Nt
open Go.Proofs.Nu (nmL nmA nmV lt8 nmA_get nmA_congr nmA_one nmA_size results_row_slot B8 b8 nv8 nmA_lb nv_lt8 md mP mN mX md_lt wpList_on wpList_off)
theorem minus_mod {p a b K : Nat} (ha : a < p) (hb : b < p) (hp : p < K) : (bif decide (a < b) then ((a + K - b) % K + p) % K else (a + K - b) % K) = (a + p - b) % p := by
  rcases Nat.lt_or_ge a b with h | h
  · rw [decide_eq_true h, cond_true, Nat.mod_eq_of_lt (show a + K - b < K by omega), show a + K - b + p = (a + p - b) + K by omega, Nat.add_mod_right, Nat.mod_eq_of_lt (show a + p - b < K by omega), Nat.mod_eq_of_lt (show a + p - b < p by omega)]
  · rw [decide_eq_false (by omega), cond_false, show a + K - b = (a - b) + K by omega, Nat.add_mod_right, Nat.mod_eq_of_lt (show a - b < K by omega), show a + p - b = (a - b) + p by omega, Nat.add_mod_right, Nat.mod_eq_of_lt (show a - b < p by omega)]
set_option maxHeartbeats 2000000 in
set_option maxRecDepth 20000 in
theorem fminus_raw (p o a b S D R : Nat) (c l : Bool) (w : World) (hMi : ∀ u : World, Calls Try.prog 49 #[nmV a, nmV b] u fun e u' => e = .returned (.tuple #[nmV D, .bool l]) ∧ Below u.heap.size u u') (hPl : ∀ u : World, Calls Try.prog 50 #[nmV D, nmV p] u fun e u' => e = .returned (.tuple #[nmV S, .bool c]) ∧ Below u.heap.size u u') (hV : (bif l then S else D) = R) : Calls Try.prog 44 #[fdV p o, nmV a, nmV b] w fun e u => e = .returned (nmV R) ∧ Below w.heap.size w u := by
  have HPl := Lib.hid hPl
  have HMi := Lib.hid hMi
  have HV := Lib.hid hV
  clear hPl hMi hV
  go_enter Try.func44, Try.ntmps44
  go_upto_region 0 with (fail)
  apply wp_region_lit
  refine wpList_box_to rfl 40 _ rfl (fdA p o) (by kernel_rfl) w.heap.size rfl ?_
  refine wpList_box_to rfl 38 _ rfl (nmA (lb a)) (by kernel_rfl) (w.heap.size + 1) (by simp) ?_
  refine wpList_box_to rfl 38 _ rfl (nmA (lb b)) (by kernel_rfl) (w.heap.size + 2) (by simp) ?_
  refine wpList_alloc_to rfl 38 rfl (nmA (lb 0)) (w.heap.size + 3) (by simp) alloc_n ?_
  simp only [Act.put, List.setIfInBounds_toArray, List.set_cons_zero, List.set_cons_succ]
  have HM := Lib.hid (Bx.new w p o a b)
  generalize (((w.alloc (.cells (fdA p o) 40)).alloc (.cells (nmA (lb a)) 38)).alloc (.cells (nmA (lb b)) 38)).alloc (.cells (nmA (lb 0)) 38) = w1 at HM ⊢
  generalize fdV p o = Fv
  go_upto_region 1 with (fail)
  apply wp_region_lit
  refine wpList_load_row rfl 38 _ rfl (w.heap.size + 1) (by kernel_rfl) 38 (nmA (lb a)) (0, 0) _ HM.out.a Try.underlying38 rfl (by kernel_rfl) ?_
  refine wpList_load_row rfl 38 _ rfl (w.heap.size + 2) (by kernel_rfl) 38 (nmA (lb b)) (0, 0) _ HM.out.b Try.underlying38 rfl (by kernel_rfl) ?_
  simp only [Act.put, List.setIfInBounds_toArray, List.set_cons_zero, List.set_cons_succ]
  refine Lw.wpList_callTo (some 12) rfl rfl 49 _ _ rfl (fun _ _ => by go_simp) #[nmV a, nmV b] (by kernel_rfl) ?_
  refine (HMi.out _).mono ?_
  rintro e u ⟨rfl, hb⟩
  refine ⟨_, rfl, ?_⟩
  have HM := Lib.hid (HM.out.on hb)
  clear hb
  refine Lw.wpList_val rfl (.tuple #[nmV D, .bool l]) u (by go_simp) ?_
  refine Lw.wpList_val rfl (nmV D) u (by go_simp) ?_
  refine Lw.wpList_val rfl (.bool l) u (by go_simp) ?_
  refine wpList_alloc_to rfl 38 rfl (nmA (lb 0)) u.heap.size rfl alloc_n ?_
  simp only [Act.put, List.setIfInBounds_toArray, List.set_cons_zero, List.set_cons_succ]
  refine wpList_store_row rfl 38 _ _ rfl u.heap.size (nmA (lb D)) (by kernel_rfl) (by kernel_rfl) 38 _ (heap_alloc_last _ _) (by kernel_rfl) (by rw [nmA_size, nmA_size]) (nmA_one _) ?_
  rw [World.setRow_alloc_new]
  refine Lw.wpList_val rfl (.bool l) (u.alloc (.cells (nmA (lb D)) 38)) (by go_simp) ?_
  simp only [Act.put, List.setIfInBounds_toArray, List.set_cons_zero, List.set_cons_succ]
  have HD := Lib.hid (Nb.new u D)
  have GHD : Hid (w.heap.size + 3 < u.heap.size) := HM.out.lt
  have HM := Lib.hid (HM.out.alloc (.cells (nmA (lb D)) 38))
  generalize u.alloc (.cells (nmA (lb D)) 38) = wHD at HD HM  ⊢
  generalize u.heap.size = gHD at HD GHD ⊢
  cases l
  · generalize nmV a = Av
    generalize nmV b = Bv
    generalize nmV D = Dv
    go_upto_region 4 with (fail)
    apply wp_region_lit
    refine wpList_load_row rfl 38 _ rfl gHD (by kernel_rfl) 38 (nmA (lb D)) (0, 0) _ HD.out Try.underlying38 rfl (by kernel_rfl) ?_
    simp only [Act.put, List.setIfInBounds_toArray, List.set_cons_zero, List.set_cons_succ]
    have HR := Lib.hid HM.out.r
    refine wpList_store_row rfl 38 _ _ rfl (w.heap.size + 3) (nmA (lb D)) (by kernel_rfl) (by kernel_rfl) 38 _ HR.out (by kernel_rfl) (by rw [nmA_size, nmA_size]) (nmA_one _) ?_
    simp only [Act.put]
    generalize hA : nmA (lb D) = A at HD
    go_wp2_with (fail)
    refine bodyPost_ret (v := .agg A) ?_ rfl ?_
    · exact results_cell_row (fn := Try.f44) Try.results44 _ _ (w.heap.size + 3) 38 _ (0, 0) _ rfl (setRow_heap _ _ _ _ _ _ HR.out) Try.underlying38 rfl (by rw [← hA]; kernel_rfl)
    · exact ⟨by rw [← hA, show R = D from HV.out.symm]; rfl, below_setRow HM.out.below (by omega) _⟩
  · go_upto_region 3 with (fail)
    apply wp_region_lit
    refine wpList_load_row rfl 38 _ rfl gHD (by kernel_rfl) 38 (nmA (lb D)) (0, 0) _ HD.out Try.underlying38 rfl (by kernel_rfl) ?_
    refine Lw.wpList_val rfl (.pointer (some ⟨w.heap.size, 0, none⟩)) wHD (by go_simp) ?_
    simp only [Act.put, List.setIfInBounds_toArray, List.set_cons_zero, List.set_cons_succ]
    refine wpList_load_mid rfl 38 _ rfl w.heap.size 0 (by kernel_rfl) (nmA (lb p)).toList _ HM.out.f.prime Try.underlying38 rfl (by kernel_rfl) ?_
    simp only [Act.put, List.setIfInBounds_toArray, List.set_cons_zero, List.set_cons_succ]
    refine Lw.wpList_callTo (some 20) rfl rfl 50 _ _ rfl (fun _ _ => by go_simp) #[nmV D, nmV p] (by kernel_rfl) ?_
    refine (HPl.out _).mono ?_
    rintro e u ⟨rfl, hb⟩
    refine ⟨_, rfl, ?_⟩
    have HM := Lib.hid (HM.out.on hb)
    have HD := Lib.hid (HD.out.on hb)
    clear hb
    refine Lw.wpList_val rfl (.tuple #[nmV S, .bool c]) u (by go_simp) ?_
    refine Lw.wpList_val rfl (nmV S) u (by go_simp) ?_
    refine Lw.wpList_val rfl (.bool c) u (by go_simp) ?_
    simp only [Act.put, List.setIfInBounds_toArray, List.set_cons_zero, List.set_cons_succ]
    refine wpList_store_row rfl 38 _ _ rfl gHD (nmA (lb S)) (by kernel_rfl) (by kernel_rfl) 38 _ HD.out (by kernel_rfl) (by rw [nmA_size, nmA_size]) (nmA_one _) ?_
    simp only [Act.put]
    have HM := Lib.hid (HM.out.far (nmA (lb S)) GHD.out)
    have HS := Lib.hid (HD.out.put S)
    generalize u.setRow gHD (nmA (lb S)) = w2 at HM HS ⊢
    generalize nmV a = Av
    generalize nmV b = Bv
    generalize nmV D = Dv
    generalize nmV S = Sv
    generalize nmV p = Pv
    clear HD HPl HMi
    go_upto_region 4 with (fail)
    apply wp_region_lit
    refine wpList_load_row rfl 38 _ rfl gHD (by kernel_rfl) 38 (nmA (lb S)) (0, 0) _ HS.out Try.underlying38 rfl (by kernel_rfl) ?_
    simp only [Act.put, List.setIfInBounds_toArray, List.set_cons_zero, List.set_cons_succ]
    have HR := Lib.hid HM.out.r
    refine wpList_store_row rfl 38 _ _ rfl (w.heap.size + 3) (nmA (lb S)) (by kernel_rfl) (by kernel_rfl) 38 _ HR.out (by kernel_rfl) (by rw [nmA_size, nmA_size]) (nmA_one _) ?_
    simp only [Act.put]
    generalize hA : nmA (lb S) = A at HS
    go_wp2_with (fail)
    refine bodyPost_ret (v := .agg A) ?_ rfl ?_
    · exact results_cell_row (fn := Try.f44) Try.results44 _ _ (w.heap.size + 3) 38 _ (0, 0) _ rfl (setRow_heap _ _ _ _ _ _ HR.out) Try.underlying38 rfl (by rw [← hA]; kernel_rfl)
    · exact ⟨by rw [← hA, show R = S from HV.out.symm]; rfl, below_setRow HM.out.below (by omega) _⟩
theorem fminus_any (p o a b : Nat) (w : World) (hp : p < B8) (ha : a < p) (hb : b < p) : Calls Try.prog 44 #[fdV p o, nmV a, nmV b] w fun e u => e = .returned (nmV ((a + p - b) % p)) ∧ Below w.heap.size w u :=
  fminus_raw p o a b _ _ _ _ _ w (fun u => minus_any a b u (Nat.lt_trans ha hp) (Nat.lt_trans hb hp)) (fun u => plus_any ((a + B8 - b) % B8) p u (Nat.mod_lt _ (by decide)) hp) (minus_mod ha hb hp)
end Go.Proofs.Nd
