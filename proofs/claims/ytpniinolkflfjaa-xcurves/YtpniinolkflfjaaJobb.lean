/-
  The developers' numbers: sums and differences in a field.
-/
import Derived.Test.YtpniinolkflfjaaJoba
namespace Go.Proofs.Nd
open Go.RowKit
open Go.Proofs.Im (wpList_box_to words_heap words_one run_index_row)
open Go.Proofs.Sha (wordCells wordCells_get wordCells_size rowIs_of wpList_alloc_to wpList_build_to)
open Go.Proofs.Nt
open Go.Proofs.Nu (nmL nmA nmV lt8 nmA_get nmA_congr nmA_one nmA_size results_row_slot B8 b8 nv8 nmA_lb nv_lt8 md mP mN mX md_lt wpList_on wpList_off)
/-- A field, two numbers, a result's place. -/
structure Bx (w u : World) (p o a b : Nat) : Prop where
  f : Fd u w.heap.size p o
  a : Nb u (w.heap.size + 1) a
  b : Nb u (w.heap.size + 2) b
  r : Nb u (w.heap.size + 3) 0
  below : Below w.heap.size w u
theorem Bx.new (w : World) (p o a b : Nat) : Bx w ((((w.alloc (.cells (fdA p o) 40)).alloc (.cells (nmA (lb a)) 38)).alloc (.cells (nmA (lb b)) 38)).alloc (.cells (nmA (lb 0)) 38)) p o a b := by
  have s1 : (w.alloc (.cells (fdA p o) 40)).heap.size = w.heap.size + 1 := by simp
  have h1 := Fd.new w p o
  have b1 : Below w.heap.size w (w.alloc (.cells (fdA p o) 40)) := (Below.refl _ _).alloc (Nat.le_refl _) _
  generalize w.alloc (.cells (fdA p o) 40) = w1 at s1 h1 b1 ⊢
  have s2 : (w1.alloc (.cells (nmA (lb a)) 38)).heap.size = w.heap.size + 2 := by simp; omega
  have h2 := Nb.new w1 a
  rw [s1] at h2
  have b2 := b1.alloc (show w.heap.size ≤ w1.heap.size by omega) (.cells (nmA (lb a)) 38)
  have h1 := h1.alloc (.cells (nmA (lb a)) 38)
  generalize w1.alloc (.cells (nmA (lb a)) 38) = w2 at s2 h1 h2 b2 ⊢
  have s3 : (w2.alloc (.cells (nmA (lb b)) 38)).heap.size = w.heap.size + 3 := by simp; omega
  have h3 := Nb.new w2 b
  rw [s2] at h3
  have b3 := b2.alloc (show w.heap.size ≤ w2.heap.size by omega) (.cells (nmA (lb b)) 38)
  have h1 := h1.alloc (.cells (nmA (lb b)) 38)
  have h2 := h2.alloc (.cells (nmA (lb b)) 38)
  generalize w2.alloc (.cells (nmA (lb b)) 38) = w3 at s3 h1 h2 h3 b3 ⊢
  have h4 := Nb.new w3 0
  rw [s3] at h4
  exact ⟨h1.alloc _, h2.alloc _, h3.alloc _, h4, b3.alloc (by omega) _⟩
theorem Bx.on {w u v : World} {p o a b : Nat} (h : Bx w u p o a b) (hb : Below u.heap.size u v) : Bx w v p o a b := ⟨h.f.on hb, h.a.on hb, h.b.on hb, h.r.on hb, Lw.go_on h.below hb⟩
theorem Bx.alloc {w u : World} {p o a b : Nat} (h : Bx w u p o a b) (ob : Obj) : Bx w (u.alloc ob) p o a b := ⟨h.f.alloc ob, h.a.alloc ob, h.b.alloc ob, h.r.alloc ob, h.below.alloc h.below.size ob⟩
theorem Bx.far {w u : World} {p o a b g : Nat} (h : Bx w u p o a b) (A : Array Value) (hg : w.heap.size + 3 < g) : Bx w (u.setRow g A) p o a b :=
  ⟨h.f.far A (by omega), h.a.far A (by omega), h.b.far A (by omega), h.r.far A (by omega), below_setRow h.below (by omega) A⟩
theorem Bx.lt {w u : World} {p o a b : Nat} (h : Bx w u p o a b) : w.heap.size + 3 < u.heap.size := h.r.lt
theorem plus_mod {p a b K : Nat} (ha : a < p) (hb : b < p) (hp : p < K) : (bif decide ((a + b) % K < p) && !decide (K ≤ a + b) then (a + b) % K else ((a + b) % K + K - p) % K) = (a + b) % p := by
  rcases Nat.lt_or_ge (a + b) K with h | h
  · rw [Nat.mod_eq_of_lt h, decide_eq_false (show ¬ K ≤ a + b by omega), Bool.not_false, Bool.and_true]
    rcases Nat.lt_or_ge (a + b) p with h2 | h2
    · rw [decide_eq_true h2, cond_true, Nat.mod_eq_of_lt h2]
    · rw [decide_eq_false (by omega), cond_false, show a + b + K - p = (a + b - p) + K by omega, Nat.add_mod_right, Nat.mod_eq_of_lt (show a + b - p < K by omega), Nat.mod_eq_sub_mod h2, Nat.mod_eq_of_lt (show a + b - p < p by omega)]
  · rw [decide_eq_true h, Bool.not_true, Bool.and_false, cond_false, Nat.mod_eq_sub_mod h, Nat.mod_eq_of_lt (show a + b - K < K by omega), show a + b - K + K - p = a + b - p by omega, Nat.mod_eq_of_lt (show a + b - p < K by omega), Nat.mod_eq_sub_mod (show p ≤ a + b by omega), Nat.mod_eq_of_lt (show a + b - p < p by omega)]
set_option maxHeartbeats 2000000 in
set_option maxRecDepth 20000 in
theorem fplus_raw (p o a b S D R : Nat) (c l : Bool) (w : World) (hPl : ∀ u : World, Calls Try.prog 50 #[nmV a, nmV b] u fun e u' => e = .returned (.tuple #[nmV S, .bool c]) ∧ Below u.heap.size u u') (hMi : ∀ u : World, Calls Try.prog 49 #[nmV S, nmV p] u fun e u' => e = .returned (.tuple #[nmV D, .bool l]) ∧ Below u.heap.size u u') (hV : (bif l && !c then S else D) = R) : Calls Try.prog 43 #[fdV p o, nmV a, nmV b] w fun e u => e = .returned (nmV R) ∧ Below w.heap.size w u := by
  have HPl := Lib.hid hPl
  have HMi := Lib.hid hMi
  have HV := Lib.hid hV
  clear hPl hMi hV
  go_enter Try.func43, Try.ntmps43
  go_upto_region 0 with (fail)
  apply wp_region_lit
  refine wpList_box_to rfl 40 _ rfl (fdA p o) (by kernel_rfl) w.heap.size rfl ?_
  refine wpList_box_to rfl 38 _ rfl (nmA (lb a)) (by kernel_rfl) (w.heap.size + 1) (by simp) ?_
  refine wpList_box_to rfl 38 _ rfl (nmA (lb b)) (by kernel_rfl) (w.heap.size + 2) (by simp) ?_
  refine wpList_alloc_to rfl 38 rfl (nmA (lb 0)) (w.heap.size + 3) (by simp) alloc_n ?_
  simp only [Act.put, List.setIfInBounds_toArray, List.set_cons_zero, List.set_cons_succ]
  have HM := Lib.hid (Bx.new w p o a b)
  generalize (((w.alloc (.cells (fdA p o) 40)).alloc (.cells (nmA (lb a)) 38)).alloc (.cells (nmA (lb b)) 38)).alloc (.cells (nmA (lb 0)) 38) = w1 at HM ⊢
  generalize fdV p o = Fv
  go_upto_region 1 with (fail)
  apply wp_region_lit
  refine wpList_load_row rfl 38 _ rfl (w.heap.size + 1) (by kernel_rfl) 38 (nmA (lb a)) (0, 0) _ HM.out.a Try.underlying38 rfl (by kernel_rfl) ?_
  refine wpList_load_row rfl 38 _ rfl (w.heap.size + 2) (by kernel_rfl) 38 (nmA (lb b)) (0, 0) _ HM.out.b Try.underlying38 rfl (by kernel_rfl) ?_
  simp only [Act.put, List.setIfInBounds_toArray, List.set_cons_zero, List.set_cons_succ]
  refine Lw.wpList_callTo (some 14) rfl rfl 50 _ _ rfl (fun _ _ => by go_simp) #[nmV a, nmV b] (by kernel_rfl) ?_
  refine (HPl.out _).mono ?_
  rintro e u ⟨rfl, hb⟩
  refine ⟨_, rfl, ?_⟩
  have HM := Lib.hid (HM.out.on hb)
  clear hb
  refine Lw.wpList_val rfl (.tuple #[nmV S, .bool c]) u (by go_simp) ?_
  refine Lw.wpList_val rfl (nmV S) u (by go_simp) ?_
  refine Lw.wpList_val rfl (.bool c) u (by go_simp) ?_
  refine wpList_alloc_to rfl 38 rfl (nmA (lb 0)) u.heap.size rfl alloc_n ?_
  simp only [Act.put, List.setIfInBounds_toArray, List.set_cons_zero, List.set_cons_succ]
  refine wpList_store_row rfl 38 _ _ rfl u.heap.size (nmA (lb S)) (by kernel_rfl) (by kernel_rfl) 38 _ (heap_alloc_last _ _) (by kernel_rfl) (by rw [nmA_size, nmA_size]) (nmA_one _) ?_
  rw [World.setRow_alloc_new]
  refine Lw.wpList_val rfl (.bool c) (u.alloc (.cells (nmA (lb S)) 38)) (by go_simp) ?_
  simp only [Act.put, List.setIfInBounds_toArray, List.set_cons_zero, List.set_cons_succ]
  have HS := Lib.hid (Nb.new u S)
  have GHS : Hid (w.heap.size + 3 < u.heap.size) := HM.out.lt
  have HM := Lib.hid (HM.out.alloc (.cells (nmA (lb S)) 38))
  generalize u.alloc (.cells (nmA (lb S)) 38) = wHS at HS HM  ⊢
  generalize u.heap.size = gHS at HS GHS ⊢
  go_upto_region 2 with (fail)
  apply wp_region_lit
  refine wpList_load_row rfl 38 _ rfl gHS (by kernel_rfl) 38 (nmA (lb S)) (0, 0) _ HS.out Try.underlying38 rfl (by kernel_rfl) ?_
  refine Lw.wpList_val rfl (.pointer (some ⟨w.heap.size, 0, none⟩)) wHS (by go_simp) ?_
  simp only [Act.put, List.setIfInBounds_toArray, List.set_cons_zero, List.set_cons_succ]
  refine wpList_load_mid rfl 38 _ rfl w.heap.size 0 (by kernel_rfl) (nmA (lb p)).toList _ HM.out.f.prime Try.underlying38 rfl (by kernel_rfl) ?_
  simp only [Act.put, List.setIfInBounds_toArray, List.set_cons_zero, List.set_cons_succ]
  refine Lw.wpList_callTo (some 21) rfl rfl 49 _ _ rfl (fun _ _ => by go_simp) #[nmV S, nmV p] (by kernel_rfl) ?_
  refine (HMi.out _).mono ?_
  rintro e u ⟨rfl, hb⟩
  refine ⟨_, rfl, ?_⟩
  have HM := Lib.hid (HM.out.on hb)
  have HS := Lib.hid (HS.out.on hb)
  clear hb
  refine Lw.wpList_val rfl (.tuple #[nmV D, .bool l]) u (by go_simp) ?_
  refine Lw.wpList_val rfl (nmV D) u (by go_simp) ?_
  refine Lw.wpList_val rfl (.bool l) u (by go_simp) ?_
  refine wpList_alloc_to rfl 38 rfl (nmA (lb 0)) u.heap.size rfl alloc_n ?_
  simp only [Act.put, List.setIfInBounds_toArray, List.set_cons_zero, List.set_cons_succ]
  refine wpList_store_row rfl 38 _ _ rfl u.heap.size (nmA (lb D)) (by kernel_rfl) (by kernel_rfl) 38 _ (heap_alloc_last _ _) (by kernel_rfl) (by rw [nmA_size, nmA_size]) (nmA_one _) ?_
  rw [World.setRow_alloc_new]
  refine Lw.wpList_val rfl (.bool l) (u.alloc (.cells (nmA (lb D)) 38)) (by go_simp) ?_
  simp only [Act.put, List.setIfInBounds_toArray, List.set_cons_zero, List.set_cons_succ]
  have HD := Lib.hid (Nb.new u D)
  have GHD : Hid (w.heap.size + 3 < u.heap.size) := HM.out.lt
  have HM := Lib.hid (HM.out.alloc (.cells (nmA (lb D)) 38))
  have HS := Lib.hid (HS.out.alloc (.cells (nmA (lb D)) 38))
  generalize u.alloc (.cells (nmA (lb D)) 38) = wHD at HD HM HS ⊢
  generalize u.heap.size = gHD at HD GHD ⊢
  generalize nmV S = Sv
  generalize nmV D = Dv
  generalize nmV p = Pv
  generalize nmV a = Av
  generalize nmV b = Bv
  clear HPl HMi GHS GHD
  cases l
  · cases c
    · go_upto_region 3 with (fail)
      apply wp_region_lit
      refine Lw.wpList_val rfl (.bool false) wHD (by go_simp) ?_
      refine Lw.wpList_val rfl (.bool false) wHD (by go_simp) ?_
      simp only [Act.put, List.setIfInBounds_toArray, List.set_cons_zero, List.set_cons_succ]
      refine wpList_off (by rfl) ?_
      simp only [Act.put, List.setIfInBounds_toArray, List.set_cons_zero, List.set_cons_succ]
      refine wpList_off (by rfl) ?_
      simp only [Act.put, List.setIfInBounds_toArray, List.set_cons_zero, List.set_cons_succ]
      refine Lw.wpList_val rfl (.bool false) wHD (by go_simp) ?_
      simp only [Act.put, List.setIfInBounds_toArray, List.set_cons_zero, List.set_cons_succ]
      go_upto_region 5 with (fail)
      apply wp_region_lit
      refine wpList_load_row rfl 38 _ rfl gHD (by kernel_rfl) 38 (nmA (lb D)) (0, 0) _ HD.out Try.underlying38 rfl (by kernel_rfl) ?_
      simp only [Act.put, List.setIfInBounds_toArray, List.set_cons_zero, List.set_cons_succ]
      have HR := Lib.hid HM.out.r
      refine wpList_store_row rfl 38 _ _ rfl (w.heap.size + 3) (nmA (lb D)) (by kernel_rfl) (by kernel_rfl) 38 _ HR.out (by kernel_rfl) (by rw [nmA_size, nmA_size]) (nmA_one _) ?_
      simp only [Act.put]
      generalize hA : nmA (lb D) = A at HD
      go_wp2_with (fail)
      refine bodyPost_ret (v := .agg A) ?_ rfl ?_
      · exact results_cell_row (fn := Try.f43) Try.results43 _ _ (w.heap.size + 3) 38 _ (0, 0) _ rfl (setRow_heap _ _ _ _ _ _ HR.out) Try.underlying38 rfl (by rw [← hA]; kernel_rfl)
      · exact ⟨by rw [← hA, show R = D from HV.out.symm]; rfl, below_setRow HM.out.below (by omega) _⟩
    · go_upto_region 3 with (fail)
      apply wp_region_lit
      refine Lw.wpList_val rfl (.bool false) wHD (by go_simp) ?_
      refine Lw.wpList_val rfl (.bool false) wHD (by go_simp) ?_
      simp only [Act.put, List.setIfInBounds_toArray, List.set_cons_zero, List.set_cons_succ]
      refine wpList_off (by rfl) ?_
      simp only [Act.put, List.setIfInBounds_toArray, List.set_cons_zero, List.set_cons_succ]
      refine wpList_off (by rfl) ?_
      simp only [Act.put, List.setIfInBounds_toArray, List.set_cons_zero, List.set_cons_succ]
      refine Lw.wpList_val rfl (.bool false) wHD (by go_simp) ?_
      simp only [Act.put, List.setIfInBounds_toArray, List.set_cons_zero, List.set_cons_succ]
      go_upto_region 5 with (fail)
      apply wp_region_lit
      refine wpList_load_row rfl 38 _ rfl gHD (by kernel_rfl) 38 (nmA (lb D)) (0, 0) _ HD.out Try.underlying38 rfl (by kernel_rfl) ?_
      simp only [Act.put, List.setIfInBounds_toArray, List.set_cons_zero, List.set_cons_succ]
      have HR := Lib.hid HM.out.r
      refine wpList_store_row rfl 38 _ _ rfl (w.heap.size + 3) (nmA (lb D)) (by kernel_rfl) (by kernel_rfl) 38 _ HR.out (by kernel_rfl) (by rw [nmA_size, nmA_size]) (nmA_one _) ?_
      simp only [Act.put]
      generalize hA : nmA (lb D) = A at HD
      go_wp2_with (fail)
      refine bodyPost_ret (v := .agg A) ?_ rfl ?_
      · exact results_cell_row (fn := Try.f43) Try.results43 _ _ (w.heap.size + 3) 38 _ (0, 0) _ rfl (setRow_heap _ _ _ _ _ _ HR.out) Try.underlying38 rfl (by rw [← hA]; kernel_rfl)
      · exact ⟨by rw [← hA, show R = D from HV.out.symm]; rfl, below_setRow HM.out.below (by omega) _⟩
  · cases c
    · go_upto_region 3 with (fail)
      apply wp_region_lit
      refine Lw.wpList_val rfl (.bool true) wHD (by go_simp) ?_
      refine Lw.wpList_val rfl (.bool true) wHD (by go_simp) ?_
      simp only [Act.put, List.setIfInBounds_toArray, List.set_cons_zero, List.set_cons_succ]
      refine wpList_on (by rfl) ?_
      refine Lw.wpList_val rfl (.bool false) wHD (by go_simp) ?_
      simp only [Act.put, List.setIfInBounds_toArray, List.set_cons_zero, List.set_cons_succ]
      refine wpList_on (by rfl) ?_
      refine Lw.wpList_val rfl (.bool true) wHD (by go_simp) ?_
      simp only [Act.put, List.setIfInBounds_toArray, List.set_cons_zero, List.set_cons_succ]
      refine Lw.wpList_val rfl (.bool true) wHD (by go_simp) ?_
      simp only [Act.put, List.setIfInBounds_toArray, List.set_cons_zero, List.set_cons_succ]
      go_upto_region 4 with (fail)
      apply wp_region_lit
      refine wpList_load_row rfl 38 _ rfl gHS (by kernel_rfl) 38 (nmA (lb S)) (0, 0) _ HS.out Try.underlying38 rfl (by kernel_rfl) ?_
      simp only [Act.put, List.setIfInBounds_toArray, List.set_cons_zero, List.set_cons_succ]
      have HR := Lib.hid HM.out.r
      refine wpList_store_row rfl 38 _ _ rfl (w.heap.size + 3) (nmA (lb S)) (by kernel_rfl) (by kernel_rfl) 38 _ HR.out (by kernel_rfl) (by rw [nmA_size, nmA_size]) (nmA_one _) ?_
      simp only [Act.put]
      generalize hA : nmA (lb S) = A at HS
      go_wp2_with (fail)
      refine bodyPost_ret (v := .agg A) ?_ rfl ?_
      · exact results_cell_row (fn := Try.f43) Try.results43 _ _ (w.heap.size + 3) 38 _ (0, 0) _ rfl (setRow_heap _ _ _ _ _ _ HR.out) Try.underlying38 rfl (by rw [← hA]; kernel_rfl)
      · exact ⟨by rw [← hA, show R = S from HV.out.symm]; rfl, below_setRow HM.out.below (by omega) _⟩
    · go_upto_region 3 with (fail)
      apply wp_region_lit
      refine Lw.wpList_val rfl (.bool true) wHD (by go_simp) ?_
      refine Lw.wpList_val rfl (.bool true) wHD (by go_simp) ?_
      simp only [Act.put, List.setIfInBounds_toArray, List.set_cons_zero, List.set_cons_succ]
      refine wpList_on (by rfl) ?_
      refine Lw.wpList_val rfl (.bool true) wHD (by go_simp) ?_
      simp only [Act.put, List.setIfInBounds_toArray, List.set_cons_zero, List.set_cons_succ]
      refine wpList_on (by rfl) ?_
      refine Lw.wpList_val rfl (.bool false) wHD (by go_simp) ?_
      simp only [Act.put, List.setIfInBounds_toArray, List.set_cons_zero, List.set_cons_succ]
      refine Lw.wpList_val rfl (.bool false) wHD (by go_simp) ?_
      simp only [Act.put, List.setIfInBounds_toArray, List.set_cons_zero, List.set_cons_succ]
      go_upto_region 5 with (fail)
      apply wp_region_lit
      refine wpList_load_row rfl 38 _ rfl gHD (by kernel_rfl) 38 (nmA (lb D)) (0, 0) _ HD.out Try.underlying38 rfl (by kernel_rfl) ?_
      simp only [Act.put, List.setIfInBounds_toArray, List.set_cons_zero, List.set_cons_succ]
      have HR := Lib.hid HM.out.r
      refine wpList_store_row rfl 38 _ _ rfl (w.heap.size + 3) (nmA (lb D)) (by kernel_rfl) (by kernel_rfl) 38 _ HR.out (by kernel_rfl) (by rw [nmA_size, nmA_size]) (nmA_one _) ?_
      simp only [Act.put]
      generalize hA : nmA (lb D) = A at HD
      go_wp2_with (fail)
      refine bodyPost_ret (v := .agg A) ?_ rfl ?_
      · exact results_cell_row (fn := Try.f43) Try.results43 _ _ (w.heap.size + 3) 38 _ (0, 0) _ rfl (setRow_heap _ _ _ _ _ _ HR.out) Try.underlying38 rfl (by rw [← hA]; kernel_rfl)
      · exact ⟨by rw [← hA, show R = D from HV.out.symm]; rfl, below_setRow HM.out.below (by omega) _⟩
theorem fplus_any (p o a b : Nat) (w : World) (hp : p < B8) (ha : a < p) (hb : b < p) : Calls Try.prog 43 #[fdV p o, nmV a, nmV b] w fun e u => e = .returned (nmV ((a + b) % p)) ∧ Below w.heap.size w u :=
  fplus_raw p o a b _ _ _ _ _ w (fun u => plus_any a b u (Nat.lt_trans ha hp) (Nat.lt_trans hb hp)) (fun u => minus_any ((a + b) % B8) p u (Nat.mod_lt _ (by decide)) hp) (plus_mod ha hb hp)
end Go.Proofs.Nd
