/-
  The developers' X25519: out of a point its coordinate; the ladder.
-/
import Derived.Test.YtpniinolkflfjaaJobj
import Derived.Test.YtpniinolkflfjaaJobk
import Derived.Test.YtpniinolkflfjaaJobu
namespace Go.Proofs.Xe
open Go.RowKit
open Go.Proofs.Im (wpList_box_to words_heap words_one run_index_row)
open Go.Proofs.Sha (wordCells wordCells_get wordCells_size rowIs_of wpList_alloc_to wpList_build_to)
open Go.Proofs.Nt
open Go.Proofs.Nu (nmL nmA nmV nmA_one nmA_size)
open Go.Proofs.Nd (fdA fdV fdA_size fdA_one alloc_n alloc_f)
open Go.Proofs.Eo
open Go.Proofs.En (meetH)
open Go.Proofs.He (takeH load_row callH allocH storeH)
set_option maxHeartbeats 4000000 in
set_option maxRecDepth 20000 in
theorem affine_raw (p o U X Z I R : Nat) (ok : Bool) (w : World)
    (hI : ∀ u : World, Calls Try.prog 46 #[fdV p o, nmV Z] u fun e u' => e = .returned (.tuple #[nmV I, .bool ok]) ∧ Below u.heap.size u u')
    (hT : ok = true → ∀ u : World, Calls Try.prog 45 #[fdV p o, nmV X, nmV I] u fun e u' => e = .returned (nmV R) ∧ Below u.heap.size u u')
    (h0 : ok = false → R = 0) : Calls Try.prog 32 #[ldV p o U, ptV X Z] w fun e u => e = .returned (nmV R) ∧ Below w.heap.size w u := by
  have HI := Lib.hid hI
  have HTi := Lib.hid hT
  have H0 := Lib.hid h0
  clear hI hT h0
  go_enter Try.func32, Try.ntmps32
  go_upto_region 0 with (fail)
  apply wp_region_lit
  refine wpList_box_to rfl 42 _ rfl (ldA p o U) (by kernel_rfl) w.heap.size rfl ?_
  refine wpList_box_to rfl 62 _ rfl (fdA X Z) (by kernel_rfl) (w.heap.size + 1) (by simp) ?_
  refine wpList_alloc_to rfl 38 rfl (nmA (lb 0)) (w.heap.size + 2) (by simp) alloc_n ?_
  simp only [Act.put, List.setIfInBounds_toArray, List.set_cons_zero, List.set_cons_succ]
  have HM : Hid (Env w (((w.alloc (.cells (ldA p o U) 42)).alloc (.cells (fdA X Z) 62)).alloc (.cells (nmA (lb 0)) 38)) (w.heap.size + 3) [((w.heap.size + 2), (38, nmA (lb 0))), ((w.heap.size + 1), (62, fdA X Z)), (w.heap.size, (42, ldA p o U))]) := ((((Env.start w).new rfl 42 (ldA p o U)).new (by simp) 62 (fdA X Z)).new (by simp) 38 (nmA (lb 0)))
  generalize (((w.alloc (.cells (ldA p o U) 42)).alloc (.cells (fdA X Z) 62)).alloc (.cells (nmA (lb 0)) 38)) = w1 at HM ⊢
  generalize ldV p o U = Lv
  generalize ptV X Z = Pv
  go_upto_region 1 with (fail)
  apply wp_region_lit
  refine Lw.wpList_val rfl (.pointer (some ⟨w.heap.size, 0, none⟩)) w1 (by go_simp) ?_
  simp only [Act.put, List.setIfInBounds_toArray, List.set_cons_zero, List.set_cons_succ]
  refine wpList_load_mid rfl 40 _ rfl w.heap.size 0 (by kernel_rfl) (fdA p o).toList _ (ld_f (HM.out.get 2 rfl)) Try.underlying40 rfl (by kernel_rfl) ?_
  simp only [Act.put, List.setIfInBounds_toArray, List.set_cons_zero, List.set_cons_succ]
  refine Lw.wpList_val rfl (.pointer (some ⟨(w.heap.size + 1), 8, none⟩)) w1 (by go_simp) ?_
  simp only [Act.put, List.setIfInBounds_toArray, List.set_cons_zero, List.set_cons_succ]
  refine wpList_load_mid rfl 38 _ rfl (w.heap.size + 1) 8 (by kernel_rfl) (nmA (lb Z)).toList _ (pt_z (HM.out.get 1 rfl)) Try.underlying38 rfl (by kernel_rfl) ?_
  simp only [Act.put, List.setIfInBounds_toArray, List.set_cons_zero, List.set_cons_succ]
  refine Lw.wpList_callTo (some 12) rfl rfl 46 _ _ rfl (fun _ _ => by go_simp) #[fdV p o, nmV Z] (by kernel_rfl) ?_
  refine (HI.out w1).mono ?_
  rintro e u1 ⟨rfl, hb⟩
  refine ⟨_, rfl, ?_⟩
  have HM := Lib.hid (HM.out.on hb)
  clear hb
  simp only [Act.put, List.setIfInBounds_toArray, List.set_cons_zero, List.set_cons_succ]
  refine Lw.wpList_val rfl (.tuple #[nmV I, .bool ok]) u1 (by go_simp) ?_
  simp only [Act.put, List.setIfInBounds_toArray, List.set_cons_zero, List.set_cons_succ]
  refine Lw.wpList_val rfl (nmV I) u1 (by go_simp) ?_
  simp only [Act.put, List.setIfInBounds_toArray, List.set_cons_zero, List.set_cons_succ]
  refine Lw.wpList_val rfl (.bool ok) u1 (by go_simp) ?_
  simp only [Act.put, List.setIfInBounds_toArray, List.set_cons_zero, List.set_cons_succ]
  refine wpList_alloc_to rfl 38 rfl (nmA (lb 0)) u1.heap.size rfl alloc_n ?_
  simp only [Act.put, List.setIfInBounds_toArray, List.set_cons_zero, List.set_cons_succ]
  refine wpList_store_row rfl 38 _ _ rfl u1.heap.size (nmA (lb I)) (by kernel_rfl) (by kernel_rfl) 38 _ (heap_alloc_last _ _) (by kernel_rfl) (by first | rw [nmA_size, nmA_size] | rfl) (nmA_one _) ?_
  rw [World.setRow_alloc_new]
  simp only [Act.put]
  have HM := Lib.hid ((HM.out.alloc (.cells (nmA (lb I)) 38)).cons (HM.out.size) (Cell.new 38 u1 (nmA (lb I))))
  generalize u1.alloc (.cells (nmA (lb I)) 38) = w2 at HM ⊢
  generalize u1.heap.size = q5 at HM ⊢
  generalize q5 + 1 = n1 at HM
  refine Lw.wpList_val rfl (.bool ok) w2 (by go_simp) ?_
  simp only [Act.put, List.setIfInBounds_toArray, List.set_cons_zero, List.set_cons_succ]
  have HT := HTi
  cases ok
  · obtain rfl : R = 0 := H0.out rfl
    go_upto_region 3 with (fail)
    apply wp_region_lit
    refine wpList_build_to rfl 38 _ rfl (nmA (lb 0)) (by kernel_rfl) ?_
    simp only [Act.put, List.setIfInBounds_toArray, List.set_cons_zero, List.set_cons_succ]
    have hput : Env w (w2.setRow (w.heap.size + 2) (nmA (lb 0))) n1 [(q5, (38, nmA (lb I))), ((w.heap.size + 2), (38, nmA (lb 0))), ((w.heap.size + 1), (62, fdA X Z)), (w.heap.size, (42, ldA p o U))] := HM.out.put 1 (A := nmA (lb 0)) rfl (nmA (lb 0))
    refine wpList_store_row rfl 38 _ _ rfl (w.heap.size + 2) (nmA (lb 0)) (by kernel_rfl) (by kernel_rfl) 38 _ (HM.out.get 1 rfl) (by kernel_rfl) (by first | rw [nmA_size, nmA_size] | rfl) (nmA_one _) ?_
    have HM := Lib.hid hput
    clear hput
    generalize w2.setRow (w.heap.size + 2) (nmA (lb 0)) = w3 at HM ⊢
    simp only [Act.put]
    obtain ⟨A, hA⟩ : ∃ A, nmA (lb 0) = A := ⟨_, rfl⟩
    have HN := Lib.hid (HM.out.get 1 (g := (w.heap.size + 2)) (t := 38) (A := nmA (lb 0)) rfl)
    rw [hA] at HN
    go_wp2_with (fail)
    refine bodyPost_ret (v := .agg A) ?_ rfl ?_
    · exact results_cell_row (fn := Try.f32) Try.results32 _ _ (w.heap.size + 2) 38 _ (0, 0) _ rfl HN.out Try.underlying38 rfl (by rw [← hA]; kernel_rfl)
    · exact ⟨by rw [← hA]; rfl, HM.out.below⟩
  · have HT := Lib.hid (HT.out rfl)
    go_upto_region 4 with (fail)
    apply wp_region_lit
    refine Lw.wpList_val rfl (.pointer (some ⟨w.heap.size, 0, none⟩)) w2 (by go_simp) ?_
    simp only [Act.put, List.setIfInBounds_toArray, List.set_cons_zero, List.set_cons_succ]
    refine wpList_load_mid rfl 40 _ rfl w.heap.size 0 (by kernel_rfl) (fdA p o).toList _ (ld_f (HM.out.get 3 rfl)) Try.underlying40 rfl (by kernel_rfl) ?_
    simp only [Act.put, List.setIfInBounds_toArray, List.set_cons_zero, List.set_cons_succ]
    refine Lw.wpList_val rfl (.pointer (some ⟨(w.heap.size + 1), 0, none⟩)) w2 (by go_simp) ?_
    simp only [Act.put, List.setIfInBounds_toArray, List.set_cons_zero, List.set_cons_succ]
    refine wpList_load_mid rfl 38 _ rfl (w.heap.size + 1) 0 (by kernel_rfl) (nmA (lb X)).toList _ (pt_x (HM.out.get 2 rfl)) Try.underlying38 rfl (by kernel_rfl) ?_
    simp only [Act.put, List.setIfInBounds_toArray, List.set_cons_zero, List.set_cons_succ]
    refine wpList_load_row rfl 38 _ rfl q5 (by kernel_rfl) 38 (nmA (lb I)) (0, 0) _ (HM.out.get 0 rfl) Try.underlying38 rfl (by kernel_rfl) ?_
    simp only [Act.put, List.setIfInBounds_toArray, List.set_cons_zero, List.set_cons_succ]
    refine Lw.wpList_callTo (some 23) rfl rfl 45 _ _ rfl (fun _ _ => by go_simp) #[fdV p o, nmV X, nmV I] (by kernel_rfl) ?_
    refine (HT.out w2).mono ?_
    rintro e u2 ⟨rfl, hb⟩
    refine ⟨_, rfl, ?_⟩
    have HM := Lib.hid (HM.out.on hb)
    clear hb
    simp only [Act.put, List.setIfInBounds_toArray, List.set_cons_zero, List.set_cons_succ]
    have hput : Env w (u2.setRow (w.heap.size + 2) (nmA (lb R))) n1 [(q5, (38, nmA (lb I))), ((w.heap.size + 2), (38, nmA (lb R))), ((w.heap.size + 1), (62, fdA X Z)), (w.heap.size, (42, ldA p o U))] := HM.out.put 1 (A := nmA (lb 0)) rfl (nmA (lb R))
    refine wpList_store_row rfl 38 _ _ rfl (w.heap.size + 2) (nmA (lb R)) (by kernel_rfl) (by kernel_rfl) 38 _ (HM.out.get 1 rfl) (by kernel_rfl) (by first | rw [nmA_size, nmA_size] | rfl) (nmA_one _) ?_
    have HM := Lib.hid hput
    clear hput
    generalize u2.setRow (w.heap.size + 2) (nmA (lb R)) = w3 at HM ⊢
    simp only [Act.put]
    obtain ⟨A, hA⟩ : ∃ A, nmA (lb R) = A := ⟨_, rfl⟩
    have HN := Lib.hid (HM.out.get 1 (g := (w.heap.size + 2)) (t := 38) (A := nmA (lb R)) rfl)
    rw [hA] at HN
    go_wp2_with (fail)
    refine bodyPost_ret (v := .agg A) ?_ rfl ?_
    · exact results_cell_row (fn := Try.f32) Try.results32 _ _ (w.heap.size + 2) 38 _ (0, 0) _ rfl HN.out Try.underlying38 rfl (by rw [← hA]; kernel_rfl)
    · exact ⟨by rw [← hA]; rfl, HM.out.below⟩
theorem step_turn {m : Nat} [NeZero m] (a x : Fin m) (c : Nat) (A2 C2 A3 C3 : Fin m) :
    Ec.step a x c (if c = 0 then ⟨A2, C2, A3, C3⟩ else ⟨A3, C3, A2, C2⟩) = if c = 0 then ⟨Ec.dX A2 C2, Ec.dZ a A2 C2, Ec.sX A2 C2 A3 C3, Ec.sZ x A2 C2 A3 C3⟩ else ⟨Ec.sX A2 C2 A3 C3, Ec.sZ x A2 C2 A3 C3, Ec.dX A2 C2, Ec.dZ a A2 C2⟩ := by
  unfold Ec.step
  by_cases h0 : c = 0
  · rw [if_pos h0, if_pos h0, if_pos h0]
  · rw [if_neg h0, if_neg h0, if_neg h0]
    show Ec.St.mk (Ec.sX A3 C3 A2 C2) (Ec.sZ x A3 C3 A2 C2) (Ec.dX A2 C2) (Ec.dZ a A2 C2) = _
    rw [Ec.sX_turn, Ec.sZ_turn]
theorem pick_xor {b c : Nat} (hb : b < 2) (hc : c < 2) : ∃ d : Nat, d < 2 ∧ bits .xor .u32 (b : Int) (c : Int) = (d : Int) ∧ ∀ {m : Nat} (s : Ec.St m) (A2 C2 A3 C3 : Fin m), (s = if b = 0 then ⟨A2, C2, A3, C3⟩ else ⟨A3, C3, A2, C2⟩) →
    ∃ L2 M2 L3 M3 : Fin m, (if d = 1 then fdA A3.val C3.val else fdA A2.val C2.val) = fdA L2.val M2.val ∧ (if d = 1 then fdA A2.val C2.val else fdA A3.val C3.val) = fdA L3.val M3.val ∧ s = if c = 0 then ⟨L2, M2, L3, M3⟩ else ⟨L3, M3, L2, M2⟩ := by
  rcases (show b = 0 ∨ b = 1 by omega) with rfl | rfl <;> rcases (show c = 0 ∨ c = 1 by omega) with rfl | rfl
  · exact ⟨0, by decide, by decide, fun s A2 C2 A3 C3 h => ⟨A2, C2, A3, C3, rfl, rfl, h⟩⟩
  · exact ⟨1, by decide, by decide, fun s A2 C2 A3 C3 h => ⟨A3, C3, A2, C2, rfl, rfl, h⟩⟩
  · exact ⟨1, by decide, by decide, fun s A2 C2 A3 C3 h => ⟨A3, C3, A2, C2, rfl, rfl, h⟩⟩
  · exact ⟨0, by decide, by decide, fun s A2 C2 A3 C3 h => ⟨A2, C2, A3, C3, rfl, rfl, h⟩⟩
theorem pick_last {b : Nat} (hb : b < 2) {m : Nat} (s : Ec.St m) (A2 C2 A3 C3 : Fin m) (h : s = if b = 0 then ⟨A2, C2, A3, C3⟩ else ⟨A3, C3, A2, C2⟩) :
    ∃ L2 M2 L3 M3 : Fin m, (if b = 1 then fdA A3.val C3.val else fdA A2.val C2.val) = fdA L2.val M2.val ∧ (if b = 1 then fdA A2.val C2.val else fdA A3.val C3.val) = fdA L3.val M3.val ∧ s = ⟨L2, M2, L3, M3⟩ := by
  rcases (show b = 0 ∨ b = 1 by omega) with rfl | rfl
  · exact ⟨A2, C2, A3, C3, rfl, rfl, h⟩
  · exact ⟨A3, C3, A2, C2, rfl, rfl, h⟩
set_option maxHeartbeats 20000000 in
set_option maxRecDepth 20000 in
theorem times_raw {m : Nat} [NeZero m] (a ux : Fin m) (p o E R : Nat) (F : Nat → Nat) (w : World) (hR : (Ec.ladU a ux E).val = R) (h0 : (0 : Fin m).val = 0) (h1 : (1 : Fin m).val = 1)
    (hBi : ∀ t, t < 255 → ∀ u : World, Calls Try.prog 29 #[scV F, .int .i64 (t : Nat)] u fun e u' => e = .returned (.int .u32 ((E / 2 ^ t % 2 : Nat) : Int)) ∧ Below u.heap.size u u')
    (hSt : ∀ (A C D G : Fin m) (u : World), Calls Try.prog 31 #[ldV p o ux.val, ptV A.val C.val, ptV D.val G.val] u fun e u' => e = .returned (.tuple #[ptV (Ec.dX A C).val (Ec.dZ a A C).val, ptV (Ec.sX A C D G).val (Ec.sZ ux A C D G).val]) ∧ Below u.heap.size u u')
    (hAf : ∀ (X Z : Fin m) (u : World), Calls Try.prog 32 #[ldV p o ux.val, ptV X.val Z.val] u fun e u' => e = .returned (nmV (X * Ec.iv Z).val) ∧ Below u.heap.size u u') :
    Calls Try.prog 14 #[ldV p o ux.val, scV F] w fun e u => e = .returned (nmV R) ∧ Below w.heap.size w u := by
  have HBi := Lib.hid hBi
  have HSi := Lib.hid hSt
  have HAi := Lib.hid hAf
  have hRi := Lib.hid hR
  have h0v : Hid (fdA 1 0 = fdA (1 : Fin m).val (0 : Fin m).val) := by show _ = _; rw [h0, h1]
  have h1v : Hid (fdA ux.val 1 = fdA ux.val (1 : Fin m).val) := by show _ = _; rw [h1]
  clear hBi hSt hAf hR h0 h1
  go_enter Try.func14, Try.ntmps14
  go_upto_region 0 with (fail)
  apply wp_region_lit
  refine wpList_box_to rfl 42 _ rfl (ldA p o ux.val) (by kernel_rfl) w.heap.size rfl ?_
  refine wpList_box_to rfl 47 _ rfl (scA F) (by kernel_rfl) (w.heap.size + 1) (by simp) ?_
  refine wpList_alloc_to rfl 38 rfl (nmA (lb 0)) (w.heap.size + 2) (by simp) alloc_n ?_
  simp only [Act.put, List.setIfInBounds_toArray, List.set_cons_zero, List.set_cons_succ]
  have HM : Hid (Env w (((w.alloc (.cells (ldA p o ux.val) 42)).alloc (.cells (scA F) 47)).alloc (.cells (nmA (lb 0)) 38)) (w.heap.size + 3) [((w.heap.size + 2), (38, nmA (lb 0))), ((w.heap.size + 1), (47, scA F)), (w.heap.size, (42, ldA p o ux.val))]) := ((((Env.start w).new rfl 42 (ldA p o ux.val)).new (by simp) 47 (scA F)).new (by simp) 38 (nmA (lb 0)))
  generalize (((w.alloc (.cells (ldA p o ux.val) 42)).alloc (.cells (scA F) 47)).alloc (.cells (nmA (lb 0)) 38)) = w1 at HM ⊢
  go_upto_region 1 with (fail)
  apply wp_region_lit
  refine wpList_build_to rfl 38 _ rfl (nmA (lb 1)) (by kernel_rfl) ?_
  simp only [Act.put, List.setIfInBounds_toArray, List.set_cons_zero, List.set_cons_succ]
  refine wpList_alloc_to rfl 38 rfl (nmA (lb 0)) w1.heap.size rfl alloc_n ?_
  simp only [Act.put, List.setIfInBounds_toArray, List.set_cons_zero, List.set_cons_succ]
  refine wpList_store_row rfl 38 _ _ rfl w1.heap.size (nmA (lb 1)) (by kernel_rfl) (by kernel_rfl) 38 _ (heap_alloc_last _ _) (by kernel_rfl) (by first | rw [nmA_size, nmA_size] | rfl) (nmA_one _) ?_
  rw [World.setRow_alloc_new]
  simp only [Act.put]
  have HM := Lib.hid ((HM.out.alloc (.cells (nmA (lb 1)) 38)).cons (HM.out.size) (Cell.new 38 w1 (nmA (lb 1))))
  generalize w1.alloc (.cells (nmA (lb 1)) 38) = w2 at HM ⊢
  generalize w1.heap.size = q5 at HM ⊢
  generalize q5 + 1 = n1 at HM
  go_upto_region 2 with (fail)
  have hSd := HM.out.drew
  clear HM
  refine wp_region_held (S := fun u => Env w u n1 [(q5, (38, nmA (lb 1))), ((w.heap.size + 2), (38, nmA (lb 0))), ((w.heap.size + 1), (47, scA F)), (w.heap.size, (42, ldA p o ux.val))]) (by kernel_rfl) ?_
  change wpAnyH _ _ _ _ _ _ _ _ w2.drew
  have HSx := Lib.hid hSd
  clear hSd
  generalize w2.drew = wd at HSx ⊢
  refine takeH (i := 0) (some 12) (.agg (nmA (lb 1))) rfl rfl rfl (by kernel_rfl) (by kernel_rfl) (by kernel_rfl) (fun _ _ _ h => h) (load_row 38 _ rfl q5 (by kernel_rfl) 38 (nmA (lb 1)) (0, 0) _ Try.underlying38 rfl (by kernel_rfl) (fun w h => h.get 0 rfl)) HSx.out ?_
  simp only [Act.put, List.setIfInBounds_toArray, List.set_cons_zero, List.set_cons_succ]
  refine takeH (i := 1) (some 13) (.agg (fdA 1 0)) rfl rfl rfl (by kernel_rfl) (by kernel_rfl) (by kernel_rfl) (fun _ _ _ h => h) (fun w _ => by kernel_rfl) HSx.out ?_
  simp only [Act.put, List.setIfInBounds_toArray, List.set_cons_zero, List.set_cons_succ]
  refine takeH (i := 2) (some 14) (.pointer (some ⟨w.heap.size, 16, none⟩)) rfl rfl rfl (by kernel_rfl) (by kernel_rfl) (by kernel_rfl) (fun _ _ _ h => h) (fun w _ => by go_simp) HSx.out ?_
  simp only [Act.put, List.setIfInBounds_toArray, List.set_cons_zero, List.set_cons_succ]
  refine takeH (i := 3) (some 15) (.agg (nmA (lb ux.val))) rfl rfl rfl (by kernel_rfl) (by kernel_rfl) (by kernel_rfl) (fun _ _ _ h => h) (load_mid 38 _ rfl w.heap.size 16 (by kernel_rfl) (nmA (lb ux.val)) _ Try.underlying38 rfl (by kernel_rfl) (fun w h => ld_u (h.get 3 rfl))) HSx.out ?_
  simp only [Act.put, List.setIfInBounds_toArray, List.set_cons_zero, List.set_cons_succ]
  refine takeH (i := 4) (some 16) (.agg (nmA (lb 1))) rfl rfl rfl (by kernel_rfl) (by kernel_rfl) (by kernel_rfl) (fun _ _ _ h => h) (load_row 38 _ rfl q5 (by kernel_rfl) 38 (nmA (lb 1)) (0, 0) _ Try.underlying38 rfl (by kernel_rfl) (fun w h => h.get 0 rfl)) HSx.out ?_
  simp only [Act.put, List.setIfInBounds_toArray, List.set_cons_zero, List.set_cons_succ]
  refine takeH (i := 5) (some 17) (.agg (fdA ux.val 1)) rfl rfl rfl (by kernel_rfl) (by kernel_rfl) (by kernel_rfl) (fun _ _ _ h => h) (fun w _ => by kernel_rfl) HSx.out ?_
  simp only [Act.put, List.setIfInBounds_toArray, List.set_cons_zero, List.set_cons_succ]
  refine meetH (fun (x : Nat × Nat) a => ((a.put (some 6) (.pointer (some ⟨x.1, 0, none⟩))).put (some 7) (.pointer (some ⟨x.2, 0, none⟩)))) #[true, true, true, true, true, true, true, true, false, false] 2 (fun (x : Nat × Nat) W => (Env w W n1 [(q5, (38, nmA (lb 1))), ((w.heap.size + 2), (38, nmA (lb 0))), ((w.heap.size + 1), (47, scA F)), (w.heap.size, (42, ldA p o ux.val))]) ∧ (n1 ≤ x.1 ∧ Cell W x.1 (62, fdA 0 0)) ∧ (n1 ≤ x.2 ∧ Cell W x.2 (62, fdA 0 0)) ∧ (¬ x.1 = x.2)) ?_ (fun key0_010 => ?_)
  · rintro ⟨q6, q7⟩ W ⟨hS, ⟨hn0, hc0⟩, ⟨hn1, hc1⟩, hd01⟩
    simp only [Act.put, List.setIfInBounds_toArray, List.set_cons_zero, List.set_cons_succ]
    have HE := Lib.hid hS
    have C0 := Lib.hid hc0
    have C1 := Lib.hid hc1
    refine wpAnyH_ready (rs := [8]) (by kernel_rfl) (by simp) ?_
    refine storeH rfl rfl rfl 62 _ _ rfl q6 (fdA 1 0) (by kernel_rfl) (by kernel_rfl) 62 _ C0.out (by kernel_rfl) (by first | rw [nmA_size, nmA_size] | rfl) (fdA_one _ _) (HE.out.far _ hn0) ?_ AllReadyH.nil
    have HE := Lib.hid (HE.out.far (fdA 1 0) hn0)
    have C0 := Lib.hid (C0.out.put (fdA 1 0))
    have C1 := Lib.hid (C1.out.far (fdA 1 0) (fun e => hd01 e.symm))
    generalize W.setRow q6 (fdA 1 0) = ws0 at HE C0 C1 ⊢
    simp only [Act.put, List.setIfInBounds_toArray, List.set_cons_zero, List.set_cons_succ]
    refine wpAnyH_ready (rs := [9]) (by kernel_rfl) (by simp) ?_
    refine storeH rfl rfl rfl 62 _ _ rfl q7 (fdA ux.val 1) (by kernel_rfl) (by kernel_rfl) 62 _ C1.out (by kernel_rfl) (by first | rw [nmA_size, nmA_size] | rfl) (fdA_one _ _) (HE.out.far _ hn1) ?_ AllReadyH.nil
    have HE := Lib.hid (HE.out.far (fdA ux.val 1) hn1)
    have C0 := Lib.hid (C0.out.far (fdA ux.val 1) hd01)
    have C1 := Lib.hid (C1.out.put (fdA ux.val 1))
    generalize ws0.setRow q7 (fdA ux.val 1) = ws1 at HE C0 C1 ⊢
    simp only [Act.put, List.setIfInBounds_toArray, List.set_cons_zero, List.set_cons_succ]
    refine wpAnyH_done (by kernel_rfl) ?_ _
    have HM := Lib.hid ((((HE.out).add (Nat.le_trans HE.out.base hn1) (HE.out.old hn1) C1.out)).add (Nat.le_trans HE.out.base hn0) (new_cons (HE.out.old hn0) hd01) C0.out)
    clear HE C0 hn0 hc0 C1 hn1 hc1 hd01
    generalize ws1.heap.size = n2 at HM
    generalize ws1 = wz at HM ⊢
    generalize ldV p o ux.val = Lv0
    generalize scV F = Fv0
    go_wp2_with (fail)
    go_loopw [8, 9] (fun bw tv wx => ∃ (j b : Nat) (A2 C2 A3 C3 : Fin m), Hid (j ≤ 255) ∧ Hid (b < 2) ∧ tv = .int .i64 (254 - (j : Int)) ∧ bw = .int .u32 (b : Nat) ∧ Hid (Ec.lad a ux E j = if b = 0 then ⟨A2, C2, A3, C3⟩ else ⟨A3, C3, A2, C2⟩) ∧ Hid (Env w wx n2 [(q6, (62, fdA A2.val C2.val)), (q7, (62, fdA A3.val C3.val)), (q5, (38, nmA (lb 1))), ((w.heap.size + 2), (38, nmA (lb 0))), ((w.heap.size + 1), (47, scA F)), (w.heap.size, (42, ldA p o ux.val))])) (fun _ tv _ => (intOf tv + 1).toNat)
    case atStart =>
      have HM := HM.out
      rw [h0v.out, h1v.out] at HM
      exact ⟨0, 0, 1, 0, ux, 1, Nat.zero_le _, (by decide : 0 < 2), rfl, rfl, (if_pos rfl).symm, HM⟩
    case round =>
      clear HM
      obtain ⟨j, b, A2, C2, A3, C3, hj, hb2, rfl, rfl, HSs, HM⟩ := hrel
      by_cases hlt : j < 255
      · obtain ⟨t, ht⟩ : ∃ t, 254 - j = t := ⟨_, rfl⟩
        rw [show (254 : Int) - (j : Int) = (t : Int) by omega]
        have HJ : Hid (j + 1 ≤ 255) := hlt
        have HTn : Hid (Value.int IntKind.i64 ((t : Int) - 1) = .int .i64 (254 - ((j + 1 : Nat) : Int))) := congrArg (Value.int IntKind.i64) (by omega)
        have HMs : Hid ((intOf (Value.int IntKind.i64 ((t : Int) - 1)) + 1).toNat < (intOf (Value.int IntKind.i64 (t : Int)) + 1).toNat) := by show ((t : Int) - 1 + 1).toNat < ((t : Int) + 1).toNat; omega
        have t0 : ((0 : Int) ≤ (t : Int)) = True := eq_true (by omega)
        have t0' : (0 : Int) ≤ (t : Int) := by omega
        have t254 : (t : Int) ≤ 254 := by omega
        have HBt := Lib.hid (HBi.out t (by omega))
        obtain ⟨c, hc⟩ : ∃ c, E / 2 ^ t % 2 = c := ⟨_, rfl⟩
        rw [hc] at HBt
        have HCb : Hid (c < 2) := by show c < 2; omega
        obtain ⟨d, hd2, e1, hpick⟩ := pick_xor hb2.out HCb.out
        have HD2 := Lib.hid hd2
        obtain ⟨L2, M2, L3, M3, hp0, hp1, hl⟩ := hpick (Ec.lad a ux E j) A2 C2 A3 C3 HSs.out
        have hp0 := Lib.hid hp0
        have hp1 := Lib.hid hp1
        have HL1 : Ec.lad a ux E (j + 1) = Ec.step a ux c (Ec.lad a ux E j) := by
          show Ec.step a ux (E / 2 ^ (254 - j) % 2) _ = _
          rw [ht, hc]
        rw [hl, step_turn] at HL1
        have HSt := HSi.out L2 M2 L3 M3
        obtain ⟨X2, hX2⟩ : ∃ X, Ec.dX L2 M2 = X := ⟨_, rfl⟩
        obtain ⟨Z2, hZ2⟩ : ∃ X, Ec.dZ a L2 M2 = X := ⟨_, rfl⟩
        obtain ⟨X3, hX3⟩ : ∃ X, Ec.sX L2 M2 L3 M3 = X := ⟨_, rfl⟩
        obtain ⟨Z3, hZ3⟩ : ∃ X, Ec.sZ ux L2 M2 L3 M3 = X := ⟨_, rfl⟩
        rw [hX2, hZ2, hX3, hZ3] at HL1 HSt
        have HSt := Lib.hid HSt
        have HLn := Lib.hid HL1
        clear hlt ht hc hd2 hl HL1 HSs hX2 hZ2 hX3 hZ3 hpick
        go_upto_region 7 with (fail)
        apply wp_region_lit
        refine wpList_load_row rfl 47 _ rfl (w.heap.size + 1) (by kernel_rfl) 47 (scA F) (0, 0) _ (HM.out.get 4 rfl) Try.underlying47 rfl (by kernel_rfl) ?_
        simp only [Act.put, List.setIfInBounds_toArray, List.set_cons_zero, List.set_cons_succ]
        refine Lw.wpList_val rfl (.int .i64 (t : Nat)) wr (by go_simp) ?_
        simp only [Act.put, List.setIfInBounds_toArray, List.set_cons_zero, List.set_cons_succ]
        refine Lw.wpList_callTo (some 24) rfl rfl 29 _ _ rfl (fun _ _ => by go_simp) #[scV F, .int .i64 (t : Nat)] (by kernel_rfl) ?_
        refine (HBt.out wr).mono ?_
        rintro e u1 ⟨rfl, hb⟩
        refine ⟨_, rfl, ?_⟩
        have HM := Lib.hid (HM.out.on hb)
        clear hb
        simp only [Act.put, List.setIfInBounds_toArray, List.set_cons_zero, List.set_cons_succ]
        refine Lw.wpList_val rfl (.int .u32 (c : Nat)) u1 (by go_simp) ?_
        simp only [Act.put, List.setIfInBounds_toArray, List.set_cons_zero, List.set_cons_succ]
        clear t0 t0'
        go_upto_region 8 with (fail)
        apply wp_region_lit
        refine Lw.wpList_val rfl (.int .u32 (b : Nat)) u1 (by go_simp) ?_
        simp only [Act.put, List.setIfInBounds_toArray, List.set_cons_zero, List.set_cons_succ]
        refine Lw.wpList_val rfl (.int .u32 (c : Nat)) u1 (by go_simp) ?_
        simp only [Act.put, List.setIfInBounds_toArray, List.set_cons_zero, List.set_cons_succ]
        refine Lw.wpList_val rfl (.int .u32 (d : Nat)) u1 (by simp only [← e1]; go_simp) ?_
        simp only [Act.put, List.setIfInBounds_toArray, List.set_cons_zero, List.set_cons_succ]
        refine Lw.wpList_callTo (some 28) rfl rfl 30 _ _ rfl (fun _ _ => by go_simp) #[.int .u32 (d : Nat), .pointer (some ⟨q6, 0, none⟩), .pointer (some ⟨q7, 0, none⟩)] (by kernel_rfl) ?_
        refine (swap_any d q6 q7 A2.val C2.val A3.val C3.val u1 HD2.out (HM.out.ne 0 1 rfl rfl (by decide)) (HM.out.have_ 0 _ _ rfl).2.2 (HM.out.have_ 1 _ _ rfl).2.2).mono ?_
        rintro e u2 ⟨rfl, ⟨h1, h2, h3, h4, h5⟩, hc0, hc1⟩
        refine ⟨_, rfl, ?_⟩
        rw [hp0.out] at hc0
        rw [hp1.out] at hc1
        have HM := Lib.hid (HM.out.both h1 h2 h3 h4 h5 hc0 hc1)
        clear h1 h2 h3 h4 h5 hc0 hc1
        simp only [Act.put, List.setIfInBounds_toArray, List.set_cons_zero, List.set_cons_succ]
        clear hp0 hp1 e1
        go_upto_region 9 with (fail)
        apply wp_region_lit
        refine wpList_load_row rfl 42 _ rfl w.heap.size (by kernel_rfl) 42 (ldA p o ux.val) (0, 0) _ (HM.out.get 5 rfl) Try.underlying42 rfl (by kernel_rfl) ?_
        simp only [Act.put, List.setIfInBounds_toArray, List.set_cons_zero, List.set_cons_succ]
        refine wpList_load_row rfl 62 _ rfl q6 (by kernel_rfl) 62 (fdA L2.val M2.val) (0, 0) _ (HM.out.get 0 rfl) Try.underlying62 rfl (by kernel_rfl) ?_
        simp only [Act.put, List.setIfInBounds_toArray, List.set_cons_zero, List.set_cons_succ]
        refine wpList_load_row rfl 62 _ rfl q7 (by kernel_rfl) 62 (fdA L3.val M3.val) (0, 0) _ (HM.out.get 1 rfl) Try.underlying62 rfl (by kernel_rfl) ?_
        simp only [Act.put, List.setIfInBounds_toArray, List.set_cons_zero, List.set_cons_succ]
        refine Lw.wpList_callTo (some 33) rfl rfl 31 _ _ rfl (fun _ _ => by go_simp) #[ldV p o ux.val, ptV L2.val M2.val, ptV L3.val M3.val] (by kernel_rfl) ?_
        refine (HSt.out u2).mono ?_
        rintro e u3 ⟨rfl, hb⟩
        refine ⟨_, rfl, ?_⟩
        have HM := Lib.hid (HM.out.on hb)
        clear hb
        simp only [Act.put, List.setIfInBounds_toArray, List.set_cons_zero, List.set_cons_succ]
        refine Lw.wpList_val rfl (.tuple #[ptV X2.val Z2.val, ptV X3.val Z3.val]) u3 (by go_simp) ?_
        simp only [Act.put, List.setIfInBounds_toArray, List.set_cons_zero, List.set_cons_succ]
        refine Lw.wpList_val rfl (ptV X2.val Z2.val) u3 (by go_simp) ?_
        simp only [Act.put, List.setIfInBounds_toArray, List.set_cons_zero, List.set_cons_succ]
        refine Lw.wpList_val rfl (ptV X3.val Z3.val) u3 (by go_simp) ?_
        simp only [Act.put, List.setIfInBounds_toArray, List.set_cons_zero, List.set_cons_succ]
        have hput : Env w (u3.setRow q6 (fdA X2.val Z2.val)) n2 [(q6, (62, fdA X2.val Z2.val)), (q7, (62, fdA L3.val M3.val)), (q5, (38, nmA (lb 1))), ((w.heap.size + 2), (38, nmA (lb 0))), ((w.heap.size + 1), (47, scA F)), (w.heap.size, (42, ldA p o ux.val))] := HM.out.put 0 (A := fdA L2.val M2.val) rfl (fdA X2.val Z2.val)
        refine wpList_store_row rfl 62 _ _ rfl q6 (fdA X2.val Z2.val) (by kernel_rfl) (by kernel_rfl) 62 _ (HM.out.get 0 rfl) (by kernel_rfl) (by first | rw [nmA_size, nmA_size] | rfl) (fdA_one _ _) ?_
        have HM := Lib.hid hput
        clear hput
        generalize u3.setRow q6 (fdA X2.val Z2.val) = w4 at HM ⊢
        simp only [Act.put]
        have hput : Env w (w4.setRow q7 (fdA X3.val Z3.val)) n2 [(q6, (62, fdA X2.val Z2.val)), (q7, (62, fdA X3.val Z3.val)), (q5, (38, nmA (lb 1))), ((w.heap.size + 2), (38, nmA (lb 0))), ((w.heap.size + 1), (47, scA F)), (w.heap.size, (42, ldA p o ux.val))] := HM.out.put 1 (A := fdA L3.val M3.val) rfl (fdA X3.val Z3.val)
        refine wpList_store_row rfl 62 _ _ rfl q7 (fdA X3.val Z3.val) (by kernel_rfl) (by kernel_rfl) 62 _ (HM.out.get 1 rfl) (by kernel_rfl) (by first | rw [nmA_size, nmA_size] | rfl) (fdA_one _ _) ?_
        have HM := Lib.hid hput
        clear hput
        generalize w4.setRow q7 (fdA X3.val Z3.val) = w5 at HM ⊢
        simp only [Act.put]
        generalize ptV X2.val Z2.val = Pv1
        generalize ptV X3.val Z3.val = Pv2
        clear HSt HBt
        go_wp2_with (fail)
        exact ⟨⟨j + 1, c, X2, Z2, X3, Z3, HJ.out, HCb.out, HTn.out, rfl, HLn.out, HM⟩, HMs.out⟩
      · obtain rfl : j = 255 := by have := hj.out; omega
        have t0 : ((0 : Int) ≤ 254 - ((255 : Nat) : Int)) = False := eq_false (by omega)
        have t0' : ¬ (0 : Int) ≤ 254 - ((255 : Nat) : Int) := by omega
        obtain ⟨I, hI⟩ : ∃ I : Int, 254 - ((255 : Nat) : Int) = I := ⟨_, rfl⟩
        rw [hI] at t0 t0' ⊢
        obtain ⟨L2, M2, L3, M3, hp0, hp1, hl⟩ := pick_last hb2.out (Ec.lad a ux E 255) A2 C2 A3 C3 HSs.out
        have HAl := HAi.out L2 M2
        have hR := hRi.out
        unfold Ec.ladU at hR
        rw [hl] at hR
        have hR : (L2 * Ec.iv M2).val = R := hR
        rw [hR] at HAl
        have HAl := Lib.hid HAl
        have hp0 := Lib.hid hp0
        have hp1 := Lib.hid hp1
        have HD2 := hb2
        clear hlt hj hI hl HSs hR
        go_upto_region 11 with (fail)
        apply wp_region_lit
        refine Lw.wpList_val rfl (.int .u32 (b : Nat)) wr (by go_simp) ?_
        simp only [Act.put, List.setIfInBounds_toArray, List.set_cons_zero, List.set_cons_succ]
        refine Lw.wpList_callTo (some 38) rfl rfl 30 _ _ rfl (fun _ _ => by go_simp) #[.int .u32 (b : Nat), .pointer (some ⟨q6, 0, none⟩), .pointer (some ⟨q7, 0, none⟩)] (by kernel_rfl) ?_
        refine (swap_any b q6 q7 A2.val C2.val A3.val C3.val wr HD2.out (HM.out.ne 0 1 rfl rfl (by decide)) (HM.out.have_ 0 _ _ rfl).2.2 (HM.out.have_ 1 _ _ rfl).2.2).mono ?_
        rintro e u1 ⟨rfl, ⟨h1, h2, h3, h4, h5⟩, hc0, hc1⟩
        refine ⟨_, rfl, ?_⟩
        rw [hp0.out] at hc0
        rw [hp1.out] at hc1
        have HM := Lib.hid (HM.out.both h1 h2 h3 h4 h5 hc0 hc1)
        clear h1 h2 h3 h4 h5 hc0 hc1
        simp only [Act.put, List.setIfInBounds_toArray, List.set_cons_zero, List.set_cons_succ]
        clear hp0 hp1
        go_upto_region 12 with (fail)
        apply wp_region_lit
        refine wpList_load_row rfl 42 _ rfl w.heap.size (by kernel_rfl) 42 (ldA p o ux.val) (0, 0) _ (HM.out.get 5 rfl) Try.underlying42 rfl (by kernel_rfl) ?_
        simp only [Act.put, List.setIfInBounds_toArray, List.set_cons_zero, List.set_cons_succ]
        refine wpList_load_row rfl 62 _ rfl q6 (by kernel_rfl) 62 (fdA L2.val M2.val) (0, 0) _ (HM.out.get 0 rfl) Try.underlying62 rfl (by kernel_rfl) ?_
        simp only [Act.put, List.setIfInBounds_toArray, List.set_cons_zero, List.set_cons_succ]
        refine Lw.wpList_callTo (some 41) rfl rfl 32 _ _ rfl (fun _ _ => by go_simp) #[ldV p o ux.val, ptV L2.val M2.val] (by kernel_rfl) ?_
        refine (HAl.out u1).mono ?_
        rintro e u2 ⟨rfl, hb⟩
        refine ⟨_, rfl, ?_⟩
        have HM := Lib.hid (HM.out.on hb)
        clear hb
        simp only [Act.put, List.setIfInBounds_toArray, List.set_cons_zero, List.set_cons_succ]
        have hput : Env w (u2.setRow (w.heap.size + 2) (nmA (lb R))) n2 [(q6, (62, fdA L2.val M2.val)), (q7, (62, fdA L3.val M3.val)), (q5, (38, nmA (lb 1))), ((w.heap.size + 2), (38, nmA (lb R))), ((w.heap.size + 1), (47, scA F)), (w.heap.size, (42, ldA p o ux.val))] := HM.out.put 3 (A := nmA (lb 0)) rfl (nmA (lb R))
        refine wpList_store_row rfl 38 _ _ rfl (w.heap.size + 2) (nmA (lb R)) (by kernel_rfl) (by kernel_rfl) 38 _ (HM.out.get 3 rfl) (by kernel_rfl) (by first | rw [nmA_size, nmA_size] | rfl) (nmA_one _) ?_
        have HM := Lib.hid hput
        clear hput
        generalize u2.setRow (w.heap.size + 2) (nmA (lb R)) = w3 at HM ⊢
        simp only [Act.put]
        obtain ⟨A, hA⟩ : ∃ A, nmA (lb R) = A := ⟨_, rfl⟩
        have HN := Lib.hid (HM.out.get 3 (g := (w.heap.size + 2)) (t := 38) (A := nmA (lb R)) rfl)
        rw [hA] at HN
        go_wp2_with (fail)
        refine bodyPost_ret (v := .agg A) ?_ rfl ?_
        · exact results_cell_row (fn := Try.f14) Try.results14 _ _ (w.heap.size + 2) 38 _ (0, 0) _ rfl HN.out Try.underlying38 rfl (by rw [← hA]; kernel_rfl)
        · exact ⟨by rw [← hA]; rfl, HM.out.below⟩
  simp only [Act.put, List.setIfInBounds_toArray, List.set_cons_zero, List.set_cons_succ] at key0_010
  have key0_01 := Lib.hid key0_010
  clear key0_010
  refine meetH (fun (x : Nat × Nat) a => (a.put (some 6) (.pointer (some ⟨x.1, 0, none⟩)))) #[true, true, true, true, true, true, true, false, false, false] 3 (fun (x : Nat × Nat) W => (Env w W n1 [(q5, (38, nmA (lb 1))), ((w.heap.size + 2), (38, nmA (lb 0))), ((w.heap.size + 1), (47, scA F)), (w.heap.size, (42, ldA p o ux.val))]) ∧ (n1 ≤ x.1 ∧ Cell W x.1 (62, fdA 0 0))) ?_ (fun key0_00 => ?_)
  · rintro ⟨q6, q7⟩ W ⟨hS, ⟨hn0, hc0⟩⟩
    simp only [Act.put, List.setIfInBounds_toArray, List.set_cons_zero, List.set_cons_succ]
    refine wpAnyH_ready (rs := [7]) (by kernel_rfl) (by simp) ?_
    refine allocH (some 7) rfl rfl rfl 62 rfl (fdA 0 0) alloc_p (hS.alloc _) ?_ AllReadyH.nil
    · simp only [Act.put, List.setIfInBounds_toArray, List.set_cons_zero, List.set_cons_succ]
      exact key0_01.out (q6, W.heap.size) _ ⟨hS.alloc _, ⟨hn0, hc0.alloc _⟩, ⟨hS.size, Cell.new _ _ _⟩, (fun (e : q6 = W.heap.size) => by have h : q6 < W.heap.size := hc0.lt; omega)⟩
  simp only [Act.put, List.setIfInBounds_toArray, List.set_cons_zero, List.set_cons_succ] at key0_00
  have key0_0 := Lib.hid key0_00
  clear key0_00
  refine meetH (fun (x : Nat × Nat) a => (a.put (some 7) (.pointer (some ⟨x.2, 0, none⟩)))) #[true, true, true, true, true, true, false, true, false, false] 3 (fun (x : Nat × Nat) W => (Env w W n1 [(q5, (38, nmA (lb 1))), ((w.heap.size + 2), (38, nmA (lb 0))), ((w.heap.size + 1), (47, scA F)), (w.heap.size, (42, ldA p o ux.val))]) ∧ (n1 ≤ x.2 ∧ Cell W x.2 (62, fdA 0 0))) ?_ (fun key0_10 => ?_)
  · rintro ⟨q6, q7⟩ W ⟨hS, ⟨hn1, hc1⟩⟩
    simp only [Act.put, List.setIfInBounds_toArray, List.set_cons_zero, List.set_cons_succ]
    refine wpAnyH_ready (rs := [6]) (by kernel_rfl) (by simp) ?_
    refine allocH (some 6) rfl rfl rfl 62 rfl (fdA 0 0) alloc_p (hS.alloc _) ?_ AllReadyH.nil
    · simp only [Act.put, List.setIfInBounds_toArray, List.set_cons_zero, List.set_cons_succ]
      exact key0_01.out (W.heap.size, q7) _ ⟨hS.alloc _, ⟨hS.size, Cell.new _ _ _⟩, ⟨hn1, hc1.alloc _⟩, (fun (e : W.heap.size = q7) => by have h : q7 < W.heap.size := hc1.lt; omega)⟩
  simp only [Act.put, List.setIfInBounds_toArray, List.set_cons_zero, List.set_cons_succ] at key0_10
  have key0_1 := Lib.hid key0_10
  clear key0_10
  refine wpAnyH_ready (rs := [6, 7]) (by kernel_rfl) (by simp) ?_
  refine allocH (some 6) rfl rfl rfl 62 rfl (fdA 0 0) alloc_p (HSx.out.alloc _) ?_ (allocH (some 7) rfl rfl rfl 62 rfl (fdA 0 0) alloc_p (HSx.out.alloc _) ?_ AllReadyH.nil)
  · simp only [Act.put, List.setIfInBounds_toArray, List.set_cons_zero, List.set_cons_succ]
    exact key0_0.out (wd.heap.size, 0) _ ⟨HSx.out.alloc _, ⟨HSx.out.size, Cell.new _ _ _⟩⟩
  · simp only [Act.put, List.setIfInBounds_toArray, List.set_cons_zero, List.set_cons_succ]
    exact key0_1.out (0, wd.heap.size) _ ⟨HSx.out.alloc _, ⟨HSx.out.size, Cell.new _ _ _⟩⟩
end Go.Proofs.Xe
