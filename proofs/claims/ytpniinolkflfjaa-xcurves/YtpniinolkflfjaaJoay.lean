/-
  The document's own answer for layer 9: differences modulo.
-/
import Derived.Test.YtpniinolkflfjaaJoas
import Derived.Test.YtpniinolkflfjaaJoae
namespace Go.Proofs.Nu
open Go.RowKit
open Go.Proofs.Im (wpList_box_to words_heap words_one run_index_row)
open Go.Proofs.Sha (wordCells wordCells_get wordCells_size rowIs_of wpList_alloc_to wpList_build_to)
open Go.Proofs.Nt
open Go.Proofs.He
/-- What stays while a difference is made ready. -/
structure Sb (w w' : World) (x y : Nat) : Prop where
  a : Nm w' w.heap.size x
  b : Nm w' (w.heap.size + 1) y
  r : Nm w' (w.heap.size + 2) 0
  below : Below w.heap.size w w'
theorem Sb.on {w u v : World} {x y : Nat} (h : Sb w u x y) (hb : Below u.heap.size u v) : Sb w v x y := ⟨h.a.on hb, h.b.on hb, h.r.on hb, Lw.go_on h.below hb⟩
theorem Sb.row {w u : World} {x y g : Nat} (h : Sb w u x y) (hg : w.heap.size + 2 < g) (A : Array Value) : Sb w (u.setRow g A) x y :=
  ⟨h.a.ne (by omega) A, h.b.ne (by omega) A, h.r.ne (by omega) A, below_setRow h.below (by omega) _⟩
theorem Sb.alloc {w u : World} {x y : Nat} (h : Sb w u x y) (o : Obj) : Sb w (u.alloc o) x y := h.on ((Below.refl _ _).alloc (Nat.le_refl _) _)
set_option maxHeartbeats 4000000 in
set_option maxRecDepth 20000 in
theorem sub_any (z : Int) (x y : Nat) (w : World) (hx : x < md z) (hy : y < md z) :
    Calls Try.prog 35 #[.int .i64 z, nmV x, nmV y] w fun e w' => e = .returned (nmV ((x + md z - y) % md z)) ∧ Below w.heap.size w w' := by
  have hm := md_lt z
  have HMo := Lib.hid (fun u => modulus_any z u)
  generalize md z = m at hx hy hm HMo ⊢
  have HLe := Lib.hid (fun u => less_any x y u (by omega) (by omega))
  have HPl := Lib.hid (fun u => plus_any x m u (by omega) hm)
  have hs : (x + m) % B8 < B8 := Nat.mod_lt _ (by decide)
  have HM1 := Lib.hid (fun u => minus_any x y u (by omega) (by omega))
  have HM2 := Lib.hid (fun u => minus_any ((x + m) % B8) y u hs (by omega))
  have HV : Hid (if x < y then ((x + m) % B8 + B8 - y) % B8 = (x + m - y) % m else (x + B8 - y) % B8 = (x + m - y) % m) := by
    show if _ then _ else _
    have hB : 0 < B8 := by decide
    generalize B8 = K at *
    split
    · next h =>
      rw [Nat.mod_eq_of_lt (show x + m - y < m by omega)]
      rcases Nat.lt_or_ge (x + m) K with h2 | h2
      · rw [Nat.mod_eq_of_lt h2, show x + m + K - y = x + m - y + K by omega, Nat.add_mod_right, Nat.mod_eq_of_lt (by omega)]
      · rw [Nat.mod_eq_sub_mod h2, Nat.mod_eq_of_lt (show x + m - K < K by omega), show x + m - K + K - y = x + m - y by omega, Nat.mod_eq_of_lt (by omega)]
    · next h =>
      rw [show x + K - y = x - y + K by omega, Nat.add_mod_right, Nat.mod_eq_of_lt (by omega), show x + m - y = x - y + m by omega, Nat.add_mod_right, Nat.mod_eq_of_lt (by omega)]
  generalize (x + m - y) % m = R at HV ⊢
  generalize (x + m) % B8 = S at HPl HM2 HV
  generalize (x + m) / B8 = C at HPl
  clear hs hx hy hm
  go_enter Try.func35, Try.ntmps35
  go_upto_region 0 with (fail)
  apply wp_region_lit
  refine wpList_box_to rfl 50 _ rfl (nmA (lb x)) (by kernel_rfl) w.heap.size rfl ?_
  refine wpList_box_to rfl 50 _ rfl (nmA (lb y)) (by kernel_rfl) (w.heap.size + 1) (by simp) ?_
  refine wpList_alloc_to rfl 50 rfl (nmA fun _ => 0) (w.heap.size + 2) (by simp) alloc8 ?_
  have HX : Hid (Nm (((w.alloc (.cells (nmA (lb x)) 50)).alloc (.cells (nmA (lb y)) 50)).alloc (.cells (nmA fun _ => 0) 50)) w.heap.size x) := ((Nm.new w x).alloc _).alloc _
  have HY : Hid (Nm (((w.alloc (.cells (nmA (lb x)) 50)).alloc (.cells (nmA (lb y)) 50)).alloc (.cells (nmA fun _ => 0) 50)) (w.heap.size + 1) y) := by
    have h := Nm.new (w.alloc (.cells (nmA (lb x)) 50)) y
    rw [show (w.alloc (.cells (nmA (lb x)) 50)).heap.size = w.heap.size + 1 by simp] at h
    exact h.alloc _
  have HO : Hid (Nm (((w.alloc (.cells (nmA (lb x)) 50)).alloc (.cells (nmA (lb y)) 50)).alloc (.cells (nmA fun _ => 0) 50)) (w.heap.size + 2) 0) := by
    have h := Nm.new0 ((w.alloc (.cells (nmA (lb x)) 50)).alloc (.cells (nmA (lb y)) 50))
    rw [show ((w.alloc (.cells (nmA (lb x)) 50)).alloc (.cells (nmA (lb y)) 50)).heap.size = w.heap.size + 2 by simp] at h
    exact h
  have HB : Hid (Below w.heap.size w (((w.alloc (.cells (nmA (lb x)) 50)).alloc (.cells (nmA (lb y)) 50)).alloc (.cells (nmA fun _ => 0) 50))) := ((((Below.refl _ _).alloc (Nat.le_refl _) _).alloc (by simp) _).alloc (by simp; omega) _)
  generalize ((w.alloc (.cells (nmA (lb x)) 50)).alloc (.cells (nmA (lb y)) 50)).alloc (.cells (nmA fun _ => 0) 50) = w1 at HX HY HO HB ⊢
  go_upto_region 1 with (fail)
  apply wp_region_lit
  refine wpList_load_row rfl 50 _ rfl w.heap.size (by kernel_rfl) 50 (nmA (lb x)) (0, 0) _ HX.out Try.underlying50 rfl (by kernel_rfl) ?_
  refine wpList_load_row rfl 50 _ rfl (w.heap.size + 1) (by kernel_rfl) 50 (nmA (lb y)) (0, 0) _ HY.out Try.underlying50 rfl (by kernel_rfl) ?_
  simp only [Act.put, List.setIfInBounds_toArray, List.set_cons_zero, List.set_cons_succ]
  refine Lw.wpList_callTo (some 11) rfl rfl 21 _ _ rfl (fun _ _ => by go_simp) #[nmV x, nmV y] (by kernel_rfl) ?_
  refine (HLe.out _).mono ?_
  rintro e u1 ⟨rfl, hb⟩
  refine ⟨_, rfl, ?_⟩
  have HX := Lib.hid (HX.out.on hb)
  have HY := Lib.hid (HY.out.on hb)
  have HO := Lib.hid (HO.out.on hb)
  have HB := Lib.hid (Lw.go_on HB.out hb)
  clear hb
  simp only [Act.put, List.setIfInBounds_toArray, List.set_cons_zero, List.set_cons_succ]
  have hv := HV.out
  clear HV
  by_cases hl : x < y
  · rw [decide_eq_true hl]
    rw [if_pos hl] at hv
    clear hl HM1
    go_upto_region 2 with (fail)
    have hS0 : Sb w u1 x y := ⟨HX.out, HY.out, HO.out, HB.out⟩
    have hSd := hS0.on (Below.refl _ _).drew
    clear HX HY HO HB
    refine wp_region_held (S := fun u => Sb w u x y) (by kernel_rfl) ?_
    change wpAnyH _ _ _ _ _ _ _ _ u1.drew
    have HSx := Lib.hid hSd
    clear hS0 hSd
    refine takeH (i := 0) (some 13) (.agg (nmA (lb x))) rfl rfl rfl (by kernel_rfl) (by kernel_rfl) (by kernel_rfl) (fun _ _ _ h => h) (load_row 50 _ rfl w.heap.size (by kernel_rfl) 50 (nmA (lb x)) (0, 0) _ Try.underlying50 rfl (by kernel_rfl) (fun w h => h.a)) HSx.out ?_
    simp only [Act.put, List.setIfInBounds_toArray, List.set_cons_zero, List.set_cons_succ]
    refine takeH (i := 1) (some 14) (.int .i64 z) rfl rfl rfl (by kernel_rfl) (by kernel_rfl) (by kernel_rfl) (fun _ _ _ h => h) (fun w _ => by go_simp) HSx.out ?_
    simp only [Act.put, List.setIfInBounds_toArray, List.set_cons_zero, List.set_cons_succ]
    refine wpAnyH_ready (rs := [2, 7]) (by kernel_rfl) (by simp) ?_
    refine callH (some 15) rfl rfl rfl 22 _ _ rfl (fun _ _ => by go_simp) #[.int .i64 z] (by kernel_rfl) ?_ (allocH (some 7) rfl rfl rfl 50 rfl (nmA fun _ => 0) alloc8 (HSx.out.alloc _) ?_ AllReadyH.nil)
    · refine (HMo.out _).mono ?_
      rintro e u2 ⟨rfl, hb⟩
      refine ⟨_, rfl, HSx.out.on hb, ?_⟩
      have HSx := Lib.hid (HSx.out.on hb)
      simp only [Act.put, List.setIfInBounds_toArray, List.set_cons_zero, List.set_cons_succ]
      refine wpAnyH_ready (rs := [3, 7]) (by kernel_rfl) (by simp) ?_
      refine callH (some 16) rfl rfl rfl 47 _ _ rfl (fun _ _ => by go_simp) #[nmV x, nmV m] (by kernel_rfl) ?_ (allocH (some 7) rfl rfl rfl 50 rfl (nmA fun _ => 0) alloc8 (HSx.out.alloc _) ?_ AllReadyH.nil)
      · refine (HPl.out _).mono ?_
        rintro e u3 ⟨rfl, hb⟩
        refine ⟨_, rfl, HSx.out.on hb, ?_⟩
        have HSx := Lib.hid (HSx.out.on hb)
        simp only [Act.put, List.setIfInBounds_toArray, List.set_cons_zero, List.set_cons_succ]
        refine takeH (i := 4) (some 12) (.tuple #[nmV S, .int .u64 (C : Nat)]) rfl rfl rfl (by kernel_rfl) (by kernel_rfl) (by kernel_rfl) (fun _ _ _ h => h) (fun w _ => by go_simp) HSx.out ?_
        simp only [Act.put, List.setIfInBounds_toArray, List.set_cons_zero, List.set_cons_succ]
        refine takeH (i := 5) (some 17) (nmV S) rfl rfl rfl (by kernel_rfl) (by kernel_rfl) (by kernel_rfl) (fun _ _ _ h => h) (fun w _ => by go_simp) HSx.out ?_
        simp only [Act.put, List.setIfInBounds_toArray, List.set_cons_zero, List.set_cons_succ]
        refine takeH (i := 6) (some 18) (.int .u64 (C : Nat)) rfl rfl rfl (by kernel_rfl) (by kernel_rfl) (by kernel_rfl) (fun _ _ _ h => h) (fun w _ => by go_simp) HSx.out ?_
        simp only [Act.put, List.setIfInBounds_toArray, List.set_cons_zero, List.set_cons_succ]
        refine wpAnyH_ready (rs := [7]) (by kernel_rfl) (by simp) ?_
        refine allocH (some 7) rfl rfl rfl 50 rfl (nmA fun _ => 0) alloc8 (HSx.out.alloc _) ?_ AllReadyH.nil
        simp only [Act.put, List.setIfInBounds_toArray, List.set_cons_zero, List.set_cons_succ]
        have HGs : Hid (w.heap.size + 2 < u3.heap.size) := HSx.out.r.lt
        have HNs := Lib.hid (Nm.new0 u3)
        have HSx := Lib.hid (HSx.out.alloc (.cells (nmA fun _ => 0) 50))
        generalize u3.alloc (.cells (nmA fun _ => 0) 50) = wa at HNs HSx ⊢
        generalize u3.heap.size = gs at HNs HGs ⊢
        refine wpAnyH_ready (rs := [8]) (by kernel_rfl) (by simp) ?_
        refine storeH rfl rfl rfl 50 _ _ rfl gs (nmA (lb S)) (by kernel_rfl) (by kernel_rfl) 50 _ HNs.out (by kernel_rfl) (by rw [nmA_size, nmA_size]) (nmA_one _) (HSx.out.row HGs.out _) ?_ AllReadyH.nil
        have HNn := Lib.hid (HNs.out.set S)
        have HSx := Lib.hid (HSx.out.row HGs.out (nmA (lb S)))
        clear HNs
        simp only [Act.put]
        refine takeH (i := 9) (some 8) (.int .u64 (C : Nat)) rfl rfl rfl (by kernel_rfl) (by kernel_rfl) (by kernel_rfl) (fun _ _ _ h => h) (fun w _ => by go_simp) HSx.out ?_
        simp only [Act.put, List.setIfInBounds_toArray, List.set_cons_zero, List.set_cons_succ]
        refine wpAnyH_done (by kernel_rfl) ?_ _
        go_upto_region 3 with (fail)
        apply wp_region_lit
        refine wpList_load_row rfl 50 _ rfl gs (by kernel_rfl) 50 (nmA (lb S)) (0, 0) _ HNn.out Try.underlying50 rfl (by kernel_rfl) ?_
        simp only [Act.put, List.setIfInBounds_toArray, List.set_cons_zero, List.set_cons_succ]
        refine wpList_store_row rfl 50 _ _ rfl w.heap.size (nmA (lb S)) (by kernel_rfl) (by kernel_rfl) 50 _ HSx.out.a (by kernel_rfl) (by rw [nmA_size, nmA_size]) (nmA_one _) ?_
        simp only [Act.put]
        have HX := Lib.hid (HSx.out.a.set S)
        have HY := Lib.hid (HSx.out.b.ne (show w.heap.size + 1 ≠ w.heap.size by omega) (nmA (lb S)))
        have HO := Lib.hid (HSx.out.r.ne (show w.heap.size + 2 ≠ w.heap.size by omega) (nmA (lb S)))
        have HB := Lib.hid (below_setRow HSx.out.below (Nat.le_refl _) (nmA (lb S)))
        clear HSx HNn
        generalize World.setRow _ w.heap.size (nmA (lb S)) = wz at HX HY HO HB ⊢
        go_upto_region 4 with (fail)
        apply wp_region_lit
        refine wpList_load_row rfl 50 _ rfl w.heap.size (by kernel_rfl) 50 (nmA (lb S)) (0, 0) _ HX.out Try.underlying50 rfl (by kernel_rfl) ?_
        refine wpList_load_row rfl 50 _ rfl (w.heap.size + 1) (by kernel_rfl) 50 (nmA (lb y)) (0, 0) _ HY.out Try.underlying50 rfl (by kernel_rfl) ?_
        simp only [Act.put, List.setIfInBounds_toArray, List.set_cons_zero, List.set_cons_succ]
        refine Lw.wpList_callTo (some 22) rfl rfl 23 _ _ rfl (fun _ _ => by go_simp) #[nmV S, nmV y] (by kernel_rfl) ?_
        refine (HM2.out _).mono ?_
        rintro e u9 ⟨rfl, hb⟩
        refine ⟨_, rfl, ?_⟩
        have HO := Lib.hid (HO.out.on hb)
        have HB := Lib.hid (Lw.go_on HB.out hb)
        clear hb
        rw [hv]
        refine wpList_store_row rfl 50 _ _ rfl (w.heap.size + 2) (nmA (lb R)) (by kernel_rfl) (by kernel_rfl) 50 _ HO.out (by kernel_rfl) (by rw [nmA_size, nmA_size]) (nmA_one _) ?_
        simp only [Act.put, List.setIfInBounds_toArray, List.set_cons_zero, List.set_cons_succ]
        go_wp2_with (fail)
        refine bodyPost_ret (v := nmV R) ?_ rfl ?_
        · exact results_cell_row (fn := Try.f35) Try.results35 _ _ (w.heap.size + 2) 50 _ (0, 0) _ rfl (HO.out.set R) Try.underlying50 rfl (by kernel_rfl)
        · exact ⟨rfl, below_setRow HB.out (by omega) _⟩
      · simp only [Act.put, List.setIfInBounds_toArray, List.set_cons_zero, List.set_cons_succ]
        have HGs : Hid (w.heap.size + 2 < u2.heap.size) := HSx.out.r.lt
        have HNs := Lib.hid (Nm.new0 u2)
        have HSx := Lib.hid (HSx.out.alloc (.cells (nmA fun _ => 0) 50))
        generalize u2.alloc (.cells (nmA fun _ => 0) 50) = wa at HNs HSx ⊢
        generalize u2.heap.size = gs at HNs HGs ⊢
        refine wpAnyH_ready (rs := [3]) (by kernel_rfl) (by simp) ?_
        refine callH (some 16) rfl rfl rfl 47 _ _ rfl (fun _ _ => by go_simp) #[nmV x, nmV m] (by kernel_rfl) ?_ AllReadyH.nil
        refine (HPl.out _).mono ?_
        rintro e u3 ⟨rfl, hb⟩
        refine ⟨_, rfl, HSx.out.on hb, ?_⟩
        have HNs := Lib.hid (HNs.out.on hb)
        have HSx := Lib.hid (HSx.out.on hb)
        simp only [Act.put, List.setIfInBounds_toArray, List.set_cons_zero, List.set_cons_succ]
        refine takeH (i := 4) (some 12) (.tuple #[nmV S, .int .u64 (C : Nat)]) rfl rfl rfl (by kernel_rfl) (by kernel_rfl) (by kernel_rfl) (fun _ _ _ h => h) (fun w _ => by go_simp) HSx.out ?_
        simp only [Act.put, List.setIfInBounds_toArray, List.set_cons_zero, List.set_cons_succ]
        refine takeH (i := 5) (some 17) (nmV S) rfl rfl rfl (by kernel_rfl) (by kernel_rfl) (by kernel_rfl) (fun _ _ _ h => h) (fun w _ => by go_simp) HSx.out ?_
        simp only [Act.put, List.setIfInBounds_toArray, List.set_cons_zero, List.set_cons_succ]
        refine takeH (i := 6) (some 18) (.int .u64 (C : Nat)) rfl rfl rfl (by kernel_rfl) (by kernel_rfl) (by kernel_rfl) (fun _ _ _ h => h) (fun w _ => by go_simp) HSx.out ?_
        simp only [Act.put, List.setIfInBounds_toArray, List.set_cons_zero, List.set_cons_succ]
        refine wpAnyH_ready (rs := [8]) (by kernel_rfl) (by simp) ?_
        refine storeH rfl rfl rfl 50 _ _ rfl gs (nmA (lb S)) (by kernel_rfl) (by kernel_rfl) 50 _ HNs.out (by kernel_rfl) (by rw [nmA_size, nmA_size]) (nmA_one _) (HSx.out.row HGs.out _) ?_ AllReadyH.nil
        have HNn := Lib.hid (HNs.out.set S)
        have HSx := Lib.hid (HSx.out.row HGs.out (nmA (lb S)))
        clear HNs
        simp only [Act.put]
        refine takeH (i := 9) (some 8) (.int .u64 (C : Nat)) rfl rfl rfl (by kernel_rfl) (by kernel_rfl) (by kernel_rfl) (fun _ _ _ h => h) (fun w _ => by go_simp) HSx.out ?_
        simp only [Act.put, List.setIfInBounds_toArray, List.set_cons_zero, List.set_cons_succ]
        refine wpAnyH_done (by kernel_rfl) ?_ _
        go_upto_region 3 with (fail)
        apply wp_region_lit
        refine wpList_load_row rfl 50 _ rfl gs (by kernel_rfl) 50 (nmA (lb S)) (0, 0) _ HNn.out Try.underlying50 rfl (by kernel_rfl) ?_
        simp only [Act.put, List.setIfInBounds_toArray, List.set_cons_zero, List.set_cons_succ]
        refine wpList_store_row rfl 50 _ _ rfl w.heap.size (nmA (lb S)) (by kernel_rfl) (by kernel_rfl) 50 _ HSx.out.a (by kernel_rfl) (by rw [nmA_size, nmA_size]) (nmA_one _) ?_
        simp only [Act.put]
        have HX := Lib.hid (HSx.out.a.set S)
        have HY := Lib.hid (HSx.out.b.ne (show w.heap.size + 1 ≠ w.heap.size by omega) (nmA (lb S)))
        have HO := Lib.hid (HSx.out.r.ne (show w.heap.size + 2 ≠ w.heap.size by omega) (nmA (lb S)))
        have HB := Lib.hid (below_setRow HSx.out.below (Nat.le_refl _) (nmA (lb S)))
        clear HSx HNn
        generalize World.setRow _ w.heap.size (nmA (lb S)) = wz at HX HY HO HB ⊢
        go_upto_region 4 with (fail)
        apply wp_region_lit
        refine wpList_load_row rfl 50 _ rfl w.heap.size (by kernel_rfl) 50 (nmA (lb S)) (0, 0) _ HX.out Try.underlying50 rfl (by kernel_rfl) ?_
        refine wpList_load_row rfl 50 _ rfl (w.heap.size + 1) (by kernel_rfl) 50 (nmA (lb y)) (0, 0) _ HY.out Try.underlying50 rfl (by kernel_rfl) ?_
        simp only [Act.put, List.setIfInBounds_toArray, List.set_cons_zero, List.set_cons_succ]
        refine Lw.wpList_callTo (some 22) rfl rfl 23 _ _ rfl (fun _ _ => by go_simp) #[nmV S, nmV y] (by kernel_rfl) ?_
        refine (HM2.out _).mono ?_
        rintro e u9 ⟨rfl, hb⟩
        refine ⟨_, rfl, ?_⟩
        have HO := Lib.hid (HO.out.on hb)
        have HB := Lib.hid (Lw.go_on HB.out hb)
        clear hb
        rw [hv]
        refine wpList_store_row rfl 50 _ _ rfl (w.heap.size + 2) (nmA (lb R)) (by kernel_rfl) (by kernel_rfl) 50 _ HO.out (by kernel_rfl) (by rw [nmA_size, nmA_size]) (nmA_one _) ?_
        simp only [Act.put, List.setIfInBounds_toArray, List.set_cons_zero, List.set_cons_succ]
        go_wp2_with (fail)
        refine bodyPost_ret (v := nmV R) ?_ rfl ?_
        · exact results_cell_row (fn := Try.f35) Try.results35 _ _ (w.heap.size + 2) 50 _ (0, 0) _ rfl (HO.out.set R) Try.underlying50 rfl (by kernel_rfl)
        · exact ⟨rfl, below_setRow HB.out (by omega) _⟩
    · simp only [Act.put, List.setIfInBounds_toArray, List.set_cons_zero, List.set_cons_succ]
      have HGs : Hid (w.heap.size + 2 < u1.drew.heap.size) := HSx.out.r.lt
      have HNs := Lib.hid (Nm.new0 u1.drew)
      have HSx := Lib.hid (HSx.out.alloc (.cells (nmA fun _ => 0) 50))
      generalize u1.drew.alloc (.cells (nmA fun _ => 0) 50) = wa at HNs HSx ⊢
      generalize u1.drew.heap.size = gs at HNs HGs ⊢
      refine wpAnyH_ready (rs := [2]) (by kernel_rfl) (by simp) ?_
      refine callH (some 15) rfl rfl rfl 22 _ _ rfl (fun _ _ => by go_simp) #[.int .i64 z] (by kernel_rfl) ?_ AllReadyH.nil
      refine (HMo.out _).mono ?_
      rintro e u2 ⟨rfl, hb⟩
      refine ⟨_, rfl, HSx.out.on hb, ?_⟩
      have HNs := Lib.hid (HNs.out.on hb)
      have HSx := Lib.hid (HSx.out.on hb)
      simp only [Act.put, List.setIfInBounds_toArray, List.set_cons_zero, List.set_cons_succ]
      refine wpAnyH_ready (rs := [3]) (by kernel_rfl) (by simp) ?_
      refine callH (some 16) rfl rfl rfl 47 _ _ rfl (fun _ _ => by go_simp) #[nmV x, nmV m] (by kernel_rfl) ?_ AllReadyH.nil
      refine (HPl.out _).mono ?_
      rintro e u3 ⟨rfl, hb⟩
      refine ⟨_, rfl, HSx.out.on hb, ?_⟩
      have HNs := Lib.hid (HNs.out.on hb)
      have HSx := Lib.hid (HSx.out.on hb)
      simp only [Act.put, List.setIfInBounds_toArray, List.set_cons_zero, List.set_cons_succ]
      refine takeH (i := 4) (some 12) (.tuple #[nmV S, .int .u64 (C : Nat)]) rfl rfl rfl (by kernel_rfl) (by kernel_rfl) (by kernel_rfl) (fun _ _ _ h => h) (fun w _ => by go_simp) HSx.out ?_
      simp only [Act.put, List.setIfInBounds_toArray, List.set_cons_zero, List.set_cons_succ]
      refine takeH (i := 5) (some 17) (nmV S) rfl rfl rfl (by kernel_rfl) (by kernel_rfl) (by kernel_rfl) (fun _ _ _ h => h) (fun w _ => by go_simp) HSx.out ?_
      simp only [Act.put, List.setIfInBounds_toArray, List.set_cons_zero, List.set_cons_succ]
      refine takeH (i := 6) (some 18) (.int .u64 (C : Nat)) rfl rfl rfl (by kernel_rfl) (by kernel_rfl) (by kernel_rfl) (fun _ _ _ h => h) (fun w _ => by go_simp) HSx.out ?_
      simp only [Act.put, List.setIfInBounds_toArray, List.set_cons_zero, List.set_cons_succ]
      refine wpAnyH_ready (rs := [8]) (by kernel_rfl) (by simp) ?_
      refine storeH rfl rfl rfl 50 _ _ rfl gs (nmA (lb S)) (by kernel_rfl) (by kernel_rfl) 50 _ HNs.out (by kernel_rfl) (by rw [nmA_size, nmA_size]) (nmA_one _) (HSx.out.row HGs.out _) ?_ AllReadyH.nil
      have HNn := Lib.hid (HNs.out.set S)
      have HSx := Lib.hid (HSx.out.row HGs.out (nmA (lb S)))
      clear HNs
      simp only [Act.put]
      refine takeH (i := 9) (some 8) (.int .u64 (C : Nat)) rfl rfl rfl (by kernel_rfl) (by kernel_rfl) (by kernel_rfl) (fun _ _ _ h => h) (fun w _ => by go_simp) HSx.out ?_
      simp only [Act.put, List.setIfInBounds_toArray, List.set_cons_zero, List.set_cons_succ]
      refine wpAnyH_done (by kernel_rfl) ?_ _
      go_upto_region 3 with (fail)
      apply wp_region_lit
      refine wpList_load_row rfl 50 _ rfl gs (by kernel_rfl) 50 (nmA (lb S)) (0, 0) _ HNn.out Try.underlying50 rfl (by kernel_rfl) ?_
      simp only [Act.put, List.setIfInBounds_toArray, List.set_cons_zero, List.set_cons_succ]
      refine wpList_store_row rfl 50 _ _ rfl w.heap.size (nmA (lb S)) (by kernel_rfl) (by kernel_rfl) 50 _ HSx.out.a (by kernel_rfl) (by rw [nmA_size, nmA_size]) (nmA_one _) ?_
      simp only [Act.put]
      have HX := Lib.hid (HSx.out.a.set S)
      have HY := Lib.hid (HSx.out.b.ne (show w.heap.size + 1 ≠ w.heap.size by omega) (nmA (lb S)))
      have HO := Lib.hid (HSx.out.r.ne (show w.heap.size + 2 ≠ w.heap.size by omega) (nmA (lb S)))
      have HB := Lib.hid (below_setRow HSx.out.below (Nat.le_refl _) (nmA (lb S)))
      clear HSx HNn
      generalize World.setRow _ w.heap.size (nmA (lb S)) = wz at HX HY HO HB ⊢
      go_upto_region 4 with (fail)
      apply wp_region_lit
      refine wpList_load_row rfl 50 _ rfl w.heap.size (by kernel_rfl) 50 (nmA (lb S)) (0, 0) _ HX.out Try.underlying50 rfl (by kernel_rfl) ?_
      refine wpList_load_row rfl 50 _ rfl (w.heap.size + 1) (by kernel_rfl) 50 (nmA (lb y)) (0, 0) _ HY.out Try.underlying50 rfl (by kernel_rfl) ?_
      simp only [Act.put, List.setIfInBounds_toArray, List.set_cons_zero, List.set_cons_succ]
      refine Lw.wpList_callTo (some 22) rfl rfl 23 _ _ rfl (fun _ _ => by go_simp) #[nmV S, nmV y] (by kernel_rfl) ?_
      refine (HM2.out _).mono ?_
      rintro e u9 ⟨rfl, hb⟩
      refine ⟨_, rfl, ?_⟩
      have HO := Lib.hid (HO.out.on hb)
      have HB := Lib.hid (Lw.go_on HB.out hb)
      clear hb
      rw [hv]
      refine wpList_store_row rfl 50 _ _ rfl (w.heap.size + 2) (nmA (lb R)) (by kernel_rfl) (by kernel_rfl) 50 _ HO.out (by kernel_rfl) (by rw [nmA_size, nmA_size]) (nmA_one _) ?_
      simp only [Act.put, List.setIfInBounds_toArray, List.set_cons_zero, List.set_cons_succ]
      go_wp2_with (fail)
      refine bodyPost_ret (v := nmV R) ?_ rfl ?_
      · exact results_cell_row (fn := Try.f35) Try.results35 _ _ (w.heap.size + 2) 50 _ (0, 0) _ rfl (HO.out.set R) Try.underlying50 rfl (by kernel_rfl)
      · exact ⟨rfl, below_setRow HB.out (by omega) _⟩
  · rw [decide_eq_false hl]
    rw [if_neg hl] at hv
    clear hl HM2
    go_upto_region 4 with (fail)
    apply wp_region_lit
    refine wpList_load_row rfl 50 _ rfl w.heap.size (by kernel_rfl) 50 (nmA (lb x)) (0, 0) _ HX.out Try.underlying50 rfl (by kernel_rfl) ?_
    refine wpList_load_row rfl 50 _ rfl (w.heap.size + 1) (by kernel_rfl) 50 (nmA (lb y)) (0, 0) _ HY.out Try.underlying50 rfl (by kernel_rfl) ?_
    simp only [Act.put, List.setIfInBounds_toArray, List.set_cons_zero, List.set_cons_succ]
    refine Lw.wpList_callTo (some 22) rfl rfl 23 _ _ rfl (fun _ _ => by go_simp) #[nmV x, nmV y] (by kernel_rfl) ?_
    refine (HM1.out _).mono ?_
    rintro e u9 ⟨rfl, hb⟩
    refine ⟨_, rfl, ?_⟩
    have HO := Lib.hid (HO.out.on hb)
    have HB := Lib.hid (Lw.go_on HB.out hb)
    clear hb
    rw [hv]
    refine wpList_store_row rfl 50 _ _ rfl (w.heap.size + 2) (nmA (lb R)) (by kernel_rfl) (by kernel_rfl) 50 _ HO.out (by kernel_rfl) (by rw [nmA_size, nmA_size]) (nmA_one _) ?_
    simp only [Act.put, List.setIfInBounds_toArray, List.set_cons_zero, List.set_cons_succ]
    go_wp2_with (fail)
    refine bodyPost_ret (v := nmV R) ?_ rfl ?_
    · exact results_cell_row (fn := Try.f35) Try.results35 _ _ (w.heap.size + 2) 50 _ (0, 0) _ rfl (HO.out.set R) Try.underlying50 rfl (by kernel_rfl)
    · exact ⟨rfl, below_setRow HB.out (by omega) _⟩
end Go.Proofs.Nu
