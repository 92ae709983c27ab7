/-
  The developers' numbers: what the work makes of a number.
-/
import Derived.Test.YtbkfpaodicfmhaaNdR
import Derived.Test.YtbkfpaodicfmhaaNdC
namespace Go.Proofs.Nd
open Go.RowKit
open Go.Proofs.Im (wpList_box_to words_heap words_one run_index_row)
open Go.Proofs.Sha (wordCells wordCells_get wordCells_size rowIs_of wpList_alloc_to wpList_build_to)
open Go.Proofs.Nt
open Go.Proofs.Nu (nmL nmA nmV lt8 nmA_get nmA_congr nmA_one nmA_size results_row_slot B8 b8 nv8 nmA_lb nv_lt8 md mP mN mX md_lt wpList_on wpList_off)
set_option maxHeartbeats 4000000 in
set_option maxRecDepth 20000 in
theorem reckoned_raw (z : Int) (a T : ByteArray) (p v x y : Nat) (f : FuncId) (cap : Array Value) (ok is fine : Bool) (w : World) (hr : ∀ args w, (callFunc f args).run Try.prog w = .ok (.enter f args) w)
    (hOf : ∀ u : World, Calls Try.prog 30 #[.int .i64 z] u fun e u' => e = .returned (.tuple #[fdV p v, .bool ok]) ∧ Below u.heap.size u u')
    (hRd : ok = true → ∀ u : World, Calls Try.prog 31 #[fdV p v, .string a] u fun e u' => e = .returned (.tuple #[nmV x, .bool is]) ∧ Below u.heap.size u u')
    (hWk : ok = true → is = true → ∀ u : World, Below w.heap.size w u → Calls Try.prog f (#[fdV p v, nmV x] ++ cap) u fun e u' => e = .returned (.tuple #[nmV y, .bool fine]) ∧ Below u.heap.size u u')
    (hTx : ∀ u : World, Calls Try.prog 32 #[nmV y] u fun e u' => e = .returned (.string T) ∧ Below u.heap.size u u') :
    Calls Try.prog 18 #[.int .i64 z, .string a, .func (.func f) #[] cap] w fun e u => e = .returned (.tuple #[.string (bif ok && is && fine then T else ⟨#[]⟩), .int .i64 (bif ok && is && fine then 0 else 900)]) ∧ Below w.heap.size w u := by
  have HOf := Lib.hid hOf
  have HRd := Lib.hid hRd
  have HWk := Lib.hid hWk
  have HTx := Lib.hid hTx
  clear hOf hRd hWk hTx
  go_enter Try.func18, Try.ntmps18
  have HB : Hid (Below w.heap.size w w) := Below.refl _ _
  go_upto_region 1 with (fail)
  apply wp_region_lit
  refine Lw.wpList_val rfl (.int .i64 z) w (by go_simp) ?_
  simp only [Act.put, List.setIfInBounds_toArray, List.set_cons_zero, List.set_cons_succ]
  refine Lw.wpList_callTo (some 13) rfl rfl 30 _ _ rfl (fun _ _ => by go_simp) #[.int .i64 z] (by kernel_rfl) ?_
  refine (HOf.out _).mono ?_
  rintro e u ⟨rfl, hb⟩
  refine ⟨_, rfl, ?_⟩
  have HB := Lib.hid (Lw.go_on HB.out hb)
  clear hb HOf
  refine Lw.wpList_val rfl (.tuple #[fdV p v, .bool ok]) u (by go_simp) ?_
  refine Lw.wpList_val rfl (fdV p v) u (by go_simp) ?_
  refine Lw.wpList_val rfl (.bool ok) u (by go_simp) ?_
  refine wpList_alloc_to rfl 50 rfl (fdA 0 0) u.heap.size rfl alloc_f ?_
  simp only [Act.put, List.setIfInBounds_toArray, List.set_cons_zero, List.set_cons_succ]
  refine wpList_store_row rfl 50 _ _ rfl u.heap.size (fdA p v) (by kernel_rfl) (by kernel_rfl) 50 _ (heap_alloc_last _ _) (by kernel_rfl) (by rw [fdA_size, fdA_size]) (fdA_one _ _) ?_
  rw [World.setRow_alloc_new]
  refine Lw.wpList_val rfl (.bool ok) (u.alloc (.cells (fdA p v) 50)) (by go_simp) ?_
  simp only [Act.put, List.setIfInBounds_toArray, List.set_cons_zero, List.set_cons_succ]
  have HF := Lib.hid (Fd.new u p v)
  have HB : Hid (Below w.heap.size w (u.alloc (.cells (fdA p v) 50))) := HB.out.alloc HB.out.size _
  generalize u.alloc (.cells (fdA p v) 50) = w1 at HF HB ⊢
  generalize u.heap.size = gf at HF ⊢
  generalize hFv : fdV p v = Fv at HRd HWk
  have HFv : Hid (Fv = .agg (fdA p v)) := hFv.symm
  clear hFv
  generalize fdV p v = Gv
  cases ok
  · generalize fdA p v = Fa at *
    go_wp2_with (fail)
    go_ret2
    exact ⟨rfl, HB.out⟩
  · go_upto_region 4 with (fail)
    apply wp_region_lit
    refine wpList_load_row rfl 50 _ rfl gf (by kernel_rfl) 50 (fdA p v) (0, 0) _ HF.out Try.underlying50 rfl (by kernel_rfl) ?_
    rw [← HFv.out]
    refine Lw.wpList_val rfl (.string a) w1 (by go_simp) ?_
    simp only [Act.put, List.setIfInBounds_toArray, List.set_cons_zero, List.set_cons_succ]
    refine Lw.wpList_callTo (some 21) rfl rfl 31 _ _ rfl (fun _ _ => by go_simp) #[Fv, .string a] (by kernel_rfl) ?_
    refine (HRd.out rfl _).mono ?_
    rintro e u1 ⟨rfl, hb⟩
    refine ⟨_, rfl, ?_⟩
    have HF := Lib.hid (HF.out.on hb)
    have HB := Lib.hid (Lw.go_on HB.out hb)
    clear hb HRd
    refine Lw.wpList_val rfl (.tuple #[nmV x, .bool is]) u1 (by go_simp) ?_
    refine Lw.wpList_val rfl (nmV x) u1 (by go_simp) ?_
    refine Lw.wpList_val rfl (.bool is) u1 (by go_simp) ?_
    refine wpList_alloc_to rfl 48 rfl (nmA (lb 0)) u1.heap.size rfl alloc_n ?_
    simp only [Act.put, List.setIfInBounds_toArray, List.set_cons_zero, List.set_cons_succ]
    refine wpList_store_row rfl 48 _ _ rfl u1.heap.size (nmA (lb x)) (by kernel_rfl) (by kernel_rfl) 48 _ (heap_alloc_last _ _) (by kernel_rfl) (by rw [nmA_size, nmA_size]) (nmA_one _) ?_
    rw [World.setRow_alloc_new]
    refine Lw.wpList_val rfl (.bool is) (u1.alloc (.cells (nmA (lb x)) 48)) (by go_simp) ?_
    simp only [Act.put, List.setIfInBounds_toArray, List.set_cons_zero, List.set_cons_succ]
    have HX := Lib.hid (Nb.new u1 x)
    have HF := Lib.hid (HF.out.alloc (.cells (nmA (lb x)) 48))
    have HGX : Hid (w.heap.size ≤ u1.heap.size) := HB.out.size
    have HB : Hid (Below w.heap.size w (u1.alloc (.cells (nmA (lb x)) 48))) := HB.out.alloc HB.out.size _
    generalize u1.alloc (.cells (nmA (lb x)) 48) = w2 at HX HF HB ⊢
    generalize u1.heap.size = gx at HX HGX ⊢
    cases is
    · generalize fdA p v = Fa at *
      generalize nmV x = Xv
      go_wp2_with (fail)
      go_ret2
      exact ⟨rfl, HB.out⟩
    · go_upto_region 7 with (fail)
      apply wp_region_lit
      refine Lw.wpList_val rfl (.func (.func f) #[] cap) w2 (by go_simp) ?_
      refine wpList_load_row rfl 50 _ rfl gf (by kernel_rfl) 50 (fdA p v) (0, 0) _ HF.out Try.underlying50 rfl (by kernel_rfl) ?_
      rw [← HFv.out]
      refine wpList_load_row rfl 48 _ rfl gx (by kernel_rfl) 48 (nmA (lb x)) (0, 0) _ HX.out Try.underlying48 rfl (by kernel_rfl) ?_
      simp only [Act.put, List.setIfInBounds_toArray, List.set_cons_zero, List.set_cons_succ]
      refine wpList_callVia (some 30) rfl rfl _ _ _ rfl f cap rfl hr (#[Fv, nmV x] ++ cap) (congrArg (· ++ cap) (by kernel_rfl)) ?_
      refine (HWk.out rfl rfl _ HB.out).mono ?_
      rintro e u2 ⟨rfl, hb⟩
      refine ⟨_, rfl, ?_⟩
      have HX := Lib.hid (HX.out.on hb)
      have HB := Lib.hid (Lw.go_on HB.out hb)
      clear hb HWk HF
      refine Lw.wpList_val rfl (.tuple #[nmV y, .bool fine]) u2 (by go_simp) ?_
      refine Lw.wpList_val rfl (nmV y) u2 (by go_simp) ?_
      refine Lw.wpList_val rfl (.bool fine) u2 (by go_simp) ?_
      simp only [Act.put, List.setIfInBounds_toArray, List.set_cons_zero, List.set_cons_succ]
      refine wpList_store_row rfl 48 _ _ rfl gx (nmA (lb y)) (by kernel_rfl) (by kernel_rfl) 48 _ HX.out (by kernel_rfl) (by rw [nmA_size, nmA_size]) (nmA_one _) ?_
      refine Lw.wpList_val rfl (.bool fine) (u2.setRow gx (nmA (lb y))) (by go_simp) ?_
      simp only [Act.put, List.setIfInBounds_toArray, List.set_cons_zero, List.set_cons_succ]
      have HB : Hid (Below w.heap.size w (u2.setRow gx (nmA (lb y)))) := below_setRow HB.out HGX.out _
      have HX := Lib.hid (HX.out.put y)
      generalize u2.setRow gx (nmA (lb y)) = w3 at HB HX ⊢
      generalize nmV x = Xv
      cases fine
      · generalize fdA p v = Fa at *
        generalize nmV y = Yv
        go_wp2_with (fail)
        go_ret2
        exact ⟨rfl, HB.out⟩
      · go_upto_region 10 with (fail)
        apply wp_region_lit
        refine wpList_load_row rfl 48 _ rfl gx (by kernel_rfl) 48 (nmA (lb y)) (0, 0) _ HX.out Try.underlying48 rfl (by kernel_rfl) ?_
        simp only [Act.put, List.setIfInBounds_toArray, List.set_cons_zero, List.set_cons_succ]
        refine Lw.wpList_callTo (some 36) rfl rfl 32 _ _ rfl (fun _ _ => by go_simp) #[nmV y] (by kernel_rfl) ?_
        refine (HTx.out _).mono ?_
        rintro e u3 ⟨rfl, hb⟩
        refine ⟨_, rfl, ?_⟩
        have HB := Lib.hid (Lw.go_on HB.out hb)
        clear hb
        generalize nmV y = Yv
        simp only [Act.put, List.setIfInBounds_toArray, List.set_cons_zero, List.set_cons_succ]
        go_wp2_with (fail)
        go_ret2
        exact ⟨rfl, HB.out⟩
end Go.Proofs.Nd
