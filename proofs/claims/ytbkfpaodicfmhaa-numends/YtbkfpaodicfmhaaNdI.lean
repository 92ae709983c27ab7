/-
  The developers' numbers: a number of a field read; sums and differences in a field.
-/
import Derived.Test.YtbkfpaodicfmhaaNdH
namespace Go.Proofs.Nd
open Go.RowKit
open Go.Proofs.Im (wpList_box_to words_heap words_one run_index_row)
open Go.Proofs.Sha (wordCells wordCells_get wordCells_size rowIs_of wpList_alloc_to wpList_build_to)
open Go.Proofs.Nt
open Go.Proofs.Nu (nmL nmA nmV lt8 nmA_get nmA_congr nmA_one nmA_size results_row_slot B8 b8 nv8 nmA_lb nv_lt8 md mP mN mX md_lt)
/-- A number in memory. -/
def Nb (u : World) (g x : Nat) : Prop := u.heap[g]? = some (.cells (nmA (lb x)) 48 (0, 0))
theorem Nb.new (w : World) (x : Nat) : Nb (w.alloc (.cells (nmA (lb x)) 48)) w.heap.size x := heap_alloc_last _ _
theorem Nb.lt {u : World} {g x : Nat} (h : Nb u g x) : g < u.heap.size := (Array.getElem?_eq_some_iff.1 h).1
theorem Nb.on {u v : World} {g x : Nat} (h : Nb u g x) (hb : Below u.heap.size u v) : Nb v g x := (hb.block g h.lt).trans h
theorem Nb.alloc {u : World} {g x : Nat} (h : Nb u g x) (ob : Obj) : Nb (u.alloc ob) g x := h.on ((Below.refl _ _).alloc (Nat.le_refl _) ob)
theorem Nb.put {u : World} {g x : Nat} (h : Nb u g x) (y : Nat) : Nb (u.setRow g (nmA (lb y))) g y := setRow_heap _ _ _ _ _ _ h
theorem setRow_far {u : World} {g k : Nat} (A : Array Value) (hk : k ≠ g) : (u.setRow g A).heap[k]? = u.heap[k]? := by
  unfold World.setRow
  simp only [Array.getElem?_modify]
  split
  · omega
  · rfl
theorem Nb.far {u : World} {g k x : Nat} (h : Nb u k x) (A : Array Value) (hk : k ≠ g) : Nb (u.setRow g A) k x := (setRow_far A hk).trans h
theorem Fd.far {u : World} {g k p o : Nat} (h : Fd u k p o) (A : Array Value) (hk : k ≠ g) : Fd (u.setRow g A) k p o := (setRow_far A hk).trans h
theorem alloc_n (w : World) : (Instr.alloc 48 true (.tuple #[])).run Try.prog w = .ok (.pointer (some ⟨w.heap.size, 0, none⟩)) (w.alloc (.cells (nmA (lb 0)) 48)) := by kernel_rfl
/-- A text that is a number below a prime. -/
def rdOk (p : Nat) (s : ByteArray) : Bool := decide (s.size = 32) && decide (bn s < p)
def rdX (p : Nat) (s : ByteArray) : Nat := bif rdOk p s then bn s else 0
set_option maxHeartbeats 2000000 in
set_option maxRecDepth 20000 in
theorem read_any (p o : Nat) (s : ByteArray) (w : World) (hp : p < B8) : Calls Try.prog 31 #[fdV p o, .string s] w fun e u => e = .returned (.tuple #[nmV (rdX p s), .bool (rdOk p s)]) ∧ Below w.heap.size w u := by
  unfold rdX rdOk
  by_cases hs : s.size = 32
  · rw [decide_eq_true hs, Bool.true_and]
    have HNum := Lib.hid (fun u => number_any s u hs)
    have hbn : bn s < B8 := Nat.lt_of_lt_of_eq (bg_lt s 0 32) (by decide)
    have HMin := Lib.hid (fun u => minus_any (bn s) p u hbn hp)
    have hz : ((s.size : Int) != 32) = false := by rw [hs]; rfl
    clear hs hbn hp
    generalize bn s = x at HNum HMin ⊢
    generalize (x + B8 - p) % B8 = y at HMin
    go_enter Try.func31, Try.ntmps31
    go_upto_region 0 with (fail)
    apply wp_region_lit
    refine wpList_box_to rfl 50 _ rfl (fdA p o) (by kernel_rfl) w.heap.size rfl ?_
    refine wpList_alloc_to rfl 48 rfl (nmA (lb 0)) (w.heap.size + 1) (by simp) alloc_n ?_
    refine Lw.wpList_val rfl (.bool false) ((w.alloc (.cells (fdA p o) 50)).alloc (.cells (nmA (lb 0)) 48)) (by go_simp) ?_
    simp only [Act.put, List.setIfInBounds_toArray, List.set_cons_zero, List.set_cons_succ]
    have hsz : (w.alloc (.cells (fdA p o) 50)).heap.size = w.heap.size + 1 := by simp
    have HF := Lib.hid ((Fd.new w p o).alloc (.cells (nmA (lb 0)) 48))
    have HR := Lib.hid (Nb.new (w.alloc (.cells (fdA p o) 50)) 0)
    rw [hsz] at HR
    have HB : Hid (Below w.heap.size w ((w.alloc (.cells (fdA p o) 50)).alloc (.cells (nmA (lb 0)) 48))) := ((Below.refl _ _).alloc (Nat.le_refl _) _).alloc (by simp) _
    generalize (w.alloc (.cells (fdA p o) 50)).alloc (.cells (nmA (lb 0)) 48) = w1 at HF HR HB ⊢
    clear hsz
    generalize fdV p o = Fv
    go_upto_region 3 with (fail)
    clear hz
    apply wp_region_lit
    refine Lw.wpList_val rfl (.string s) w1 (by go_simp) ?_
    simp only [Act.put, List.setIfInBounds_toArray, List.set_cons_zero, List.set_cons_succ]
    refine Lw.wpList_callTo (some 14) rfl rfl 51 _ _ rfl (fun _ _ => by go_simp) #[.string s] (by kernel_rfl) ?_
    refine (HNum.out _).mono ?_
    rintro e u ⟨rfl, hb⟩
    refine ⟨_, rfl, ?_⟩
    have HF := Lib.hid (HF.out.on hb)
    have HR := Lib.hid (HR.out.on hb)
    have HB := Lib.hid (Lw.go_on HB.out hb)
    clear hb
    refine wpList_alloc_to rfl 48 rfl (nmA (lb 0)) u.heap.size rfl alloc_n ?_
    simp only [Act.put, List.setIfInBounds_toArray, List.set_cons_zero, List.set_cons_succ]
    refine wpList_store_row rfl 48 _ _ rfl u.heap.size (nmA (lb x)) (by kernel_rfl) (by kernel_rfl) 48 _ (heap_alloc_last _ _) (by kernel_rfl) (by rw [nmA_size, nmA_size]) (nmA_one _) ?_
    rw [World.setRow_alloc_new]
    simp only [Act.put]
    have HX := Lib.hid (Nb.new u x)
    have HG : Hid (w.heap.size + 1 ≠ u.heap.size) := by have := HR.out.lt; show _ ≠ _; omega
    have HF := Lib.hid (HF.out.alloc (.cells (nmA (lb x)) 48))
    have HR := Lib.hid (HR.out.alloc (.cells (nmA (lb x)) 48))
    have HB : Hid (Below w.heap.size w (u.alloc (.cells (nmA (lb x)) 48))) := HB.out.alloc HB.out.size _
    generalize u.alloc (.cells (nmA (lb x)) 48) = w2 at HX HF HR HB ⊢
    generalize u.heap.size = gx at HX HG ⊢
    go_upto_region 4 with (fail)
    apply wp_region_lit
    refine wpList_load_row rfl 48 _ rfl gx (by kernel_rfl) 48 (nmA (lb x)) (0, 0) _ HX.out Try.underlying48 rfl (by kernel_rfl) ?_
    refine Lw.wpList_val rfl (.pointer (some ⟨w.heap.size, 0, none⟩)) w2 (by go_simp) ?_
    simp only [Act.put, List.setIfInBounds_toArray, List.set_cons_zero, List.set_cons_succ]
    refine wpList_load_mid rfl 48 _ rfl w.heap.size 0 (by kernel_rfl) (nmA (lb p)).toList _ HF.out.prime Try.underlying48 rfl (by kernel_rfl) ?_
    simp only [Act.put, List.setIfInBounds_toArray, List.set_cons_zero, List.set_cons_succ]
    refine Lw.wpList_callTo (some 19) rfl rfl 35 _ _ rfl (fun _ _ => by go_simp) #[nmV x, nmV p] (by kernel_rfl) ?_
    refine (HMin.out _).mono ?_
    rintro e u ⟨rfl, hb⟩
    refine ⟨_, rfl, ?_⟩
    have HX := Lib.hid (HX.out.on hb)
    have HR := Lib.hid (HR.out.on hb)
    have HB := Lib.hid (Lw.go_on HB.out hb)
    clear hb HF HMin HNum
    refine Lw.wpList_val rfl (.tuple #[nmV y, .bool (decide (x < p))]) u (by go_simp) ?_
    refine Lw.wpList_val rfl (nmV y) u (by go_simp) ?_
    refine Lw.wpList_val rfl (.bool (decide (x < p))) u (by go_simp) ?_
    refine wpList_alloc_to rfl 48 rfl (nmA (lb 0)) u.heap.size rfl alloc_n ?_
    simp only [Act.put, List.setIfInBounds_toArray, List.set_cons_zero, List.set_cons_succ]
    refine wpList_store_row rfl 48 _ _ rfl u.heap.size (nmA (lb y)) (by kernel_rfl) (by kernel_rfl) 48 _ (heap_alloc_last _ _) (by kernel_rfl) (by rw [nmA_size, nmA_size]) (nmA_one _) ?_
    rw [World.setRow_alloc_new]
    refine Lw.wpList_val rfl (.bool (decide (x < p))) (u.alloc (.cells (nmA (lb y)) 48)) (by go_simp) ?_
    simp only [Act.put, List.setIfInBounds_toArray, List.set_cons_zero, List.set_cons_succ]
    have HX := Lib.hid (HX.out.alloc (.cells (nmA (lb y)) 48))
    have HR := Lib.hid (HR.out.alloc (.cells (nmA (lb y)) 48))
    have HB : Hid (Below w.heap.size w (u.alloc (.cells (nmA (lb y)) 48))) := HB.out.alloc HB.out.size _
    generalize u.alloc (.cells (nmA (lb y)) 48) = w3 at HX HR HB ⊢
    generalize u.heap.size = gy
    generalize nmV y = Yv
    generalize nmV p = Pv
    cases hlt : decide (x < p)
    · go_upto_region 6 with (fail)
      apply wp_region_lit
      refine wpList_build_to rfl 48 _ rfl (nmA (lb 0)) (by kernel_rfl) ?_
      refine wpList_store_row rfl 48 _ _ rfl (w.heap.size + 1) (nmA (lb 0)) (by kernel_rfl) (by kernel_rfl) 48 _ HR.out (by kernel_rfl) rfl (nmA_one _) ?_
      refine Lw.wpList_val rfl (.bool false) (w3.setRow (w.heap.size + 1) (nmA (lb 0))) (by go_simp) ?_
      simp only [Act.put, List.setIfInBounds_toArray, List.set_cons_zero, List.set_cons_succ]
      generalize hA : nmA (lb 0) = A at HR ⊢
      go_wp2_with (fail)
      refine bodyPost_ret (v := .tuple #[.agg A, .bool false]) ?_ rfl ?_
      · exact results_row_slot (fn := Try.f31) Try.results31 _ _ (w.heap.size + 1) 48 _ (0, 0) _ _ rfl rfl (setRow_heap _ _ _ _ _ _ HR.out) Try.underlying48 rfl (by rw [← hA]; kernel_rfl)
      · exact ⟨by rw [← hA, hlt]; rfl, below_setRow HB.out (by omega) _⟩
    · go_upto_region 7 with (fail)
      apply wp_region_lit
      refine wpList_load_row rfl 48 _ rfl gx (by kernel_rfl) 48 (nmA (lb x)) (0, 0) _ HX.out Try.underlying48 rfl (by kernel_rfl) ?_
      simp only [Act.put, List.setIfInBounds_toArray, List.set_cons_zero, List.set_cons_succ]
      refine wpList_store_row rfl 48 _ _ rfl (w.heap.size + 1) (nmA (lb x)) (by kernel_rfl) (by kernel_rfl) 48 _ HR.out (by kernel_rfl) rfl (nmA_one _) ?_
      refine Lw.wpList_val rfl (.bool true) (w3.setRow (w.heap.size + 1) (nmA (lb x))) (by go_simp) ?_
      simp only [Act.put, List.setIfInBounds_toArray, List.set_cons_zero, List.set_cons_succ]
      generalize hA : nmA (lb x) = A
      go_wp2_with (fail)
      refine bodyPost_ret (v := .tuple #[.agg A, .bool true]) ?_ rfl ?_
      · exact results_row_slot (fn := Try.f31) Try.results31 _ _ (w.heap.size + 1) 48 _ (0, 0) _ _ rfl rfl (setRow_heap _ _ _ _ _ _ HR.out) Try.underlying48 rfl (by rw [← hA]; kernel_rfl)
      · exact ⟨by rw [← hA, hlt]; rfl, below_setRow HB.out (by omega) _⟩
  · rw [decide_eq_false hs, Bool.false_and]
    simp only [cond_false]
    have hz : ((s.size : Int) != 32) = true := bne_iff_ne.2 (by omega)
    have hz2 : ¬ ((s.size : Int) = 32) := by omega
    clear hs hp
    go_enter Try.func31, Try.ntmps31
    go_upto_region 0 with (fail)
    apply wp_region_lit
    refine wpList_box_to rfl 50 _ rfl (fdA p o) (by kernel_rfl) w.heap.size rfl ?_
    refine wpList_alloc_to rfl 48 rfl (nmA (lb 0)) (w.heap.size + 1) (by simp) alloc_n ?_
    refine Lw.wpList_val rfl (.bool false) ((w.alloc (.cells (fdA p o) 50)).alloc (.cells (nmA (lb 0)) 48)) (by go_simp) ?_
    simp only [Act.put, List.setIfInBounds_toArray, List.set_cons_zero, List.set_cons_succ]
    have hsz : (w.alloc (.cells (fdA p o) 50)).heap.size = w.heap.size + 1 := by simp
    have HR := Lib.hid (Nb.new (w.alloc (.cells (fdA p o) 50)) 0)
    rw [hsz] at HR
    have HB : Hid (Below w.heap.size w ((w.alloc (.cells (fdA p o) 50)).alloc (.cells (nmA (lb 0)) 48))) := ((Below.refl _ _).alloc (Nat.le_refl _) _).alloc (by simp) _
    generalize (w.alloc (.cells (fdA p o) 50)).alloc (.cells (nmA (lb 0)) 48) = w1 at HR HB ⊢
    clear hsz
    generalize fdV p o = Fv
    go_upto_region 2 with (fail)
    apply wp_region_lit
    refine wpList_build_to rfl 48 _ rfl (nmA (lb 0)) (by kernel_rfl) ?_
    refine wpList_store_row rfl 48 _ _ rfl (w.heap.size + 1) (nmA (lb 0)) (by kernel_rfl) (by kernel_rfl) 48 _ HR.out (by kernel_rfl) rfl (nmA_one _) ?_
    refine Lw.wpList_val rfl (.bool false) (w1.setRow (w.heap.size + 1) (nmA (lb 0))) (by go_simp) ?_
    simp only [Act.put, List.setIfInBounds_toArray, List.set_cons_zero, List.set_cons_succ]
    generalize hA : nmA (lb 0) = A at HR ⊢
    go_wp2_with (fail)
    refine bodyPost_ret (v := .tuple #[.agg A, .bool false]) ?_ rfl ?_
    · exact results_row_slot (fn := Try.f31) Try.results31 _ _ (w.heap.size + 1) 48 _ (0, 0) _ _ rfl rfl (setRow_heap _ _ _ _ _ _ HR.out) Try.underlying48 rfl (by rw [← hA]; kernel_rfl)
    · exact ⟨by rw [← hA]; rfl, below_setRow HB.out (by omega) _⟩
end Go.Proofs.Nd
