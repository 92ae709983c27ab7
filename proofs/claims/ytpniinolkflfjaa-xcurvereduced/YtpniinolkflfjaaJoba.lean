/-
  The developers' numbers: a field as a value and in memory; the field of a modulus; a number read.
-/
import Derived.Test.YtpniinolkflfjaaJoaz
namespace Go.Proofs.Nd
open Go.RowKit
open Go.Proofs.Im (wpList_box_to words_heap words_one run_index_row)
open Go.Proofs.Sha (wordCells wordCells_get wordCells_size rowIs_of wpList_alloc_to wpList_build_to)
open Go.Proofs.Nt
open Go.Proofs.Nu (nmL nmA nmV lt8 nmA_get nmA_congr nmA_one nmA_size results_row_slot B8 b8 nv8 nmA_lb nv_lt8 md mP mN mX md_lt)
/-- A field's cells: the prime, and what 2^256 is modulo it. -/
def fdA (p o : Nat) : Array Value := wordCells .u32 (nmL (lb p) ++ nmL (lb o))
def fdV (p o : Nat) : Value := .agg (fdA p o)
theorem fdA_size (p o : Nat) : (fdA p o).size = 16 := rfl
theorem fdA_one (p o : Nat) : (fdA p o).all (·.oneCell') = true := words_one _ _
def Fd (u : World) (g p o : Nat) : Prop := u.heap[g]? = some (.cells (fdA p o) 40 (0, 0))
theorem Fd.new (w : World) (p o : Nat) : Fd (w.alloc (.cells (fdA p o) 40)) w.heap.size p o := heap_alloc_last _ _
theorem Fd.lt {u : World} {g p o : Nat} (h : Fd u g p o) : g < u.heap.size := (Array.getElem?_eq_some_iff.1 h).1
theorem Fd.on {u v : World} {g p o : Nat} (h : Fd u g p o) (hb : Below u.heap.size u v) : Fd v g p o := (hb.block g h.lt).trans h
theorem Fd.alloc {u : World} {g p o : Nat} (h : Fd u g p o) (ob : Obj) : Fd (u.alloc ob) g p o := h.on ((Below.refl _ _).alloc (Nat.le_refl _) ob)
theorem Fd.but {u v : World} {k g p o : Nat} (h : Fd u g p o) (hb : But k u v) (hk : g ≠ k) : Fd v g p o := (hb.block g h.lt hk).trans h
theorem Fd.prime {u : World} {g p o : Nat} (h : Fd u g p o) : u.rangeAt g 0 (nmA (lb p)).toList := World.rangeAt_of_block h 0 8
theorem Fd.over {u : World} {g p o : Nat} (h : Fd u g p o) : u.rangeAt g 8 (nmA (lb o)).toList := World.rangeAt_of_block h 8 8
theorem alloc_f (w : World) : (Instr.alloc 40 true (.tuple #[])).run Try.prog w = .ok (.pointer (some ⟨w.heap.size, 0, none⟩)) (w.alloc (.cells (fdA 0 0) 40)) := by kernel_rfl
/-- What 2^256 is modulo a modulus. -/
def ov (z : Int) : Nat := B8 % md z
/-- Is there such a modulus? -/
def zOk (z : Int) : Bool := decide (0 ≤ z ∧ z ≤ 2)
set_option maxHeartbeats 2000000 in
theorem of_any (z : Int) (w : World) : Calls Try.prog 27 #[.int .i64 z] w fun e u => e = .returned (.tuple #[bif zOk z then fdV (md z) (ov z) else fdV 0 0, .bool (zOk z)]) ∧ Below w.heap.size w u := by
  by_cases h0 : z = 0
  · subst h0
    rw [show zOk 0 = true from rfl]
    show Calls _ _ _ _ fun e u => e = .returned (.tuple #[fdV mP (B8 % mP), .bool true]) ∧ _
    go_enter Try.func27, Try.ntmps27
    go_upto_region 0 with (fail)
    apply wp_region_lit
    refine wpList_alloc_to rfl 40 rfl (fdA 0 0) w.heap.size rfl alloc_f ?_
    refine Lw.wpList_val rfl (.bool false) (w.alloc (.cells (fdA 0 0) 40)) (by go_simp) ?_
    simp only [Act.put, List.setIfInBounds_toArray, List.set_cons_zero, List.set_cons_succ]
    have HO : Hid ((w.alloc (.cells (fdA 0 0) 40)).heap[w.heap.size]? = some (.cells (fdA 0 0) 40 (0, 0))) := heap_alloc_last _ _
    have HB : Hid (Below w.heap.size w (w.alloc (.cells (fdA 0 0) 40))) := (Below.refl _ _).alloc (Nat.le_refl _) _
    generalize w.alloc (.cells (fdA 0 0) 40) = w1 at HO HB ⊢
    go_upto_region 3 with (fail)
    apply wp_region_lit
    refine wpList_build_to rfl 38 _ rfl (nmA (lb mP)) (by kernel_rfl) ?_
    refine wpList_build_to rfl 38 _ rfl (nmA (lb (B8 % mP))) (by kernel_rfl) ?_
    simp only [Act.put, List.setIfInBounds_toArray, List.set_cons_zero, List.set_cons_succ]
    refine wpList_build_to rfl 40 _ rfl (fdA mP (B8 % mP)) (by kernel_rfl) ?_
    generalize hA : fdA mP (B8 % mP) = A
    simp only [Act.put, List.setIfInBounds_toArray, List.set_cons_zero, List.set_cons_succ]
    refine wpList_store_row rfl 40 _ _ rfl w.heap.size A (by kernel_rfl) (by kernel_rfl) 40 _ HO.out (by rw [← hA]; kernel_rfl) (by rw [← hA]; rfl) (by rw [← hA]; exact fdA_one _ _) ?_
    refine Lw.wpList_val rfl (.bool true) (w1.setRow w.heap.size A) (by go_simp) ?_
    simp only [Act.put, List.setIfInBounds_toArray, List.set_cons_zero, List.set_cons_succ]
    go_wp2_with (fail)
    refine bodyPost_ret (v := .tuple #[.agg A, .bool true]) ?_ rfl ?_
    · exact results_row_slot (fn := Try.f27) Try.results27 _ _ w.heap.size 40 _ (0, 0) _ _ rfl rfl (setRow_heap _ _ _ _ _ _ HO.out) Try.underlying40 rfl (by rw [← hA]; kernel_rfl)
    · exact ⟨by rw [← hA]; rfl, below_setRow HB.out (Nat.le_refl _) _⟩
  · have z0 : (z == 0) = false := by simpa using h0
    by_cases h1 : z = 1
    · subst h1
      rw [show zOk 1 = true from rfl]
      show Calls _ _ _ _ fun e u => e = .returned (.tuple #[fdV mN (B8 % mN), .bool true]) ∧ _
      go_enter Try.func27, Try.ntmps27
      go_upto_region 0 with (fail)
      apply wp_region_lit
      refine wpList_alloc_to rfl 40 rfl (fdA 0 0) w.heap.size rfl alloc_f ?_
      refine Lw.wpList_val rfl (.bool false) (w.alloc (.cells (fdA 0 0) 40)) (by go_simp) ?_
      simp only [Act.put, List.setIfInBounds_toArray, List.set_cons_zero, List.set_cons_succ]
      have HO : Hid ((w.alloc (.cells (fdA 0 0) 40)).heap[w.heap.size]? = some (.cells (fdA 0 0) 40 (0, 0))) := heap_alloc_last _ _
      have HB : Hid (Below w.heap.size w (w.alloc (.cells (fdA 0 0) 40))) := (Below.refl _ _).alloc (Nat.le_refl _) _
      generalize w.alloc (.cells (fdA 0 0) 40) = w1 at HO HB ⊢
      go_upto_region 5 with (fail)
      apply wp_region_lit
      refine wpList_build_to rfl 38 _ rfl (nmA (lb mN)) (by kernel_rfl) ?_
      refine wpList_build_to rfl 38 _ rfl (nmA (lb (B8 % mN))) (by kernel_rfl) ?_
      simp only [Act.put, List.setIfInBounds_toArray, List.set_cons_zero, List.set_cons_succ]
      refine wpList_build_to rfl 40 _ rfl (fdA mN (B8 % mN)) (by kernel_rfl) ?_
      generalize hA : fdA mN (B8 % mN) = A
      simp only [Act.put, List.setIfInBounds_toArray, List.set_cons_zero, List.set_cons_succ]
      refine wpList_store_row rfl 40 _ _ rfl w.heap.size A (by kernel_rfl) (by kernel_rfl) 40 _ HO.out (by rw [← hA]; kernel_rfl) (by rw [← hA]; rfl) (by rw [← hA]; exact fdA_one _ _) ?_
      refine Lw.wpList_val rfl (.bool true) (w1.setRow w.heap.size A) (by go_simp) ?_
      simp only [Act.put, List.setIfInBounds_toArray, List.set_cons_zero, List.set_cons_succ]
      go_wp2_with (fail)
      refine bodyPost_ret (v := .tuple #[.agg A, .bool true]) ?_ rfl ?_
      · exact results_row_slot (fn := Try.f27) Try.results27 _ _ w.heap.size 40 _ (0, 0) _ _ rfl rfl (setRow_heap _ _ _ _ _ _ HO.out) Try.underlying40 rfl (by rw [← hA]; kernel_rfl)
      · exact ⟨by rw [← hA]; rfl, below_setRow HB.out (Nat.le_refl _) _⟩
    · have z1 : (z == 1) = false := by simpa using h1
      by_cases h2 : z = 2
      · subst h2
        rw [show zOk 2 = true from rfl]
        show Calls _ _ _ _ fun e u => e = .returned (.tuple #[fdV mX (B8 % mX), .bool true]) ∧ _
        go_enter Try.func27, Try.ntmps27
        go_upto_region 0 with (fail)
        apply wp_region_lit
        refine wpList_alloc_to rfl 40 rfl (fdA 0 0) w.heap.size rfl alloc_f ?_
        refine Lw.wpList_val rfl (.bool false) (w.alloc (.cells (fdA 0 0) 40)) (by go_simp) ?_
        simp only [Act.put, List.setIfInBounds_toArray, List.set_cons_zero, List.set_cons_succ]
        have HO : Hid ((w.alloc (.cells (fdA 0 0) 40)).heap[w.heap.size]? = some (.cells (fdA 0 0) 40 (0, 0))) := heap_alloc_last _ _
        have HB : Hid (Below w.heap.size w (w.alloc (.cells (fdA 0 0) 40))) := (Below.refl _ _).alloc (Nat.le_refl _) _
        generalize w.alloc (.cells (fdA 0 0) 40) = w1 at HO HB ⊢
        go_upto_region 7 with (fail)
        apply wp_region_lit
        refine wpList_build_to rfl 38 _ rfl (nmA (lb mX)) (by kernel_rfl) ?_
        refine wpList_build_to rfl 38 _ rfl (nmA (lb (B8 % mX))) (by kernel_rfl) ?_
        simp only [Act.put, List.setIfInBounds_toArray, List.set_cons_zero, List.set_cons_succ]
        refine wpList_build_to rfl 40 _ rfl (fdA mX (B8 % mX)) (by kernel_rfl) ?_
        generalize hA : fdA mX (B8 % mX) = A
        simp only [Act.put, List.setIfInBounds_toArray, List.set_cons_zero, List.set_cons_succ]
        refine wpList_store_row rfl 40 _ _ rfl w.heap.size A (by kernel_rfl) (by kernel_rfl) 40 _ HO.out (by rw [← hA]; kernel_rfl) (by rw [← hA]; rfl) (by rw [← hA]; exact fdA_one _ _) ?_
        refine Lw.wpList_val rfl (.bool true) (w1.setRow w.heap.size A) (by go_simp) ?_
        simp only [Act.put, List.setIfInBounds_toArray, List.set_cons_zero, List.set_cons_succ]
        go_wp2_with (fail)
        refine bodyPost_ret (v := .tuple #[.agg A, .bool true]) ?_ rfl ?_
        · exact results_row_slot (fn := Try.f27) Try.results27 _ _ w.heap.size 40 _ (0, 0) _ _ rfl rfl (setRow_heap _ _ _ _ _ _ HO.out) Try.underlying40 rfl (by rw [← hA]; kernel_rfl)
        · exact ⟨by rw [← hA]; rfl, below_setRow HB.out (Nat.le_refl _) _⟩
      · have z2 : (z == 2) = false := by simpa using h2
        rw [show zOk z = false from decide_eq_false (by omega)]
        show Calls _ _ _ _ fun e u => e = .returned (.tuple #[fdV 0 0, .bool false]) ∧ _
        clear h0 h1 h2
        go_enter Try.func27, Try.ntmps27
        go_upto_region 0 with (fail)
        apply wp_region_lit
        refine wpList_alloc_to rfl 40 rfl (fdA 0 0) w.heap.size rfl alloc_f ?_
        refine Lw.wpList_val rfl (.bool false) (w.alloc (.cells (fdA 0 0) 40)) (by go_simp) ?_
        simp only [Act.put, List.setIfInBounds_toArray, List.set_cons_zero, List.set_cons_succ]
        have HO : Hid ((w.alloc (.cells (fdA 0 0) 40)).heap[w.heap.size]? = some (.cells (fdA 0 0) 40 (0, 0))) := heap_alloc_last _ _
        have HB : Hid (Below w.heap.size w (w.alloc (.cells (fdA 0 0) 40))) := (Below.refl _ _).alloc (Nat.le_refl _) _
        generalize w.alloc (.cells (fdA 0 0) 40) = w1 at HO HB ⊢
        go_upto_region 8 with (fail)
        apply wp_region_lit
        refine wpList_build_to rfl 40 _ rfl (fdA 0 0) (by kernel_rfl) ?_
        generalize hA : fdA 0 0 = A at HO ⊢
        simp only [Act.put, List.setIfInBounds_toArray, List.set_cons_zero, List.set_cons_succ]
        refine wpList_store_row rfl 40 _ _ rfl w.heap.size A (by kernel_rfl) (by kernel_rfl) 40 _ HO.out (by rw [← hA]; kernel_rfl) rfl (by rw [← hA]; exact fdA_one _ _) ?_
        refine Lw.wpList_val rfl (.bool false) (w1.setRow w.heap.size A) (by go_simp) ?_
        simp only [Act.put, List.setIfInBounds_toArray, List.set_cons_zero, List.set_cons_succ]
        go_wp2_with (fail)
        refine bodyPost_ret (v := .tuple #[.agg A, .bool false]) ?_ rfl ?_
        · exact results_row_slot (fn := Try.f27) Try.results27 _ _ w.heap.size 40 _ (0, 0) _ _ rfl rfl (setRow_heap _ _ _ _ _ _ HO.out) Try.underlying40 rfl (by rw [← hA]; kernel_rfl)
        · exact ⟨by rw [← hA]; rfl, below_setRow HB.out (Nat.le_refl _) _⟩
end Go.Proofs.Nd
/-
  The developers' numbers: a number of a field read; sums and differences in a field.
-/
namespace Go.Proofs.Nd
open Go.RowKit
open Go.Proofs.Im (wpList_box_to words_heap words_one run_index_row)
open Go.Proofs.Sha (wordCells wordCells_get wordCells_size rowIs_of wpList_alloc_to wpList_build_to)
open Go.Proofs.Nt
open Go.Proofs.Nu (nmL nmA nmV lt8 nmA_get nmA_congr nmA_one nmA_size results_row_slot B8 b8 nv8 nmA_lb nv_lt8 md mP mN mX md_lt)
/-- A number in memory. -/
def Nb (u : World) (g x : Nat) : Prop := u.heap[g]? = some (.cells (nmA (lb x)) 38 (0, 0))
theorem Nb.new (w : World) (x : Nat) : Nb (w.alloc (.cells (nmA (lb x)) 38)) w.heap.size x := heap_alloc_last _ _
theorem Nb.lt {u : World} {g x : Nat} (h : Nb u g x) : g < u.heap.size := (Array.getElem?_eq_some_iff.1 h).1
theorem Nb.on {u v : World} {g x : Nat} (h : Nb u g x) (hb : Below u.heap.size u v) : Nb v g x := (hb.block g h.lt).trans h
theorem Nb.alloc {u : World} {g x : Nat} (h : Nb u g x) (ob : Obj) : Nb (u.alloc ob) g x := h.on ((Below.refl _ _).alloc (Nat.le_refl _) ob)
theorem Nb.put {u : World} {g x : Nat} (h : Nb u g x) (y : Nat) : Nb (u.setRow g (nmA (lb y))) g y := setRow_heap _ _ _ _ _ _ h
theorem setRow_far {u : World} {g k : Nat} (A : Array Value) (hk : k ≠ g) : (u.setRow g A).heap[k]? = u.heap[k]? := by
  unfold World.setRow
  simp only [Array.getElem?_modify]
  split
  · omega
  · rfl
theorem Nb.far {u : World} {g k x : Nat} (h : Nb u k x) (A : Array Value) (hk : k ≠ g) : Nb (u.setRow g A) k x := (setRow_far A hk).trans h
theorem Fd.far {u : World} {g k p o : Nat} (h : Fd u k p o) (A : Array Value) (hk : k ≠ g) : Fd (u.setRow g A) k p o := (setRow_far A hk).trans h
theorem alloc_n (w : World) : (Instr.alloc 38 true (.tuple #[])).run Try.prog w = .ok (.pointer (some ⟨w.heap.size, 0, none⟩)) (w.alloc (.cells (nmA (lb 0)) 38)) := by kernel_rfl
/-- A text that is a number below a prime. -/
def rdOk (p : Nat) (s : ByteArray) : Bool := decide (s.size = 32) && decide (bn s < p)
def rdX (p : Nat) (s : ByteArray) : Nat := bif rdOk p s then bn s else 0
end Go.Proofs.Nd
