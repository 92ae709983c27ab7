/-
  The document's own answer for layer 9: words as numbers: compared, added, taken away; the moduli.
-/
import Derived.Test.YtpniinolkflfjaaJoah
import Derived.Test.YtpniinolkflfjaaJoai
namespace Go.Proofs.Nu
open Go.RowKit
open Go.Proofs.Im (wpList_box_to words_heap words_one run_index_row)
open Go.Proofs.Sha (wordCells wordCells_get wordCells_size rowIs_of wpList_alloc_to wpList_build_to)
open Go.Proofs.Nt
def B8 : Nat := 115792089237316195423570985008687907853269984665640564039457584007913129639936
theorem b8 : B8 = 2 ^ (32 * 8) := by decide
theorem nv8 {x : Nat} (h : x < B8) : nv (lb x) 8 = x := nv_lb (by rw [← b8]; exact h)
theorem nmA_lb {d : Nat → Nat} (h : ∀ i, d i < 4294967296) : nmA d = nmA (lb (nv d 8)) := nmA_congr fun i hi => (lb_nv 8 (fun i _ => h i) i hi).symm
theorem nv_lt8 {d : Nat → Nat} (h : ∀ i, d i < 4294967296) : nv d 8 < B8 := by rw [b8]; exact nv_lt 8 fun i _ => h i
theorem less_any (x y : Nat) (w : World) (hx : x < B8) (hy : y < B8) :
    Calls Try.prog 21 #[nmV x, nmV y] w fun e w' => e = .returned (.bool (decide (x < y))) ∧ Below w.heap.size w w' := by
  have h := less_limbs (lb x) (lb y) w (lb_lt x) (lb_lt y)
  rw [nv8 hx, nv8 hy] at h
  exact h
theorem plus_any (x y : Nat) (w : World) (hx : x < B8) (hy : y < B8) :
    Calls Try.prog 47 #[nmV x, nmV y] w fun e w' => e = .returned (.tuple #[nmV ((x + y) % B8), .int .u64 ((x + y) / B8 : Nat)]) ∧ Below w.heap.size w w' := by
  have h := plus_limbs (lb x) (lb y) w (lb_lt x) (lb_lt y)
  have hp : ∀ i, ps (lb x) (lb y) i < 4294967296 := fun i => Nat.mod_lt _ (by decide)
  have hv := ps_val (lb x) (lb y) 8
  have hl := nv_lt8 hp
  rw [nv8 hx, nv8 hy, ← b8] at hv
  rw [nmA_lb hp] at h
  generalize nv (ps (lb x) (lb y)) 8 = s at h hv hl
  generalize pc (lb x) (lb y) 8 = c at h hv
  rw [← hv, Nat.add_mul_mod_self_right, Nat.mod_eq_of_lt hl, Nat.add_mul_div_right _ _ (show 0 < B8 by decide), Nat.div_eq_of_lt hl, Nat.zero_add]
  exact h
theorem minus_any (x y : Nat) (w : World) (hx : x < B8) (hy : y < B8) :
    Calls Try.prog 23 #[nmV x, nmV y] w fun e w' => e = .returned (nmV ((x + B8 - y) % B8)) ∧ Below w.heap.size w w' := by
  have h := minus_limbs (lb x) (lb y) w (lb_lt x) (lb_lt y)
  have hp : ∀ i, ms (lb x) (lb y) i < 4294967296 := fun i => Nat.mod_lt _ (by decide)
  have hv := ms_val (lb_lt x) (lb_lt y) 8
  have hl := nv_lt8 hp
  have hb := mb_le (lb x) (lb y) 8
  rw [nv8 hx, nv8 hy, ← b8] at hv
  rw [nmA_lb hp] at h
  generalize nv (ms (lb x) (lb y)) 8 = s at h hv hl
  generalize mb (lb x) (lb y) 8 = c at hv hb
  have e : (x + B8 - y) % B8 = s := by
    have hB : 0 < B8 := by decide
    generalize B8 = K at *
    rcases Nat.le_one_iff_eq_zero_or_eq_one.1 hb with rfl | rfl
    · rw [show x + K - y = s + K by omega, Nat.add_mod_right, Nat.mod_eq_of_lt hl]
    · rw [show x + K - y = s by omega, Nat.mod_eq_of_lt hl]
  rw [e]
  exact h
/-- The modulus. -/
def mP : Nat := 115792089210356248762697446949407573530086143415290314195533631308867097853951
def mN : Nat := 115792089210356248762697446949407573529996955224135760342422259061068512044369
def mX : Nat := 57896044618658097711785492504343953926634992332820282019728792003956564819949
def md (z : Int) : Nat := if z = 0 then mP else if z = 1 then mN else mX
theorem md_prime (z : Int) : Prime (md z) := by
  unfold md
  split
  · exact mod_p
  · split
    · exact mod_n
    · exact mod_x
theorem md_lt (z : Int) : md z < B8 := by
  unfold md
  split
  · decide
  · split <;> decide
set_option maxHeartbeats 1000000 in
theorem modulus_any (z : Int) (w : World) : Calls Try.prog 22 #[.int .i64 z] w fun e w' => e = .returned (nmV (md z)) ∧ Below w.heap.size w w' := by
  unfold md
  by_cases h0 : z = 0
  · rw [if_pos h0]
    subst h0
    go_enter Try.func22, Try.ntmps22
    go_upto_region 0 with (fail)
    apply wp_region_lit
    refine wpList_alloc_to rfl 50 rfl (nmA fun _ => 0) w.heap.size rfl alloc8 ?_
    have HO : Hid ((w.alloc (.cells (nmA fun _ => 0) 50)).heap[w.heap.size]? = some (.cells (nmA fun _ => 0) 50 (0, 0))) := heap_alloc_last _ _
    have HB : Hid (Below w.heap.size w (w.alloc (.cells (nmA fun _ => 0) 50))) := (Below.refl _ _).alloc (Nat.le_refl _) _
    generalize w.alloc (.cells (nmA fun _ => 0) 50) = w1 at HO HB ⊢
    go_upto_region 3 with (fail)
    apply wp_region_lit
    refine wpList_build_to rfl 50 _ rfl (nmA (lb mP)) (by kernel_rfl) ?_
    refine wpList_store_row rfl 50 _ _ rfl w.heap.size (nmA (lb mP)) (by kernel_rfl) (by kernel_rfl) 50 _ HO.out (by kernel_rfl) (by rw [nmA_size, nmA_size]) (nmA_one _) ?_
    simp only [Act.put, List.setIfInBounds_toArray, List.set_cons_zero, List.set_cons_succ]
    generalize hA : nmA (lb mP) = A
    go_wp2_with (fail)
    refine bodyPost_ret (v := .agg A) ?_ rfl ?_
    · exact results_cell_row (fn := Try.f22) Try.results22 _ _ w.heap.size 50 _ (0, 0) _ rfl (setRow_heap _ _ _ _ _ _ HO.out) Try.underlying50 rfl (by rw [← hA]; kernel_rfl)
    · exact ⟨by rw [← hA]; rfl, below_setRow HB.out (Nat.le_refl _) _⟩
  · have z0 : (z == 0) = false := by simpa using h0
    rw [if_neg h0]
    by_cases h1 : z = 1
    · rw [if_pos h1]
      subst h1
      go_enter Try.func22, Try.ntmps22
      go_upto_region 0 with (fail)
      apply wp_region_lit
      refine wpList_alloc_to rfl 50 rfl (nmA fun _ => 0) w.heap.size rfl alloc8 ?_
      have HO : Hid ((w.alloc (.cells (nmA fun _ => 0) 50)).heap[w.heap.size]? = some (.cells (nmA fun _ => 0) 50 (0, 0))) := heap_alloc_last _ _
      have HB : Hid (Below w.heap.size w (w.alloc (.cells (nmA fun _ => 0) 50))) := (Below.refl _ _).alloc (Nat.le_refl _) _
      generalize w.alloc (.cells (nmA fun _ => 0) 50) = w1 at HO HB ⊢
      go_upto_region 5 with (fail)
      apply wp_region_lit
      refine wpList_build_to rfl 50 _ rfl (nmA (lb mN)) (by kernel_rfl) ?_
      refine wpList_store_row rfl 50 _ _ rfl w.heap.size (nmA (lb mN)) (by kernel_rfl) (by kernel_rfl) 50 _ HO.out (by kernel_rfl) (by rw [nmA_size, nmA_size]) (nmA_one _) ?_
      simp only [Act.put, List.setIfInBounds_toArray, List.set_cons_zero, List.set_cons_succ]
      generalize hA : nmA (lb mN) = A
      go_wp2_with (fail)
      refine bodyPost_ret (v := .agg A) ?_ rfl ?_
      · exact results_cell_row (fn := Try.f22) Try.results22 _ _ w.heap.size 50 _ (0, 0) _ rfl (setRow_heap _ _ _ _ _ _ HO.out) Try.underlying50 rfl (by rw [← hA]; kernel_rfl)
      · exact ⟨by rw [← hA]; rfl, below_setRow HB.out (Nat.le_refl _) _⟩
    · have z1 : (z == 1) = false := by simpa using h1
      rw [if_neg h1]
      clear h0 h1
      go_enter Try.func22, Try.ntmps22
      go_upto_region 0 with (fail)
      apply wp_region_lit
      refine wpList_alloc_to rfl 50 rfl (nmA fun _ => 0) w.heap.size rfl alloc8 ?_
      have HO : Hid ((w.alloc (.cells (nmA fun _ => 0) 50)).heap[w.heap.size]? = some (.cells (nmA fun _ => 0) 50 (0, 0))) := heap_alloc_last _ _
      have HB : Hid (Below w.heap.size w (w.alloc (.cells (nmA fun _ => 0) 50))) := (Below.refl _ _).alloc (Nat.le_refl _) _
      generalize w.alloc (.cells (nmA fun _ => 0) 50) = w1 at HO HB ⊢
      go_upto_region 6 with (fail)
      apply wp_region_lit
      refine wpList_build_to rfl 50 _ rfl (nmA (lb mX)) (by kernel_rfl) ?_
      refine wpList_store_row rfl 50 _ _ rfl w.heap.size (nmA (lb mX)) (by kernel_rfl) (by kernel_rfl) 50 _ HO.out (by kernel_rfl) (by rw [nmA_size, nmA_size]) (nmA_one _) ?_
      simp only [Act.put, List.setIfInBounds_toArray, List.set_cons_zero, List.set_cons_succ]
      generalize hA : nmA (lb mX) = A
      go_wp2_with (fail)
      refine bodyPost_ret (v := .agg A) ?_ rfl ?_
      · exact results_cell_row (fn := Try.f22) Try.results22 _ _ w.heap.size 50 _ (0, 0) _ rfl (setRow_heap _ _ _ _ _ _ HO.out) Try.underlying50 rfl (by rw [← hA]; kernel_rfl)
      · exact ⟨by rw [← hA]; rfl, below_setRow HB.out (Nat.le_refl _) _⟩
end Go.Proofs.Nu
