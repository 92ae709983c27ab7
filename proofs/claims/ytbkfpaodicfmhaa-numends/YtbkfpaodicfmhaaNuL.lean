/-
  The document's own answer for layer 9: into and out of Montgomery's form, products.
-/
import Derived.Test.YtbkfpaodicfmhaaNuK
import Derived.Test.YtbkfpaodicfmhaaNtF
import Derived.Test.YtbkfpaodicfmhaaHeA
namespace Go.Proofs.Nu
open Go.RowKit
open Go.Proofs.Im (wpList_box_to words_heap words_one run_index_row)
open Go.Proofs.Sha (wordCells wordCells_get wordCells_size rowIs_of wpList_alloc_to wpList_build_to)
open Go.Proofs.Nt
open Go.Proofs.He
def sP : Nat := B8 * B8 % mP
def sN : Nat := B8 * B8 % mN
def sX : Nat := B8 * B8 % mX
def sqz (z : Int) : Nat := if z = 0 then sP else if z = 1 then sN else sX
theorem sq_eq (z : Int) : 2 ^ 256 * 2 ^ 256 % md z = sqz z := by
  have hp : (2 : Nat) ^ 256 = B8 := b8.symm
  rw [hp]
  unfold md sqz sP sN sX
  split
  · rfl
  · split <;> rfl
/-- Numbers that are held. -/
structure Hd (w u : World) (L : List (Nat × Nat)) : Prop where
  rows : ∀ p ∈ L, Nm u p.1 p.2
  below : Below w.heap.size w u
theorem Hd.on {w u v : World} {L : List (Nat × Nat)} (h : Hd w u L) (hb : Below u.heap.size u v) : Hd w v L := ⟨fun p hp => (h.rows p hp).on hb, Lw.go_on h.below hb⟩
theorem Hd.row {w u : World} {L : List (Nat × Nat)} {g : Nat} (h : Hd w u L) (hg : ∀ p ∈ L, p.1 ≠ g) (hw : w.heap.size ≤ g) (A : Array Value) : Hd w (u.setRow g A) L := ⟨fun p hp => (h.rows p hp).ne (hg p hp) A, below_setRow h.below hw _⟩
theorem md_pos (z : Int) : 0 < md z := (md_prime z).pos
set_option maxHeartbeats 1000000 in
theorem square_any (z : Int) (w : World) : Calls Try.prog 53 #[.int .i64 z] w fun e w' => e = .returned (nmV (2 ^ 256 * 2 ^ 256 % md z)) ∧ Below w.heap.size w w' := by
  rw [sq_eq]
  unfold sqz
  by_cases h0 : z = 0
  · rw [if_pos h0]
    subst h0
    go_enter Try.func53, Try.ntmps53
    go_upto_region 0 with (fail)
    apply wp_region_lit
    refine wpList_alloc_to rfl 51 rfl (nmA fun _ => 0) w.heap.size rfl alloc8 ?_
    have HO : Hid ((w.alloc (.cells (nmA fun _ => 0) 51)).heap[w.heap.size]? = some (.cells (nmA fun _ => 0) 51 (0, 0))) := heap_alloc_last _ _
    have HB : Hid (Below w.heap.size w (w.alloc (.cells (nmA fun _ => 0) 51))) := (Below.refl _ _).alloc (Nat.le_refl _) _
    generalize w.alloc (.cells (nmA fun _ => 0) 51) = w1 at HO HB ⊢
    go_upto_region 3 with (fail)
    apply wp_region_lit
    refine wpList_build_to rfl 51 _ rfl (nmA (lb sP)) (by kernel_rfl) ?_
    refine wpList_store_row rfl 51 _ _ rfl w.heap.size (nmA (lb sP)) (by kernel_rfl) (by kernel_rfl) 51 _ HO.out (by kernel_rfl) (by rw [nmA_size, nmA_size]) (nmA_one _) ?_
    simp only [Act.put, List.setIfInBounds_toArray, List.set_cons_zero, List.set_cons_succ]
    generalize hA : nmA (lb sP) = A
    go_wp2_with (fail)
    refine bodyPost_ret (v := .agg A) ?_ rfl ?_
    · exact results_cell_row (fn := Try.f53) Try.results53 _ _ w.heap.size 51 _ (0, 0) _ rfl (setRow_heap _ _ _ _ _ _ HO.out) Try.underlying51 rfl (by rw [← hA]; kernel_rfl)
    · exact ⟨by rw [← hA]; rfl, below_setRow HB.out (Nat.le_refl _) _⟩
  · have z0 : (z == 0) = false := by simpa using h0
    rw [if_neg h0]
    by_cases h1 : z = 1
    · rw [if_pos h1]
      subst h1
      go_enter Try.func53, Try.ntmps53
      go_upto_region 0 with (fail)
      apply wp_region_lit
      refine wpList_alloc_to rfl 51 rfl (nmA fun _ => 0) w.heap.size rfl alloc8 ?_
      have HO : Hid ((w.alloc (.cells (nmA fun _ => 0) 51)).heap[w.heap.size]? = some (.cells (nmA fun _ => 0) 51 (0, 0))) := heap_alloc_last _ _
      have HB : Hid (Below w.heap.size w (w.alloc (.cells (nmA fun _ => 0) 51))) := (Below.refl _ _).alloc (Nat.le_refl _) _
      generalize w.alloc (.cells (nmA fun _ => 0) 51) = w1 at HO HB ⊢
      go_upto_region 5 with (fail)
      apply wp_region_lit
      refine wpList_build_to rfl 51 _ rfl (nmA (lb sN)) (by kernel_rfl) ?_
      refine wpList_store_row rfl 51 _ _ rfl w.heap.size (nmA (lb sN)) (by kernel_rfl) (by kernel_rfl) 51 _ HO.out (by kernel_rfl) (by rw [nmA_size, nmA_size]) (nmA_one _) ?_
      simp only [Act.put, List.setIfInBounds_toArray, List.set_cons_zero, List.set_cons_succ]
      generalize hA : nmA (lb sN) = A
      go_wp2_with (fail)
      refine bodyPost_ret (v := .agg A) ?_ rfl ?_
      · exact results_cell_row (fn := Try.f53) Try.results53 _ _ w.heap.size 51 _ (0, 0) _ rfl (setRow_heap _ _ _ _ _ _ HO.out) Try.underlying51 rfl (by rw [← hA]; kernel_rfl)
      · exact ⟨by rw [← hA]; rfl, below_setRow HB.out (Nat.le_refl _) _⟩
    · have z1 : (z == 1) = false := by simpa using h1
      rw [if_neg h1]
      clear h0 h1
      go_enter Try.func53, Try.ntmps53
      go_upto_region 0 with (fail)
      apply wp_region_lit
      refine wpList_alloc_to rfl 51 rfl (nmA fun _ => 0) w.heap.size rfl alloc8 ?_
      have HO : Hid ((w.alloc (.cells (nmA fun _ => 0) 51)).heap[w.heap.size]? = some (.cells (nmA fun _ => 0) 51 (0, 0))) := heap_alloc_last _ _
      have HB : Hid (Below w.heap.size w (w.alloc (.cells (nmA fun _ => 0) 51))) := (Below.refl _ _).alloc (Nat.le_refl _) _
      generalize w.alloc (.cells (nmA fun _ => 0) 51) = w1 at HO HB ⊢
      go_upto_region 6 with (fail)
      apply wp_region_lit
      refine wpList_build_to rfl 51 _ rfl (nmA (lb sX)) (by kernel_rfl) ?_
      refine wpList_store_row rfl 51 _ _ rfl w.heap.size (nmA (lb sX)) (by kernel_rfl) (by kernel_rfl) 51 _ HO.out (by kernel_rfl) (by rw [nmA_size, nmA_size]) (nmA_one _) ?_
      simp only [Act.put, List.setIfInBounds_toArray, List.set_cons_zero, List.set_cons_succ]
      generalize hA : nmA (lb sX) = A
      go_wp2_with (fail)
      refine bodyPost_ret (v := .agg A) ?_ rfl ?_
      · exact results_cell_row (fn := Try.f53) Try.results53 _ _ w.heap.size 51 _ (0, 0) _ rfl (setRow_heap _ _ _ _ _ _ HO.out) Try.underlying51 rfl (by rw [← hA]; kernel_rfl)
      · exact ⟨by rw [← hA]; rfl, below_setRow HB.out (Nat.le_refl _) _⟩
set_option maxHeartbeats 2000000 in
set_option maxRecDepth 20000 in
theorem into_any (z : Int) (x : Nat) (w : World) (hx : x < md z) : Calls Try.prog 42 #[.int .i64 z, nmV x] w fun e w' => e = .returned (nmV (jm (md z) x)) ∧ Below w.heap.size w w' := by
  have HSq := Lib.hid (fun u => square_any z u)
  have HMt := Lib.hid (fun u => mont_any z x (2 ^ 256 * 2 ^ 256 % md z) u hx (Nat.lt_trans (Nat.mod_lt _ (md_pos z)) (md_lt z)))
  rw [mt_in (md_prime z) (md_256 z)] at HMt
  generalize jm (md z) x = R at HMt ⊢
  generalize 2 ^ 256 * 2 ^ 256 % md z = q at HSq HMt
  clear hx
  go_enter Try.func42, Try.ntmps42
  go_upto_region 0 with (fail)
  apply wp_region_lit
  refine wpList_box_to rfl 51 _ rfl (nmA (lb x)) (by kernel_rfl) w.heap.size rfl ?_
  refine wpList_alloc_to rfl 51 rfl (nmA fun _ => 0) (w.heap.size + 1) (by simp) alloc8 ?_
  have HX : Hid (Nm ((w.alloc (.cells (nmA (lb x)) 51)).alloc (.cells (nmA fun _ => 0) 51)) w.heap.size x) := (Nm.new w x).alloc _
  have HO : Hid (Nm ((w.alloc (.cells (nmA (lb x)) 51)).alloc (.cells (nmA fun _ => 0) 51)) (w.heap.size + 1) 0) := by
    have h := Nm.new0 (w.alloc (.cells (nmA (lb x)) 51))
    rw [show (w.alloc (.cells (nmA (lb x)) 51)).heap.size = w.heap.size + 1 by simp] at h
    exact h
  have HB : Hid (Below w.heap.size w ((w.alloc (.cells (nmA (lb x)) 51)).alloc (.cells (nmA fun _ => 0) 51))) := ((Below.refl _ _).alloc (Nat.le_refl _) _).alloc (by simp) _
  generalize (w.alloc (.cells (nmA (lb x)) 51)).alloc (.cells (nmA fun _ => 0) 51) = w1 at HX HO HB ⊢
  go_upto_region 1 with (fail)
  have HSx : Hid (Hd w w1.drew [(w.heap.size, x)]) := ⟨by
    intro p hp
    simp only [List.mem_cons, List.not_mem_nil, or_false] at hp
    first
      | (rcases hp with rfl | rfl; exact HX.out.on (Below.refl _ _).drew; exact HY.out.on (Below.refl _ _).drew)
      | (subst hp; exact HX.out.on (Below.refl _ _).drew), HB.out.drew⟩
  have HO := Lib.hid (HO.out.on (Below.refl _ _).drew)
  clear HX HB
  refine wp_region_held (S := fun u => Hd w u [(w.heap.size, x)]) (by kernel_rfl) ?_
  change wpAnyH _ _ _ _ _ _ _ _ w1.drew
  refine takeH (i := 0) (some 5) (.int .i64 z) rfl rfl rfl (by kernel_rfl) (by kernel_rfl) (by kernel_rfl) (fun _ _ _ h => h) (fun w _ => by go_simp) HSx.out ?_
  simp only [Act.put, List.setIfInBounds_toArray, List.set_cons_zero, List.set_cons_succ]
  refine takeH (i := 1) (some 6) (.agg (nmA (lb x))) rfl rfl rfl (by kernel_rfl) (by kernel_rfl) (by kernel_rfl) (fun _ _ _ h => h) (load_row 51 _ rfl w.heap.size (by kernel_rfl) 51 (nmA (lb x)) (0, 0) _ Try.underlying51 rfl (by kernel_rfl) (fun _ h => h.rows (w.heap.size, x) (by simp))) HSx.out ?_
  simp only [Act.put, List.setIfInBounds_toArray, List.set_cons_zero, List.set_cons_succ]
  refine takeH (i := 2) (some 7) (.int .i64 z) rfl rfl rfl (by kernel_rfl) (by kernel_rfl) (by kernel_rfl) (fun _ _ _ h => h) (fun w _ => by go_simp) HSx.out ?_
  simp only [Act.put, List.setIfInBounds_toArray, List.set_cons_zero, List.set_cons_succ]
  refine wpAnyH_ready (rs := [3]) (by kernel_rfl) (by simp) ?_
  refine callH (some 8) rfl rfl rfl 53 _ _ rfl (fun _ _ => by go_simp) #[.int .i64 z] (by kernel_rfl) ?_ AllReadyH.nil
  refine (HSq.out _).mono ?_
  rintro e u2 ⟨rfl, hb⟩
  refine ⟨_, rfl, HSx.out.on hb, ?_⟩
  have HSx := Lib.hid (HSx.out.on hb)
  have HO := Lib.hid (HO.out.on hb)
  clear hb
  simp only [Act.put, List.setIfInBounds_toArray, List.set_cons_zero, List.set_cons_succ]
  refine wpAnyH_ready (rs := [4]) (by kernel_rfl) (by simp) ?_
  refine callH (some 9) rfl rfl rfl 41 _ _ rfl (fun _ _ => by go_simp) #[.int .i64 z, nmV x, nmV q] (by kernel_rfl) ?_ AllReadyH.nil
  refine (HMt.out _).mono ?_
  rintro e u3 ⟨rfl, hb⟩
  refine ⟨_, rfl, HSx.out.on hb, ?_⟩
  have HSx := Lib.hid (HSx.out.on hb)
  have HO := Lib.hid (HO.out.on hb)
  clear hb
  simp only [Act.put, List.setIfInBounds_toArray, List.set_cons_zero, List.set_cons_succ]
  refine wpAnyH_ready (rs := [5]) (by kernel_rfl) (by simp) ?_
  refine storeH rfl rfl rfl 51 _ _ rfl (w.heap.size + 1) (nmA (lb R)) (by kernel_rfl) (by kernel_rfl) 51 _ HO.out (by kernel_rfl) (by rw [nmA_size, nmA_size]) (nmA_one _) (HSx.out.row (by intro p hp; simp only [List.mem_cons, List.not_mem_nil, or_false] at hp; first | (rcases hp with rfl | rfl <;> (show _ ≠ _; omega)) | (subst hp; show _ ≠ _; omega)) (by omega) _) ?_ AllReadyH.nil
  have HOn := Lib.hid (HO.out.set R)
  have HBn := Lib.hid (below_setRow HSx.out.below (show w.heap.size ≤ (w.heap.size + 1) by omega) (nmA (lb R)))
  clear HSx HO
  simp only [Act.put]
  refine wpAnyH_done (by kernel_rfl) ?_ _
  go_wp2_with (fail)
  refine bodyPost_ret (v := nmV R) ?_ rfl ?_
  · exact results_cell_row (fn := Try.f42) Try.results42 _ _ (w.heap.size + 1) 51 _ (0, 0) _ rfl HOn.out Try.underlying51 rfl (by kernel_rfl)
  · exact ⟨rfl, HBn.out⟩
set_option maxHeartbeats 2000000 in
set_option maxRecDepth 20000 in
theorem out_any (z : Int) (x : Nat) (w : World) (hx : x < md z) : Calls Try.prog 49 #[.int .i64 z, nmV x] w fun e w' => e = .returned (nmV (mt (md z) x 1)) ∧ Below w.heap.size w w' := by
  have HMt := Lib.hid (fun u => mont_any z x 1 u hx (by decide))
  generalize mt (md z) x 1 = R at HMt ⊢
  clear hx
  go_enter Try.func49, Try.ntmps49
  go_upto_region 0 with (fail)
  apply wp_region_lit
  refine wpList_box_to rfl 51 _ rfl (nmA (lb x)) (by kernel_rfl) w.heap.size rfl ?_
  refine wpList_alloc_to rfl 51 rfl (nmA fun _ => 0) (w.heap.size + 1) (by simp) alloc8 ?_
  have HX : Hid (Nm ((w.alloc (.cells (nmA (lb x)) 51)).alloc (.cells (nmA fun _ => 0) 51)) w.heap.size x) := (Nm.new w x).alloc _
  have HO : Hid (Nm ((w.alloc (.cells (nmA (lb x)) 51)).alloc (.cells (nmA fun _ => 0) 51)) (w.heap.size + 1) 0) := by
    have h := Nm.new0 (w.alloc (.cells (nmA (lb x)) 51))
    rw [show (w.alloc (.cells (nmA (lb x)) 51)).heap.size = w.heap.size + 1 by simp] at h
    exact h
  have HB : Hid (Below w.heap.size w ((w.alloc (.cells (nmA (lb x)) 51)).alloc (.cells (nmA fun _ => 0) 51))) := ((Below.refl _ _).alloc (Nat.le_refl _) _).alloc (by simp) _
  generalize (w.alloc (.cells (nmA (lb x)) 51)).alloc (.cells (nmA fun _ => 0) 51) = w1 at HX HO HB ⊢
  go_upto_region 1 with (fail)
  apply wp_region_lit
  refine Lw.wpList_val rfl (.int .i64 z) w1 (by go_simp) ?_
  refine wpList_load_row rfl 51 _ rfl w.heap.size (by kernel_rfl) 51 (nmA (lb x)) (0, 0) _ HX.out Try.underlying51 rfl (by kernel_rfl) ?_
  refine wpList_build_to rfl 51 _ rfl (nmA (lb 1)) (by kernel_rfl) ?_
  simp only [Act.put, List.setIfInBounds_toArray, List.set_cons_zero, List.set_cons_succ]
  refine Lw.wpList_callTo (some 8) rfl rfl 41 _ _ rfl (fun _ _ => by go_simp) #[.int .i64 z, nmV x, nmV 1] (by kernel_rfl) ?_
  refine (HMt.out _).mono ?_
  rintro e u3 ⟨rfl, hb⟩
  refine ⟨_, rfl, ?_⟩
  have HX := Lib.hid (HX.out.on hb)
  have HO := Lib.hid (HO.out.on hb)
  have HB := Lib.hid (Lw.go_on HB.out hb)
  clear hb
  refine wpList_store_row rfl 51 _ _ rfl (w.heap.size + 1) (nmA (lb R)) (by kernel_rfl) (by kernel_rfl) 51 _ HO.out (by kernel_rfl) (by rw [nmA_size, nmA_size]) (nmA_one _) ?_
  simp only [Act.put, List.setIfInBounds_toArray, List.set_cons_zero, List.set_cons_succ]
  go_wp2_with (fail)
  refine bodyPost_ret (v := nmV R) ?_ rfl ?_
  · exact results_cell_row (fn := Try.f49) Try.results49 _ _ (w.heap.size + 1) 51 _ (0, 0) _ rfl (HO.out.set R) Try.underlying51 rfl (by kernel_rfl)
  · exact ⟨rfl, below_setRow HB.out (by omega) _⟩
set_option maxHeartbeats 2000000 in
set_option maxRecDepth 20000 in
theorem mul_any (z : Int) (x y : Nat) (w : World) (hx : x < md z) (hy : y < md z) : Calls Try.prog 25 #[.int .i64 z, nmV x, nmV y] w fun e w' => e = .returned (nmV (x * y % md z)) ∧ Below w.heap.size w w' := by
  have HIn := Lib.hid (fun u => into_any z x u hx)
  have HMt := Lib.hid (fun u => mont_any z (jm (md z) x) y u (jm_lt (md_pos z) x) (Nat.lt_trans hy (md_lt z)))
  rw [mt_jx (md_prime z) (md_256 z)] at HMt
  generalize x * y % md z = R at HMt ⊢
  generalize jm (md z) x = q at HIn HMt
  clear hx hy
  go_enter Try.func25, Try.ntmps25
  go_upto_region 0 with (fail)
  apply wp_region_lit
  refine wpList_box_to rfl 51 _ rfl (nmA (lb x)) (by kernel_rfl) w.heap.size rfl ?_
  refine wpList_box_to rfl 51 _ rfl (nmA (lb y)) (by kernel_rfl) (w.heap.size + 1) (by simp) ?_
  refine wpList_alloc_to rfl 51 rfl (nmA fun _ => 0) (w.heap.size + 2) (by simp) alloc8 ?_
  have HX : Hid (Nm (((w.alloc (.cells (nmA (lb x)) 51)).alloc (.cells (nmA (lb y)) 51)).alloc (.cells (nmA fun _ => 0) 51)) w.heap.size x) := ((Nm.new w x).alloc _).alloc _
  have HY : Hid (Nm (((w.alloc (.cells (nmA (lb x)) 51)).alloc (.cells (nmA (lb y)) 51)).alloc (.cells (nmA fun _ => 0) 51)) (w.heap.size + 1) y) := by
    have h := Nm.new (w.alloc (.cells (nmA (lb x)) 51)) y
    rw [show (w.alloc (.cells (nmA (lb x)) 51)).heap.size = w.heap.size + 1 by simp] at h
    exact h.alloc _
  have HO : Hid (Nm (((w.alloc (.cells (nmA (lb x)) 51)).alloc (.cells (nmA (lb y)) 51)).alloc (.cells (nmA fun _ => 0) 51)) (w.heap.size + 2) 0) := by
    have h := Nm.new0 ((w.alloc (.cells (nmA (lb x)) 51)).alloc (.cells (nmA (lb y)) 51))
    rw [show ((w.alloc (.cells (nmA (lb x)) 51)).alloc (.cells (nmA (lb y)) 51)).heap.size = w.heap.size + 2 by simp] at h
    exact h
  have HB : Hid (Below w.heap.size w (((w.alloc (.cells (nmA (lb x)) 51)).alloc (.cells (nmA (lb y)) 51)).alloc (.cells (nmA fun _ => 0) 51))) := ((((Below.refl _ _).alloc (Nat.le_refl _) _).alloc (by simp) _).alloc (by simp; omega) _)
  generalize ((w.alloc (.cells (nmA (lb x)) 51)).alloc (.cells (nmA (lb y)) 51)).alloc (.cells (nmA fun _ => 0) 51) = w1 at HX HY HO HB ⊢
  go_upto_region 1 with (fail)
  have HSx : Hid (Hd w w1.drew [(w.heap.size, x), (w.heap.size + 1, y)]) := ⟨by
    intro p hp
    simp only [List.mem_cons, List.not_mem_nil, or_false] at hp
    first
      | (rcases hp with rfl | rfl; exact HX.out.on (Below.refl _ _).drew; exact HY.out.on (Below.refl _ _).drew)
      | (subst hp; exact HX.out.on (Below.refl _ _).drew), HB.out.drew⟩
  have HO := Lib.hid (HO.out.on (Below.refl _ _).drew)
  clear HX HB
  refine wp_region_held (S := fun u => Hd w u [(w.heap.size, x), (w.heap.size + 1, y)]) (by kernel_rfl) ?_
  change wpAnyH _ _ _ _ _ _ _ _ w1.drew
  refine takeH (i := 0) (some 7) (.int .i64 z) rfl rfl rfl (by kernel_rfl) (by kernel_rfl) (by kernel_rfl) (fun _ _ _ h => h) (fun w _ => by go_simp) HSx.out ?_
  simp only [Act.put, List.setIfInBounds_toArray, List.set_cons_zero, List.set_cons_succ]
  refine takeH (i := 1) (some 8) (.int .i64 z) rfl rfl rfl (by kernel_rfl) (by kernel_rfl) (by kernel_rfl) (fun _ _ _ h => h) (fun w _ => by go_simp) HSx.out ?_
  simp only [Act.put, List.setIfInBounds_toArray, List.set_cons_zero, List.set_cons_succ]
  refine takeH (i := 2) (some 9) (.agg (nmA (lb x))) rfl rfl rfl (by kernel_rfl) (by kernel_rfl) (by kernel_rfl) (fun _ _ _ h => h) (load_row 51 _ rfl w.heap.size (by kernel_rfl) 51 (nmA (lb x)) (0, 0) _ Try.underlying51 rfl (by kernel_rfl) (fun _ h => h.rows (w.heap.size, x) (by simp))) HSx.out ?_
  simp only [Act.put, List.setIfInBounds_toArray, List.set_cons_zero, List.set_cons_succ]
  refine takeH (i := 4) (some 11) (.agg (nmA (lb y))) rfl rfl rfl (by kernel_rfl) (by kernel_rfl) (by kernel_rfl) (fun _ _ _ h => h) (load_row 51 _ rfl (w.heap.size + 1) (by kernel_rfl) 51 (nmA (lb y)) (0, 0) _ Try.underlying51 rfl (by kernel_rfl) (fun _ h => h.rows ((w.heap.size + 1), y) (by simp))) HSx.out ?_
  simp only [Act.put, List.setIfInBounds_toArray, List.set_cons_zero, List.set_cons_succ]
  refine wpAnyH_ready (rs := [3]) (by kernel_rfl) (by simp) ?_
  refine callH (some 10) rfl rfl rfl 42 _ _ rfl (fun _ _ => by go_simp) #[.int .i64 z, nmV x] (by kernel_rfl) ?_ AllReadyH.nil
  refine (HIn.out _).mono ?_
  rintro e u2 ⟨rfl, hb⟩
  refine ⟨_, rfl, HSx.out.on hb, ?_⟩
  have HSx := Lib.hid (HSx.out.on hb)
  have HO := Lib.hid (HO.out.on hb)
  clear hb
  simp only [Act.put, List.setIfInBounds_toArray, List.set_cons_zero, List.set_cons_succ]
  refine wpAnyH_ready (rs := [5]) (by kernel_rfl) (by simp) ?_
  refine callH (some 12) rfl rfl rfl 41 _ _ rfl (fun _ _ => by go_simp) #[.int .i64 z, nmV q, nmV y] (by kernel_rfl) ?_ AllReadyH.nil
  refine (HMt.out _).mono ?_
  rintro e u3 ⟨rfl, hb⟩
  refine ⟨_, rfl, HSx.out.on hb, ?_⟩
  have HSx := Lib.hid (HSx.out.on hb)
  have HO := Lib.hid (HO.out.on hb)
  clear hb
  simp only [Act.put, List.setIfInBounds_toArray, List.set_cons_zero, List.set_cons_succ]
  refine wpAnyH_ready (rs := [6]) (by kernel_rfl) (by simp) ?_
  refine storeH rfl rfl rfl 51 _ _ rfl (w.heap.size + 2) (nmA (lb R)) (by kernel_rfl) (by kernel_rfl) 51 _ HO.out (by kernel_rfl) (by rw [nmA_size, nmA_size]) (nmA_one _) (HSx.out.row (by intro p hp; simp only [List.mem_cons, List.not_mem_nil, or_false] at hp; first | (rcases hp with rfl | rfl <;> (show _ ≠ _; omega)) | (subst hp; show _ ≠ _; omega)) (by omega) _) ?_ AllReadyH.nil
  have HOn := Lib.hid (HO.out.set R)
  have HBn := Lib.hid (below_setRow HSx.out.below (show w.heap.size ≤ (w.heap.size + 2) by omega) (nmA (lb R)))
  clear HSx HO
  simp only [Act.put]
  refine wpAnyH_done (by kernel_rfl) ?_ _
  go_wp2_with (fail)
  refine bodyPost_ret (v := nmV R) ?_ rfl ?_
  · exact results_cell_row (fn := Try.f25) Try.results25 _ _ (w.heap.size + 2) 51 _ (0, 0) _ rfl HOn.out Try.underlying51 rfl (by kernel_rfl)
  · exact ⟨rfl, HBn.out⟩
end Go.Proofs.Nu
