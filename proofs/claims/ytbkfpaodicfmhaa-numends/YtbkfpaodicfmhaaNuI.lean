/-
  The document's own answer for layer 9: which texts are numbers.
-/
import Derived.Test.YtbkfpaodicfmhaaNuH
import Derived.Test.YtbkfpaodicfmhaaNuD
import Derived.Test.YtbkfpaodicfmhaaHeA
namespace Go.Proofs.Nu
open Go.RowKit
open Go.Proofs.Im (wpList_box_to words_heap words_one run_index_row)
open Go.Proofs.Sha (wordCells wordCells_get wordCells_size rowIs_of wpList_alloc_to wpList_build_to)
open Go.Proofs.Nt
open Go.Proofs.He
/-- Is it a number of a modulus? -/
def numOk (z : Int) (s : ByteArray) : Bool := (decide (0 ≤ z) && decide (z ≤ 2)) && (decide (s.size = 32) && decide (bn s < md z))
theorem numOk_iff (z : Int) (s : ByteArray) : numOk z s = true ↔ (0 ≤ z ∧ z ≤ 2) ∧ s.size = 32 ∧ bn s < md z := by unfold numOk; simp
/-- What Number answers as a number. -/
def numX (z : Int) (s : ByteArray) : Nat := if (0 ≤ z ∧ z ≤ 2) ∧ s.size = 32 then bn s else 0
theorem bn_lt (s : ByteArray) : bn s < B8 := by
  have h := bg_lt s 0 32
  rw [show (256 : Nat) ^ 32 = B8 by decide] at h
  exact h
/-- A number that is held, and what was there. -/
structure Nh (w w' : World) (g x : Nat) : Prop where
  row : Nm w' g x
  below : Below w.heap.size w w'
theorem Nh.on {w u v : World} {g x : Nat} (h : Nh w u g x) (hb : Below u.heap.size u v) : Nh w v g x := ⟨h.row.on hb, Lw.go_on h.below hb⟩
set_option maxHeartbeats 2000000 in
set_option maxRecDepth 20000 in
theorem number_no (z : Int) (s : ByteArray) (w : World) (h : ¬ ((0 ≤ z ∧ z ≤ 2) ∧ s.size = 32)) :
    Calls Try.prog 21 #[.int .i64 z, .string s] w fun e w' => e = .returned (.tuple #[nmV 0, .bool false]) ∧ Below w.heap.size w w' := by
  by_cases h0 : z < 0
  · have q0 : (z < 0) = True := eq_true h0
    clear h h0
    go_enter Try.func21, Try.ntmps21
    go_upto_region 0 with (fail)
    apply wp_region_lit
    refine wpList_alloc_to rfl 51 rfl (nmA fun _ => 0) w.heap.size rfl alloc8 ?_
    refine Lw.wpList_val rfl (.bool false) (w.alloc (.cells (nmA fun _ => 0) 51)) (by go_simp) ?_
    simp only [Act.put, List.setIfInBounds_toArray, List.set_cons_zero, List.set_cons_succ]
    have HO := Lib.hid (Nm.new0 w)
    have HB : Hid (Below w.heap.size w (w.alloc (.cells (nmA fun _ => 0) 51))) := (Below.refl _ _).alloc (Nat.le_refl _) _
    generalize w.alloc (.cells (nmA fun _ => 0) 51) = w1 at HO HB ⊢
    go_upto_region 2 with (fail)
    apply wp_region_lit
    refine wpList_build_to rfl 51 _ rfl (nmA (lb 0)) (by kernel_rfl) ?_
    refine wpList_store_row rfl 51 _ _ rfl w.heap.size (nmA (lb 0)) (by kernel_rfl) (by kernel_rfl) 51 _ HO.out (by kernel_rfl) rfl (nmA_one _) ?_
    simp only [Act.put, List.setIfInBounds_toArray, List.set_cons_zero, List.set_cons_succ]
    refine Lw.wpList_val rfl (.bool false) (w1.setRow w.heap.size (nmA (lb 0))) (by go_simp) ?_
    simp only [Act.put, List.setIfInBounds_toArray, List.set_cons_zero, List.set_cons_succ]
    go_wp2_with (fail)
    refine bodyPost_ret (v := .tuple #[nmV 0, .bool false]) ?_ rfl ?_
    · exact results_row_slot (fn := Try.f21) Try.results21 _ _ w.heap.size 51 _ (0, 0) _ _ rfl rfl (HO.out.set 0) Try.underlying51 rfl (by kernel_rfl)
    · exact ⟨rfl, below_setRow HB.out (Nat.le_refl _) _⟩
  · have q0 : (z < 0) = False := eq_false h0
    by_cases h1 : 2 < z
    · have q1 : (2 < z) = True := eq_true h1
      clear h h0 h1
      go_enter Try.func21, Try.ntmps21
      go_upto_region 0 with (fail)
      apply wp_region_lit
      refine wpList_alloc_to rfl 51 rfl (nmA fun _ => 0) w.heap.size rfl alloc8 ?_
      refine Lw.wpList_val rfl (.bool false) (w.alloc (.cells (nmA fun _ => 0) 51)) (by go_simp) ?_
      simp only [Act.put, List.setIfInBounds_toArray, List.set_cons_zero, List.set_cons_succ]
      have HO := Lib.hid (Nm.new0 w)
      have HB : Hid (Below w.heap.size w (w.alloc (.cells (nmA fun _ => 0) 51))) := (Below.refl _ _).alloc (Nat.le_refl _) _
      generalize w.alloc (.cells (nmA fun _ => 0) 51) = w1 at HO HB ⊢
      go_upto_region 2 with (fail)
      apply wp_region_lit
      refine wpList_build_to rfl 51 _ rfl (nmA (lb 0)) (by kernel_rfl) ?_
      refine wpList_store_row rfl 51 _ _ rfl w.heap.size (nmA (lb 0)) (by kernel_rfl) (by kernel_rfl) 51 _ HO.out (by kernel_rfl) rfl (nmA_one _) ?_
      simp only [Act.put, List.setIfInBounds_toArray, List.set_cons_zero, List.set_cons_succ]
      refine Lw.wpList_val rfl (.bool false) (w1.setRow w.heap.size (nmA (lb 0))) (by go_simp) ?_
      simp only [Act.put, List.setIfInBounds_toArray, List.set_cons_zero, List.set_cons_succ]
      go_wp2_with (fail)
      refine bodyPost_ret (v := .tuple #[nmV 0, .bool false]) ?_ rfl ?_
      · exact results_row_slot (fn := Try.f21) Try.results21 _ _ w.heap.size 51 _ (0, 0) _ _ rfl rfl (HO.out.set 0) Try.underlying51 rfl (by kernel_rfl)
      · exact ⟨rfl, below_setRow HB.out (Nat.le_refl _) _⟩
    · have q1 : (2 < z) = False := eq_false h1
      have q2 : ((s.size : Int) == 32) = false := by rw [beq_eq_false_iff_ne]; omega
      clear h h0 h1
      go_enter Try.func21, Try.ntmps21
      go_upto_region 0 with (fail)
      apply wp_region_lit
      refine wpList_alloc_to rfl 51 rfl (nmA fun _ => 0) w.heap.size rfl alloc8 ?_
      refine Lw.wpList_val rfl (.bool false) (w.alloc (.cells (nmA fun _ => 0) 51)) (by go_simp) ?_
      simp only [Act.put, List.setIfInBounds_toArray, List.set_cons_zero, List.set_cons_succ]
      have HO := Lib.hid (Nm.new0 w)
      have HB : Hid (Below w.heap.size w (w.alloc (.cells (nmA fun _ => 0) 51))) := (Below.refl _ _).alloc (Nat.le_refl _) _
      generalize w.alloc (.cells (nmA fun _ => 0) 51) = w1 at HO HB ⊢
      go_upto_region 2 with (fail)
      apply wp_region_lit
      refine wpList_build_to rfl 51 _ rfl (nmA (lb 0)) (by kernel_rfl) ?_
      refine wpList_store_row rfl 51 _ _ rfl w.heap.size (nmA (lb 0)) (by kernel_rfl) (by kernel_rfl) 51 _ HO.out (by kernel_rfl) rfl (nmA_one _) ?_
      simp only [Act.put, List.setIfInBounds_toArray, List.set_cons_zero, List.set_cons_succ]
      refine Lw.wpList_val rfl (.bool false) (w1.setRow w.heap.size (nmA (lb 0))) (by go_simp) ?_
      simp only [Act.put, List.setIfInBounds_toArray, List.set_cons_zero, List.set_cons_succ]
      go_wp2_with (fail)
      refine bodyPost_ret (v := .tuple #[nmV 0, .bool false]) ?_ rfl ?_
      · exact results_row_slot (fn := Try.f21) Try.results21 _ _ w.heap.size 51 _ (0, 0) _ _ rfl rfl (HO.out.set 0) Try.underlying51 rfl (by kernel_rfl)
      · exact ⟨rfl, below_setRow HB.out (Nat.le_refl _) _⟩
set_option maxHeartbeats 2000000 in
set_option maxRecDepth 20000 in
theorem number_yes (z : Int) (s : ByteArray) (w : World) (h : 0 ≤ z ∧ z ≤ 2) (hs : s.size = 32) :
    Calls Try.prog 21 #[.int .i64 z, .string s] w fun e w' => e = .returned (.tuple #[nmV (bn s), .bool (decide (bn s < md z))]) ∧ Below w.heap.size w w' := by
  have q0 : (z < 0) = False := eq_false (by omega)
  have q1 : (2 < z) = False := eq_false (by omega)
  have HGt := Lib.hid (fun u => get_any s u hs)
  have HMo := Lib.hid (fun u => modulus_any z u)
  have HLe := Lib.hid (fun u => less_any (bn s) (md z) u (bn_lt s) (md_lt z))
  generalize md z = m at HMo HLe ⊢
  generalize bn s = X at HGt HLe ⊢
  clear h
  go_enter Try.func21, Try.ntmps21
  go_upto_region 0 with (fail)
  apply wp_region_lit
  refine wpList_alloc_to rfl 51 rfl (nmA fun _ => 0) w.heap.size rfl alloc8 ?_
  refine Lw.wpList_val rfl (.bool false) (w.alloc (.cells (nmA fun _ => 0) 51)) (by go_simp) ?_
  simp only [Act.put, List.setIfInBounds_toArray, List.set_cons_zero, List.set_cons_succ]
  have HO := Lib.hid (Nm.new0 w)
  have HB : Hid (Below w.heap.size w (w.alloc (.cells (nmA fun _ => 0) 51))) := (Below.refl _ _).alloc (Nat.le_refl _) _
  generalize w.alloc (.cells (nmA fun _ => 0) 51) = w1 at HO HB ⊢
  go_upto_region 3 with (fail)
  apply wp_region_lit
  refine Lw.wpList_val rfl (.string s) w1 (by go_simp) ?_
  simp only [Act.put, List.setIfInBounds_toArray, List.set_cons_zero, List.set_cons_succ]
  refine Lw.wpList_callTo (some 20) rfl rfl 36 _ _ rfl (fun _ _ => by go_simp) #[.string s] (by kernel_rfl) ?_
  refine (HGt.out _).mono ?_
  rintro e u1 ⟨rfl, hb⟩
  refine ⟨_, rfl, ?_⟩
  have HO := Lib.hid (HO.out.on hb)
  have HB := Lib.hid (Lw.go_on HB.out hb)
  clear hb
  refine wpList_alloc_to rfl 51 rfl (nmA fun _ => 0) u1.heap.size rfl alloc8 ?_
  refine wpList_store_row rfl 51 _ _ rfl u1.heap.size (nmA (lb X)) (by kernel_rfl) (by kernel_rfl) 51 _ (heap_alloc_last _ _) (by kernel_rfl) (by rw [nmA_size, nmA_size]) (nmA_one _) ?_
  rw [World.setRow_alloc_new]
  simp only [Act.put, List.setIfInBounds_toArray, List.set_cons_zero, List.set_cons_succ]
  have HX := Lib.hid (Nm.new u1 X)
  have HG : Hid (w.heap.size < u1.heap.size) := HO.out.lt
  have HO := Lib.hid (HO.out.alloc (.cells (nmA (lb X)) 51))
  have HB : Hid (Below w.heap.size w (u1.alloc (.cells (nmA (lb X)) 51))) := HB.out.alloc HB.out.size _
  generalize u1.alloc (.cells (nmA (lb X)) 51) = w2 at HX HO HB ⊢
  generalize u1.heap.size = gx at HX HG ⊢
  go_upto_region 4 with (fail)
  have HSx : Hid (Nh w w2.drew gx X) := ⟨HX.out.on (Below.refl _ _).drew, HB.out.drew⟩
  have HO := Lib.hid (HO.out.on (Below.refl _ _).drew)
  clear HX HB
  refine wp_region_held (S := fun u => Nh w u gx X) (by kernel_rfl) ?_
  change wpAnyH _ _ _ _ _ _ _ _ w2.drew
  refine takeH (i := 0) (some 21) (.agg (nmA (lb X))) rfl rfl rfl (by kernel_rfl) (by kernel_rfl) (by kernel_rfl) (fun _ _ _ h => h) (load_row 51 _ rfl gx (by kernel_rfl) 51 (nmA (lb X)) (0, 0) _ Try.underlying51 rfl (by kernel_rfl) (fun w h => h.1)) HSx.out ?_
  simp only [Act.put, List.setIfInBounds_toArray, List.set_cons_zero, List.set_cons_succ]
  refine takeH (i := 1) (some 22) (.agg (nmA (lb X))) rfl rfl rfl (by kernel_rfl) (by kernel_rfl) (by kernel_rfl) (fun _ _ _ h => h) (load_row 51 _ rfl gx (by kernel_rfl) 51 (nmA (lb X)) (0, 0) _ Try.underlying51 rfl (by kernel_rfl) (fun w h => h.1)) HSx.out ?_
  simp only [Act.put, List.setIfInBounds_toArray, List.set_cons_zero, List.set_cons_succ]
  refine takeH (i := 2) (some 23) (.int .i64 z) rfl rfl rfl (by kernel_rfl) (by kernel_rfl) (by kernel_rfl) (fun _ _ _ h => h) (fun w _ => by go_simp) HSx.out ?_
  simp only [Act.put, List.setIfInBounds_toArray, List.set_cons_zero, List.set_cons_succ]
  refine wpAnyH_ready (rs := [3]) (by kernel_rfl) (by simp) ?_
  refine callH (some 24) rfl rfl rfl 38 _ _ rfl (fun _ _ => by go_simp) #[.int .i64 z] (by kernel_rfl) ?_ AllReadyH.nil
  refine (HMo.out _).mono ?_
  rintro e u2 ⟨rfl, hb⟩
  refine ⟨_, rfl, HSx.out.on hb, ?_⟩
  have HSx := Lib.hid (HSx.out.on hb)
  have HO := Lib.hid (HO.out.on hb)
  clear hb
  simp only [Act.put, List.setIfInBounds_toArray, List.set_cons_zero, List.set_cons_succ]
  refine wpAnyH_ready (rs := [4]) (by kernel_rfl) (by simp) ?_
  refine callH (some 25) rfl rfl rfl 37 _ _ rfl (fun _ _ => by go_simp) #[nmV X, nmV m] (by kernel_rfl) ?_ AllReadyH.nil
  refine (HLe.out _).mono ?_
  rintro e u3 ⟨rfl, hb⟩
  refine ⟨_, rfl, HSx.out.on hb, ?_⟩
  have HSx := Lib.hid (HSx.out.on hb)
  have HO := Lib.hid (HO.out.on hb)
  clear hb
  simp only [Act.put, List.setIfInBounds_toArray, List.set_cons_zero, List.set_cons_succ]
  refine wpAnyH_ready (rs := [5]) (by kernel_rfl) (by simp) ?_
  refine storeH rfl rfl rfl 51 _ _ rfl w.heap.size (nmA (lb X)) (by kernel_rfl) (by kernel_rfl) 51 _ HO.out (by kernel_rfl) (by rw [nmA_size, nmA_size]) (nmA_one _) ⟨HSx.out.row.ne (Nat.ne_of_gt HG.out) _, below_setRow HSx.out.below (Nat.le_refl _) _⟩ ?_ AllReadyH.nil
  have HOn := Lib.hid (HO.out.set X)
  have HSx : Hid (Nh w (u3.setRow w.heap.size (nmA (lb X))) gx X) := ⟨HSx.out.row.ne (Nat.ne_of_gt HG.out) _, below_setRow HSx.out.below (Nat.le_refl _) _⟩
  clear HO
  simp only [Act.put]
  refine takeH (i := 6) (some 5) (.bool (decide (X < m))) rfl rfl rfl (by kernel_rfl) (by kernel_rfl) (by kernel_rfl) (fun _ _ _ h => h) (fun w _ => by go_simp) HSx.out ?_
  simp only [Act.put, List.setIfInBounds_toArray, List.set_cons_zero, List.set_cons_succ]
  refine wpAnyH_done (by kernel_rfl) ?_ _
  go_wp2_with (fail)
  refine bodyPost_ret (v := .tuple #[nmV X, .bool (decide (X < m))]) ?_ rfl ?_
  · exact results_row_slot (fn := Try.f21) Try.results21 _ _ w.heap.size 51 _ (0, 0) _ _ rfl rfl HOn.out Try.underlying51 rfl (by kernel_rfl)
  · exact ⟨rfl, HSx.out.below⟩
theorem number_any (z : Int) (s : ByteArray) (w : World) :
    Calls Try.prog 21 #[.int .i64 z, .string s] w fun e w' => e = .returned (.tuple #[nmV (numX z s), .bool (numOk z s)]) ∧ Below w.heap.size w w' := by
  unfold numX numOk
  by_cases h : (0 ≤ z ∧ z ≤ 2) ∧ s.size = 32
  · rw [if_pos h, decide_eq_true h.1.1, decide_eq_true h.1.2, decide_eq_true h.2]
    exact number_yes z s w h.1 h.2
  · rw [if_neg h]
    have e : ((decide (0 ≤ z) && decide (z ≤ 2)) && (decide (s.size = 32) && decide (bn s < md z))) = false := by
      rw [Bool.eq_false_iff]
      intro c
      simp only [Bool.and_eq_true, decide_eq_true_iff] at c
      exact h ⟨c.1, c.2.1⟩
    rw [e]
    exact number_no z s w h
end Go.Proofs.Nu
