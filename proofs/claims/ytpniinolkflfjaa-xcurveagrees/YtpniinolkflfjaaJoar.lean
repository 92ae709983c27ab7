/-
  The developers' numbers: the lower half of a product, a bit, whether a number is 0.
-/
import Derived.Test.YtpniinolkflfjaaJoaq
import Derived.Laws.CopyRow
namespace Go.Proofs.Nd
open Go.RowKit
open Go.Proofs.Im (wpList_box_to words_heap words_one run_index_row)
open Go.Proofs.Sha (wordCells wordCells_get wordCells_size rowIs_of wpList_alloc_to wpList_build_to)
open Go.Proofs.Nt
open Go.Proofs.Nu (nmL nmA nmV lt8 nmA_get nmA_congr nmA_one nmA_size results_row_slot B8 b8 nv8 nmA_lb nv_lt8)
theorem slice_all (w : World) (g : Nat) :
    (Instr.sliceAt 38 (.pointer (some ⟨g, 0, none⟩)) none none none).run Try.prog w = .ok (.slice (some ⟨g, 0, none⟩) 8 8) w := by
  have hz : ∀ w, (sizeOf 36).run Try.prog w = .ok 1 w := by intro w; kernel_rfl
  have hu : Try.prog.underlying 38 = some (.array 8 36) := Try.underlying38
  have h4 : ¬ 8 = 0 := by decide
  simp only [Instr.sliceAt, Instr.sureAddr, Sem.run_bind, Sem.run_pure, Result.andThen_ok, run_underlying hu, Instr.sliceBounds, hz, if_false, Nat.mul_one, Addr.add_mid, h4, Nat.sub_zero, Nat.add_zero]
theorem slice_low (w : World) (g : Nat) :
    (Instr.sliceAt 83 (.pointer (some ⟨g, 0, none⟩)) none (some (.int .i64 8)) none).run Try.prog w = .ok (.slice (some ⟨g, 0, none⟩) 8 16) w := by
  have hz : ∀ w, (sizeOf 36).run Try.prog w = .ok 1 w := by intro w; kernel_rfl
  have hu : Try.prog.underlying 83 = some (.array 16 36) := Try.underlying83
  have b1 : ∀ w, (Instr.sliceBound (.int .i64 8) 16 .sliceAlen).run Try.prog w = .ok 8 w := fun w => run_sliceBound (P := Try.prog) (w := w) .i64 8 16 .sliceAlen (by omega) (by omega)
  have h4 : ¬ 16 = 0 := by decide
  simp only [Instr.sliceAt, Instr.sureAddr, Sem.run_bind, Sem.run_pure, Result.andThen_ok, run_underlying hu, Instr.sliceBounds, b1, hz, Bool.false_eq_true, if_false, Nat.mul_one, Addr.add_mid, h4, Nat.sub_zero, Nat.add_zero]
theorem copy_low (w : World) (g k : Nat) (t : Nat → Nat) (H : RW w g t) (K : RP w k (fun _ => 0)) :
    (Builtin.copy_ #[89, 89] 3 #[.slice (some ⟨k, 0, none⟩) 8 8, .slice (some ⟨g, 0, none⟩) 8 16]).run Try.prog w = .ok (.int .i64 8) (w.setRow k (nmA t)) := by
  refine run_copy_row (P := Try.prog) w 89 89 3 36 k 0 8 8 ⟨g, 0, none⟩ 8 16 (nmA fun _ => 0) 38 (nmA t).toList Try.underlying89 (by kernel_rfl) K.heap rfl (fun j v hv => ?_) (Nat.le_refl 8) (fun v hv => ?_)
  · have hj : j < 8 := (List.getElem?_eq_some_iff.1 hv).1
    have hadd : (⟨g, 0, none⟩ : Addr).add j = ⟨g, j, none⟩ := by unfold Addr.add; split <;> simp_all
    rw [hadd, H.at_ j (t j) (by omega) rfl, ← hv, Array.getElem?_toList, nmA_get t j hj]
  · exact (List.all_eq_true.1 (by have := nmA_one t; rwa [← Array.all_toList] at this)) v hv
set_option maxHeartbeats 2000000 in
theorem low_any (g : Nat) (t : Nat → Nat) (w : World) (H : RW w g t) :
    Calls Try.prog 53 #[.pointer (some ⟨g, 0, none⟩)] w fun e u => e = .returned (.agg (nmA t)) ∧ Below w.heap.size w u := by
  have hgl := H.lt
  go_enter Try.func53, Try.ntmps53
  go_upto_region 0 with (fail)
  apply wp_region_lit
  refine wpList_alloc_to rfl 38 rfl (nmA fun _ => 0) w.heap.size rfl alloc8 ?_
  go_upto_region 1 with (fail)
  apply wp_region_lit
  refine wpList_alloc_to rfl 38 rfl (nmA fun _ => 0) (w.heap.size + 1) (by simp) alloc8 ?_
  simp only [Act.put, List.setIfInBounds_toArray, List.set_cons_zero, List.set_cons_succ]
  have HM := Lib.hid (dup_new w)
  have HW : Hid (RW ((w.alloc (.cells (nmA fun _ => 0) 38)).alloc (.cells (nmA fun _ => 0) 38)) g t) := World.rowIs.alloc (World.rowIs.alloc H _) _
  generalize (w.alloc (.cells (nmA fun _ => 0) 38)).alloc (.cells (nmA fun _ => 0) 38) = w1 at HM HW ⊢
  clear H
  have hs1 : ∀ W, (Instr.sliceAt 38 (.pointer (some ⟨w.heap.size + 1, 0, none⟩)) none none none).run Try.prog W = .ok (.slice (some ⟨w.heap.size + 1, 0, none⟩) 8 8) W := fun W => slice_all W _
  have hs2 : ∀ W, (Instr.sliceAt 83 (.pointer (some ⟨g, 0, none⟩)) none (some (.int .i64 8)) none).run Try.prog W = .ok (.slice (some ⟨g, 0, none⟩) 8 16) W := fun W => slice_low W g
  go_wp2_with (fail)
  go_still_tail 4, (by kernel_rfl)
  change wpList _ _ _ _ _ w1.drew
  have HM : Hid (Dup w w1.drew (fun _ => 0)) := HM.out.drewN 1
  have HW : Hid (RW w1.drew g t) := World.rowIs.drew HW.out
  clear hs1 hs2
  generalize w1.drew = w2 at HM HW ⊢
  have hcp := copy_low w2 g (w.heap.size + 1) t HW.out HM.out.1
  have HN1 : Hid ((w2.setRow (w.heap.size + 1) (nmA t)).heap[w.heap.size + 1]? = some (.cells (nmA t) 38 (0, 0))) := setRow_heap _ _ _ _ _ _ HM.out.1.heap
  have HO1 : Hid ((w2.setRow (w.heap.size + 1) (nmA t)).heap[w.heap.size]? = some (.cells (nmA fun _ => 0) 38 (0, 0))) := by
    show _ = _
    rw [(below_setRow (Below.refl (w.heap.size + 1) w2) (Nat.le_refl _) (nmA t)).block _ (by omega)]; exact HM.out.2.1.heap
  have HB1 : Hid (Below w.heap.size w (w2.setRow (w.heap.size + 1) (nmA t))) := below_setRow HM.out.2.2 (by omega) _
  generalize hA : nmA t = A at hcp HN1 HO1 HB1 ⊢
  generalize w2.setRow (w.heap.size + 1) A = w3 at hcp HN1 HO1 HB1
  clear HM HW hgl
  go_upto_region 3 with (fail)
  clear hcp
  apply wp_region_lit
  refine wpList_load_row rfl 38 _ rfl (w.heap.size + 1) (by kernel_rfl) 38 A (0, 0) _ HN1.out Try.underlying38 rfl (by rw [← hA]; kernel_rfl) ?_
  refine wpList_store_row rfl 38 _ _ rfl w.heap.size A (by kernel_rfl) (by kernel_rfl) 38 _ HO1.out (by rw [← hA]; kernel_rfl) (by rw [← hA, nmA_size, nmA_size]) (by rw [← hA]; exact nmA_one _) ?_
  simp only [Act.put, List.setIfInBounds_toArray, List.set_cons_zero, List.set_cons_succ]
  go_wp2_with (fail)
  refine bodyPost_ret (v := .agg A) ?_ rfl ?_
  · exact results_cell_row (fn := Try.f53) Try.results53 _ _ w.heap.size 38 _ (0, 0) _ rfl (setRow_heap _ _ _ _ _ _ HO1.out) Try.underlying38 rfl (by rw [← hA]; kernel_rfl)
  · exact ⟨by rw [hA], below_setRow HB1.out (Nat.le_refl _) _⟩
theorem bit_word (x i : Nat) : lb x (i / 32) / 2 ^ (i % 32) % 2 = x / 2 ^ i % 2 := by
  unfold lb
  have e : x / 2 ^ i = x / 2 ^ (32 * (i / 32)) / 2 ^ (i % 32) := by rw [Nat.div_div_eq_div_mul, ← Nat.pow_add]; congr 2; omega
  rw [e]
  generalize x / 2 ^ (32 * (i / 32)) = y
  have hr : i % 32 < 32 := Nat.mod_lt _ (by decide)
  generalize i % 32 = r at hr
  have e2 : (4294967296 : Nat) = 2 ^ r * 2 ^ (32 - r) := by rw [← Nat.pow_add, show r + (32 - r) = 32 by omega]
  rw [e2, Nat.mod_mul_right_div_self]
  obtain ⟨k, hk⟩ : ∃ k, 32 - r = k + 1 := ⟨31 - r, by omega⟩
  rw [hk, Nat.pow_succ, Nat.mul_comm, Nat.mod_mul_right_mod]
set_option maxHeartbeats 1000000 in
theorem bit_any (x i : Nat) (w : World) (hi : i < 256) :
    Calls Try.prog 56 #[nmV x, .int .i64 (i : Nat)] w fun e u => e = .returned (.int .u32 (x / 2 ^ i % 2 : Nat)) ∧ Below w.heap.size w u := by
  have HE := Lib.hid (bit_word x i)
  generalize x / 2 ^ i % 2 = R at HE ⊢
  go_enter Try.func56, Try.ntmps56
  go_upto_region 0 with (fail)
  apply wp_region_lit
  refine wpList_box_to rfl 38 _ rfl (nmA (lb x)) (by kernel_rfl) w.heap.size rfl ?_
  refine Lw.wpList_val rfl (.int .u32 0) (w.alloc (.cells (nmA (lb x)) 38)) (by go_simp) ?_
  simp only [Act.put, List.setIfInBounds_toArray, List.set_cons_zero, List.set_cons_succ]
  have HX := Lib.hid (RP.new w (lb x))
  have HB : Hid (Below w.heap.size w (w.alloc (.cells (nmA (lb x)) 38))) := (Below.refl _ _).alloc (Nat.le_refl _) _
  generalize w.alloc (.cells (nmA (lb x)) 38) = w1 at HX HB ⊢
  generalize nmV x = Av
  obtain ⟨q, hq⟩ : ∃ q, i / 32 = q := ⟨_, rfl⟩
  obtain ⟨r, hr⟩ : ∃ r, i % 32 = r := ⟨_, rfl⟩
  rw [hq, hr] at HE
  have q8 : q < 8 := by omega
  have r32 : r < 32 := by omega
  have t1 : IntKind.i64.wrap ((i : Int) / 32) = (q : Int) := by rw [IntWalk.i64_in _ (by omega)]; omega
  have t2 : (i : Int) / 32 = (q : Int) := by omega
  have t3 : (i : Int) % 32 = (r : Int) := by omega
  have t4 : (i : Int).tmod 32 = (r : Int) := by rw [Int.tmod_eq_emod_of_nonneg (by omega)]; exact t3
  have qb : (q : Int) < 8 := by omega
  have rb : (r : Int) < 32 := by omega
  have xc := HX.out.at_ q (lb x q) q8 rfl
  have l1 := lb_lt x q
  generalize lb x q = L at xc l1 HE
  have e1 : bits .and .u32 ((L : Int) / 2 ^ r) 1 = (R : Int) := by
    have e0 : (L : Int) / 2 ^ r = ((L / 2 ^ r : Nat) : Int) := by rw [Int.natCast_ediv, Int.natCast_pow]; rfl
    have h0 : L / 2 ^ r < 4294967296 := Nat.lt_of_le_of_lt (Nat.div_le_self _ _) l1
    have h1 := u32_and_nat (L / 2 ^ r) 1 h0 (by decide)
    rw [Nat.and_one_is_mod, HE.out] at h1
    rw [e0]; exact h1
  clear hi hq hr q8 r32
  go_wp2_with (fail)
  go_ret
  exact ⟨rfl, HB.out⟩
end Go.Proofs.Nd
