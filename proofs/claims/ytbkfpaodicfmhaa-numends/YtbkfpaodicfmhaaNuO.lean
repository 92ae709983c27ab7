/-
  The document's own answer for layer 9: inverses of texts, at every input.
-/
import Derived.Test.YtbkfpaodicfmhaaNuN
import Derived.ChangeKeysEq
namespace Go.Proofs.Nu
open Go.RowKit
open Go.Proofs.Im (wpList_box_to words_heap words_one run_index_row)
open Go.Proofs.Sha (wordCells wordCells_get wordCells_size rowIs_of wpList_alloc_to wpList_build_to)
open Go.Proofs.Nt
theorem items_eq (w : World) (D : Nat) (d e : Nat → Nat) : ∀ is : List Nat, (∀ i ∈ is, i < 8) → (Op.eqItems (D + 1) 46 1 (nmA d) (nmA e) is).run Try.prog w = .ok (is.all fun i => (d i : Int) == (e i : Int)) w
  | [], _ => rfl
  | i :: is, h => by
    have hi := h i (by simp)
    have ih := items_eq w D d e is fun j hj => h j (by simp [hj])
    have p1 : (part 46 (nmA d) (i * 1)).run Try.prog w = .ok (.int .u32 (d i : Nat)) w := run_part_plain w (by kernel_rfl) (by rw [Nat.mul_one]; exact nmA_get d i hi)
    have p2 : (part 46 (nmA e) (i * 1)).run Try.prog w = .ok (.int .u32 (e i : Nat)) w := run_part_plain w (by kernel_rfl) (by rw [Nat.mul_one]; exact nmA_get e i hi)
    simp only [Op.eqItems, Sem.run_bind, p1, p2, Result.andThen_ok, run_equalIn_int w D 46 .u32 .u32 _ _ Try.underlying46, List.all_cons]
    cases hb : ((d i : Int) == (e i : Int))
    · simp
    · simp only [Bool.not_true, Bool.false_eq_true, if_false, Bool.true_and]
      exact ih
theorem zero_iff {x : Nat} (hx : x < B8) : ((List.range 8).all fun i => ((lb x i : Nat) : Int) == ((lb 0 i : Nat) : Int)) = decide (x = 0) := by
  by_cases h : x = 0
  · subst h
    rw [decide_eq_true rfl, List.all_eq_true]
    intro i _
    exact beq_self_eq_true _
  · rw [decide_eq_false h, Bool.eq_false_iff]
    intro hc
    rw [List.all_eq_true] at hc
    refine h ?_
    rw [← nv8 hx, nv_congr (e := fun _ => 0) 8 fun i hi => ?_]
    · decide
    · have := hc i (List.mem_range.2 hi)
      rw [beq_iff_eq] at this
      have e0 : lb 0 i = 0 := by unfold lb; rw [Nat.zero_div]
      rw [e0] at this
      omega
theorem eql_zero (w : World) {x : Nat} (hx : x < B8) : (Op.equalIn 10000 51 (.agg (nmA (lb x))) (.agg (nmA (lb 0)))).run Try.prog w = .ok (decide (x = 0)) w := by
  obtain ⟨i, hi⟩ : ∃ i, Try.prog.info? 46 = some i := info_of_underlying Try.underlying46
  have h := run_equalIn_array (P := Try.prog) w 9999 (nmA (lb x)) (nmA (lb 0)) Try.underlying51 hi
  rw [show Try.prog.cellsOf 46 = 1 by kernel_rfl, items_eq w 9998 (lb x) (lb 0) (List.range 8) (fun i hi => List.mem_range.1 hi), zero_iff hx] at h
  exact h
/-- Is it a number that has an inverse? -/
def i9Ok (z : Int) (a : ByteArray) : Bool := numOk z a && !decide (bn a = 0)
def i9S (z : Int) (a : ByteArray) : ByteArray := bif i9Ok z a then t32 (bn a ^ (md z - 2) % md z) else ⟨#[]⟩
def i9E (z : Int) (a : ByteArray) : Int := bif i9Ok z a then 0 else 900
set_option maxHeartbeats 2000000 in
set_option maxRecDepth 20000 in
theorem rinv_any (z : Int) (a : ByteArray) (w : World) : Calls Try.prog 13 #[.int .i64 z, .string a] w fun e w' => e = .returned (.tuple #[.string (i9S z a), .int .i64 (i9E z a)]) ∧ Below w.heap.size w w' := by
  have HA := Lib.hid (fun u => number_any z a u)
  unfold i9S i9E i9Ok
  cases hok : numOk z a
  · rw [hok] at HA
    rw [Bool.false_and]
    simp only [cond_false]
    generalize numX z a = X at HA
    clear hok
    go_enter Try.func13, Try.ntmps13
    have HB : Hid (Below w.heap.size w w) := Below.refl _ _
    go_upto_region 1 with (fail)
    apply wp_region_lit
    refine Lw.wpList_val rfl (.int .i64 z) w (by go_simp) ?_
    refine Lw.wpList_val rfl (.string a) w (by go_simp) ?_
    simp only [Act.put, List.setIfInBounds_toArray, List.set_cons_zero, List.set_cons_succ]
    refine Lw.wpList_callTo (some 11) rfl rfl 21 _ _ rfl (fun _ _ => by go_simp) #[.int .i64 z, .string a] (by kernel_rfl) ?_
    refine (HA.out _).mono ?_
    rintro e u1 ⟨rfl, hb⟩
    refine ⟨_, rfl, ?_⟩
    have HB := Lib.hid (Lw.go_on HB.out hb)
    clear hb
    refine Lw.wpList_val rfl (.tuple #[nmV X, .bool false]) u1 (by go_simp) ?_
    refine Lw.wpList_val rfl (nmV X) u1 (by go_simp) ?_
    refine Lw.wpList_val rfl (.bool false) u1 (by go_simp) ?_
    refine wpList_alloc_to rfl 51 rfl (nmA fun _ => 0) u1.heap.size rfl alloc8 ?_
    refine wpList_store_row rfl 51 _ _ rfl u1.heap.size (nmA (lb X)) (by kernel_rfl) (by kernel_rfl) 51 _ (heap_alloc_last _ _) (by kernel_rfl) (by rw [nmA_size, nmA_size]) (nmA_one _) ?_
    rw [World.setRow_alloc_new]
    refine Lw.wpList_val rfl (.bool false) (u1.alloc (.cells (nmA (lb X)) 51)) (by go_simp) ?_
    simp only [Act.put, List.setIfInBounds_toArray, List.set_cons_zero, List.set_cons_succ]
    have HX := Lib.hid (Nm.new u1 X)
    have HB : Hid (Below w.heap.size w (u1.alloc (.cells (nmA (lb X)) 51))) := HB.out.alloc HB.out.size _
    generalize u1.alloc (.cells (nmA (lb X)) 51) = w2 at HX HB ⊢
    generalize u1.heap.size = gx at HX ⊢
    go_wp2_with (fail)
    go_ret2
    exact ⟨rfl, HB.out⟩
  · obtain ⟨hx, hl⟩ := numX_ok hok
    rw [hok, hx] at HA
    have HQ := Lib.hid (fun u => eql_zero u (Nat.lt_trans hl (md_lt z)))
    have HIv := Lib.hid (fun u => inv_any z (bn a) u hl)
    rw [Bool.true_and]
    generalize bn a = X at HA HQ HIv ⊢
    clear hok hx hl
    by_cases h0 : X = 0
    · rw [decide_eq_true h0] at HQ ⊢
      simp only [Bool.not_true, cond_false]
      clear h0 HIv
      go_enter Try.func13, Try.ntmps13
      have HB : Hid (Below w.heap.size w w) := Below.refl _ _
      go_upto_region 1 with (fail)
      apply wp_region_lit
      refine Lw.wpList_val rfl (.int .i64 z) w (by go_simp) ?_
      refine Lw.wpList_val rfl (.string a) w (by go_simp) ?_
      simp only [Act.put, List.setIfInBounds_toArray, List.set_cons_zero, List.set_cons_succ]
      refine Lw.wpList_callTo (some 11) rfl rfl 21 _ _ rfl (fun _ _ => by go_simp) #[.int .i64 z, .string a] (by kernel_rfl) ?_
      refine (HA.out _).mono ?_
      rintro e u1 ⟨rfl, hb⟩
      refine ⟨_, rfl, ?_⟩
      have HB := Lib.hid (Lw.go_on HB.out hb)
      clear hb
      refine Lw.wpList_val rfl (.tuple #[nmV X, .bool true]) u1 (by go_simp) ?_
      refine Lw.wpList_val rfl (nmV X) u1 (by go_simp) ?_
      refine Lw.wpList_val rfl (.bool true) u1 (by go_simp) ?_
      refine wpList_alloc_to rfl 51 rfl (nmA fun _ => 0) u1.heap.size rfl alloc8 ?_
      refine wpList_store_row rfl 51 _ _ rfl u1.heap.size (nmA (lb X)) (by kernel_rfl) (by kernel_rfl) 51 _ (heap_alloc_last _ _) (by kernel_rfl) (by rw [nmA_size, nmA_size]) (nmA_one _) ?_
      rw [World.setRow_alloc_new]
      refine Lw.wpList_val rfl (.bool true) (u1.alloc (.cells (nmA (lb X)) 51)) (by go_simp) ?_
      simp only [Act.put, List.setIfInBounds_toArray, List.set_cons_zero, List.set_cons_succ]
      have HX := Lib.hid (Nm.new u1 X)
      have HB : Hid (Below w.heap.size w (u1.alloc (.cells (nmA (lb X)) 51))) := HB.out.alloc HB.out.size _
      generalize u1.alloc (.cells (nmA (lb X)) 51) = w2 at HX HB ⊢
      generalize u1.heap.size = gx at HX ⊢
      go_upto_region 2 with (fail)
      apply wp_region_lit
      refine Lw.wpList_val rfl (.bool true) w2 (by go_simp) ?_
      refine Lw.wpList_val rfl (.bool false) w2 (by go_simp) ?_
      refine Lw.wpList_val rfl (.bool false) w2 (by go_simp) ?_
      simp only [Act.put, List.setIfInBounds_toArray, List.set_cons_zero, List.set_cons_succ]
      refine wpList_on (by rfl) ?_
      refine wpList_load_row rfl 51 _ rfl gx (by kernel_rfl) 51 (nmA (lb X)) (0, 0) _ HX.out Try.underlying51 rfl (by kernel_rfl) ?_
      simp only [Act.put, List.setIfInBounds_toArray, List.set_cons_zero, List.set_cons_succ]
      refine wpList_on (by rfl) ?_
      refine wpList_build_to rfl 51 _ rfl (nmA (lb 0)) (by kernel_rfl) ?_
      simp only [Act.put, List.setIfInBounds_toArray, List.set_cons_zero, List.set_cons_succ]
      have hq := HQ.out w2
      refine wpList_on (by rfl) ?_
      refine Lw.wpList_val rfl (.bool true) w2 (by simp only [execOp, Act.eval]; go_simp) ?_
      simp only [Act.put, List.setIfInBounds_toArray, List.set_cons_zero, List.set_cons_succ]
      refine Lw.wpList_val rfl (.bool true) w2 (by go_simp) ?_
      simp only [Act.put, List.setIfInBounds_toArray, List.set_cons_zero, List.set_cons_succ]
      go_wp2_with (fail)
      go_ret2
      exact ⟨rfl, HB.out⟩
    · rw [decide_eq_false h0] at HQ ⊢
      simp only [Bool.not_false, cond_true]
      have HPu := Lib.hid (fun u => put_any (X ^ (md z - 2) % md z) u)
      generalize X ^ (md z - 2) % md z = R at HIv HPu ⊢
      clear h0
      go_enter Try.func13, Try.ntmps13
      have HB : Hid (Below w.heap.size w w) := Below.refl _ _
      go_upto_region 1 with (fail)
      apply wp_region_lit
      refine Lw.wpList_val rfl (.int .i64 z) w (by go_simp) ?_
      refine Lw.wpList_val rfl (.string a) w (by go_simp) ?_
      simp only [Act.put, List.setIfInBounds_toArray, List.set_cons_zero, List.set_cons_succ]
      refine Lw.wpList_callTo (some 11) rfl rfl 21 _ _ rfl (fun _ _ => by go_simp) #[.int .i64 z, .string a] (by kernel_rfl) ?_
      refine (HA.out _).mono ?_
      rintro e u1 ⟨rfl, hb⟩
      refine ⟨_, rfl, ?_⟩
      have HB := Lib.hid (Lw.go_on HB.out hb)
      clear hb
      refine Lw.wpList_val rfl (.tuple #[nmV X, .bool true]) u1 (by go_simp) ?_
      refine Lw.wpList_val rfl (nmV X) u1 (by go_simp) ?_
      refine Lw.wpList_val rfl (.bool true) u1 (by go_simp) ?_
      refine wpList_alloc_to rfl 51 rfl (nmA fun _ => 0) u1.heap.size rfl alloc8 ?_
      refine wpList_store_row rfl 51 _ _ rfl u1.heap.size (nmA (lb X)) (by kernel_rfl) (by kernel_rfl) 51 _ (heap_alloc_last _ _) (by kernel_rfl) (by rw [nmA_size, nmA_size]) (nmA_one _) ?_
      rw [World.setRow_alloc_new]
      refine Lw.wpList_val rfl (.bool true) (u1.alloc (.cells (nmA (lb X)) 51)) (by go_simp) ?_
      simp only [Act.put, List.setIfInBounds_toArray, List.set_cons_zero, List.set_cons_succ]
      have HX := Lib.hid (Nm.new u1 X)
      have HB : Hid (Below w.heap.size w (u1.alloc (.cells (nmA (lb X)) 51))) := HB.out.alloc HB.out.size _
      generalize u1.alloc (.cells (nmA (lb X)) 51) = w2 at HX HB ⊢
      generalize u1.heap.size = gx at HX ⊢
      go_upto_region 2 with (fail)
      apply wp_region_lit
      refine Lw.wpList_val rfl (.bool true) w2 (by go_simp) ?_
      refine Lw.wpList_val rfl (.bool false) w2 (by go_simp) ?_
      refine Lw.wpList_val rfl (.bool false) w2 (by go_simp) ?_
      simp only [Act.put, List.setIfInBounds_toArray, List.set_cons_zero, List.set_cons_succ]
      refine wpList_on (by rfl) ?_
      refine wpList_load_row rfl 51 _ rfl gx (by kernel_rfl) 51 (nmA (lb X)) (0, 0) _ HX.out Try.underlying51 rfl (by kernel_rfl) ?_
      simp only [Act.put, List.setIfInBounds_toArray, List.set_cons_zero, List.set_cons_succ]
      refine wpList_on (by rfl) ?_
      refine wpList_build_to rfl 51 _ rfl (nmA (lb 0)) (by kernel_rfl) ?_
      simp only [Act.put, List.setIfInBounds_toArray, List.set_cons_zero, List.set_cons_succ]
      have hq := HQ.out w2
      refine wpList_on (by rfl) ?_
      refine Lw.wpList_val rfl (.bool false) w2 (by simp only [execOp, Act.eval]; go_simp) ?_
      simp only [Act.put, List.setIfInBounds_toArray, List.set_cons_zero, List.set_cons_succ]
      refine Lw.wpList_val rfl (.bool false) w2 (by go_simp) ?_
      simp only [Act.put, List.setIfInBounds_toArray, List.set_cons_zero, List.set_cons_succ]
      go_upto_region 4 with (fail)
      apply wp_region_lit
      refine Lw.wpList_val rfl (.int .i64 z) w2 (by go_simp) ?_
      refine wpList_load_row rfl 51 _ rfl gx (by kernel_rfl) 51 (nmA (lb X)) (0, 0) _ HX.out Try.underlying51 rfl (by kernel_rfl) ?_
      simp only [Act.put, List.setIfInBounds_toArray, List.set_cons_zero, List.set_cons_succ]
      refine Lw.wpList_callTo (some 23) rfl rfl 29 _ _ rfl (fun _ _ => by go_simp) #[.int .i64 z, nmV X] (by kernel_rfl) ?_
      refine (HIv.out _).mono ?_
      rintro e u5 ⟨rfl, hb⟩
      refine ⟨_, rfl, ?_⟩
      have HB := Lib.hid (Lw.go_on HB.out hb)
      clear hb
      simp only [Act.put, List.setIfInBounds_toArray, List.set_cons_zero, List.set_cons_succ]
      refine Lw.wpList_callTo (some 24) rfl rfl 22 _ _ rfl (fun _ _ => by go_simp) #[nmV R] (by kernel_rfl) ?_
      refine (HPu.out _).mono ?_
      rintro e u6 ⟨rfl, hb⟩
      refine ⟨_, rfl, ?_⟩
      have HB := Lib.hid (Lw.go_on HB.out hb)
      clear hb
      simp only [Act.put, List.setIfInBounds_toArray, List.set_cons_zero, List.set_cons_succ]
      go_wp2_with (fail)
      go_ret2
      exact ⟨rfl, HB.out⟩
end Go.Proofs.Nu
