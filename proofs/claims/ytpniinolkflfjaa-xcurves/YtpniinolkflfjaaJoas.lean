/-
  The document's own answer for layer 9: sums and differences modulo.
-/
import Derived.Test.YtpniinolkflfjaaJoaj
namespace Go.Proofs.Nu
open Go.RowKit
open Go.Proofs.Im (wpList_box_to words_heap words_one run_index_row)
open Go.Proofs.Sha (wordCells wordCells_get wordCells_size rowIs_of wpList_alloc_to wpList_build_to)
open Go.Proofs.Nt
section
variable {P : Program} {ops : Array Oper} {Q : Exit → Act → World → Prop} {a : Act} {w : World} {o : Oper} {rest : List Oper}
/-- An operation whose guard lets it run; one whose guard does not. -/
theorem wpList_on (hw : Region.wanted o (yielded ops a.tmps) = true) (h : wpList P ops Q ({ o with guard := none } :: rest) a w) : wpList P ops Q (o :: rest) a w := by
  have h2 : Region.wanted { o with guard := none } (yielded ops a.tmps) = true := by simp [Region.wanted]
  unfold wpList at h ⊢
  rw [if_pos h2] at h
  rw [if_pos hw]
  exact h
theorem wpList_off (hw : Region.wanted o (yielded ops a.tmps) = false) (h : wpList P ops Q rest (a.put o.dst undef) w) : wpList P ops Q (o :: rest) a w := by
  unfold wpList
  rw [if_neg (by rw [hw]; decide)]
  exact h
end
/-- A number in block g. -/
def Nm (w : World) (g x : Nat) : Prop := w.heap[g]? = some (.cells (nmA (lb x)) 50 (0, 0))
theorem Nm.lt {w : World} {g x : Nat} (h : Nm w g x) : g < w.heap.size := (Array.getElem?_eq_some_iff.1 h).1
theorem Nm.on {u v : World} {g x : Nat} (h : Nm u g x) (hb : Below u.heap.size u v) : Nm v g x := (hb.block g h.lt).trans h
theorem Nm.alloc {u : World} {g x : Nat} (h : Nm u g x) (o : Obj) : Nm (u.alloc o) g x := h.on ((Below.refl _ _).alloc (Nat.le_refl _) _)
theorem Nm.ne {u : World} {g g' x : Nat} (h : Nm u g x) (hne : g ≠ g') (A : Array Value) : Nm (u.setRow g' A) g x := by
  unfold Nm World.setRow at *
  rw [Array.getElem?_modify, if_neg (Ne.symm hne)]
  exact h
theorem Nm.new (u : World) (x : Nat) : Nm (u.alloc (.cells (nmA (lb x)) 50)) u.heap.size x := heap_alloc_last _ _
theorem Nm.set {u : World} {g x : Nat} (h : Nm u g x) (y : Nat) : Nm (u.setRow g (nmA (lb y))) g y := setRow_heap _ _ _ _ _ _ h
theorem nm_zero : nmA (fun _ => 0) = nmA (lb 0) := nmA_congr fun i _ => by unfold lb; rw [Nat.zero_div]
theorem Nm.new0 (u : World) : Nm (u.alloc (.cells (nmA fun _ => 0) 50)) u.heap.size 0 := by rw [nm_zero]; exact Nm.new u 0
set_option maxHeartbeats 2000000 in
set_option maxRecDepth 20000 in
theorem add_any (z : Int) (x y : Nat) (w : World) (hx : x < md z) (hy : y < md z) :
    Calls Try.prog 34 #[.int .i64 z, nmV x, nmV y] w fun e w' => e = .returned (nmV ((x + y) % md z)) ∧ Below w.heap.size w w' := by
  have hm := md_lt z
  have HMo := Lib.hid (fun u => modulus_any z u)
  generalize md z = m at hx hy hm HMo ⊢
  have HPl := Lib.hid (fun u => plus_any x y u (by omega) (by omega))
  have hs : (x + y) % B8 < B8 := Nat.mod_lt _ (by decide)
  have HLe := Lib.hid (fun u => less_any ((x + y) % B8) m u hs hm)
  have HMi := Lib.hid (fun u => minus_any ((x + y) % B8) m u hs hm)
  have HV : Hid (if (x + y) / B8 = 1 ∨ ¬ (x + y) % B8 < m then ((x + y) % B8 + B8 - m) % B8 = (x + y) % m else (x + y) % B8 = (x + y) % m) := by
    show if _ then _ else _
    have hB : 0 < B8 := by decide
    generalize B8 = K at *
    rcases Nat.lt_or_ge (x + y) K with h | h
    · rw [Nat.mod_eq_of_lt h, Nat.div_eq_of_lt h]
      rcases Nat.lt_or_ge (x + y) m with h2 | h2
      · rw [if_neg (by omega), Nat.mod_eq_of_lt h2]
      · rw [if_pos (.inr (by omega)), show x + y + K - m = (x + y - m) + K by omega, Nat.add_mod_right, Nat.mod_eq_of_lt (by omega), Nat.mod_eq_sub_mod h2, Nat.mod_eq_of_lt (by omega)]
    · have e : (x + y) % K = x + y - K := by rw [Nat.mod_eq_sub_mod h, Nat.mod_eq_of_lt (by omega)]
      rw [e, if_pos (.inl (by rw [show x + y = x + y - K + K by omega, Nat.add_div_right _ hB, Nat.div_eq_of_lt (by omega)])), show x + y - K + K - m = x + y - m by omega, Nat.mod_eq_of_lt (by omega), Nat.mod_eq_sub_mod (by omega), Nat.mod_eq_of_lt (by omega)]
  have HCl : Hid ((x + y) / B8 < 2) := by
    show _ < _
    have hB : 0 < B8 := by decide
    rw [Nat.div_lt_iff_lt_mul hB]
    omega
  generalize (x + y) % m = R at HV ⊢
  generalize (x + y) % B8 = S at HPl HLe HMi HV
  generalize (x + y) / B8 = C at HPl HV HCl
  clear hs hx hy hm
  go_enter Try.func34, Try.ntmps34
  go_upto_region 0 with (fail)
  apply wp_region_lit
  refine wpList_box_to rfl 50 _ rfl (nmA (lb x)) (by kernel_rfl) w.heap.size rfl ?_
  refine wpList_box_to rfl 50 _ rfl (nmA (lb y)) (by kernel_rfl) (w.heap.size + 1) (by simp) ?_
  refine wpList_alloc_to rfl 50 rfl (nmA fun _ => 0) (w.heap.size + 2) (by simp) alloc8 ?_
  have HX : Hid (Nm (((w.alloc (.cells (nmA (lb x)) 50)).alloc (.cells (nmA (lb y)) 50)).alloc (.cells (nmA fun _ => 0) 50)) w.heap.size x) := ((Nm.new w x).alloc _).alloc _
  have HY : Hid (Nm (((w.alloc (.cells (nmA (lb x)) 50)).alloc (.cells (nmA (lb y)) 50)).alloc (.cells (nmA fun _ => 0) 50)) (w.heap.size + 1) y) := by
    have h := Nm.new (w.alloc (.cells (nmA (lb x)) 50)) y
    rw [show (w.alloc (.cells (nmA (lb x)) 50)).heap.size = w.heap.size + 1 by simp] at h
    exact h.alloc _
  have HO : Hid (Nm (((w.alloc (.cells (nmA (lb x)) 50)).alloc (.cells (nmA (lb y)) 50)).alloc (.cells (nmA fun _ => 0) 50)) (w.heap.size + 2) 0) := by
    have h := Nm.new0 ((w.alloc (.cells (nmA (lb x)) 50)).alloc (.cells (nmA (lb y)) 50))
    rw [show ((w.alloc (.cells (nmA (lb x)) 50)).alloc (.cells (nmA (lb y)) 50)).heap.size = w.heap.size + 2 by simp] at h
    exact h
  have HB : Hid (Below w.heap.size w (((w.alloc (.cells (nmA (lb x)) 50)).alloc (.cells (nmA (lb y)) 50)).alloc (.cells (nmA fun _ => 0) 50))) := ((((Below.refl _ _).alloc (Nat.le_refl _) _).alloc (by simp) _).alloc (by simp; omega) _)
  generalize ((w.alloc (.cells (nmA (lb x)) 50)).alloc (.cells (nmA (lb y)) 50)).alloc (.cells (nmA fun _ => 0) 50) = w1 at HX HY HO HB ⊢
  go_upto_region 1 with (fail)
  apply wp_region_lit
  refine Lw.wpList_val rfl (.int .i64 z) w1 (by go_simp) ?_
  simp only [Act.put, List.setIfInBounds_toArray, List.set_cons_zero, List.set_cons_succ]
  refine Lw.wpList_callTo (some 11) rfl rfl 22 _ _ rfl (fun _ _ => by go_simp) #[.int .i64 z] (by kernel_rfl) ?_
  refine (HMo.out _).mono ?_
  rintro e u1 ⟨rfl, hb⟩
  refine ⟨_, rfl, ?_⟩
  have HX := Lib.hid (HX.out.on hb)
  have HY := Lib.hid (HY.out.on hb)
  have HO := Lib.hid (HO.out.on hb)
  have HB := Lib.hid (Lw.go_on HB.out hb)
  clear hb HMo
  refine wpList_alloc_to rfl 50 rfl (nmA fun _ => 0) u1.heap.size rfl alloc8 ?_
  refine wpList_store_row rfl 50 _ _ rfl u1.heap.size (nmA (lb m)) (by kernel_rfl) (by kernel_rfl) 50 _ (heap_alloc_last _ _) (by kernel_rfl) (by rw [nmA_size, nmA_size]) (nmA_one _) ?_
  rw [World.setRow_alloc_new]
  simp only [Act.put, List.setIfInBounds_toArray, List.set_cons_zero, List.set_cons_succ]
  have HMm := Lib.hid (Nm.new u1 m)
  have HX := Lib.hid (HX.out.alloc (.cells (nmA (lb m)) 50))
  have HY := Lib.hid (HY.out.alloc (.cells (nmA (lb m)) 50))
  have HG : Hid (w.heap.size + 2 < u1.heap.size) := HO.out.lt
  have HO := Lib.hid (HO.out.alloc (.cells (nmA (lb m)) 50))
  have HB : Hid (Below w.heap.size w (u1.alloc (.cells (nmA (lb m)) 50))) := HB.out.alloc HB.out.size _
  generalize u1.alloc (.cells (nmA (lb m)) 50) = w2 at HMm HX HY HO HB ⊢
  generalize u1.heap.size = gm at HMm HG ⊢
  go_upto_region 2 with (fail)
  apply wp_region_lit
  refine wpList_load_row rfl 50 _ rfl w.heap.size (by kernel_rfl) 50 (nmA (lb x)) (0, 0) _ HX.out Try.underlying50 rfl (by kernel_rfl) ?_
  refine wpList_load_row rfl 50 _ rfl (w.heap.size + 1) (by kernel_rfl) 50 (nmA (lb y)) (0, 0) _ HY.out Try.underlying50 rfl (by kernel_rfl) ?_
  simp only [Act.put, List.setIfInBounds_toArray, List.set_cons_zero, List.set_cons_succ]
  refine Lw.wpList_callTo (some 15) rfl rfl 47 _ _ rfl (fun _ _ => by go_simp) #[nmV x, nmV y] (by kernel_rfl) ?_
  refine (HPl.out _).mono ?_
  rintro e u2 ⟨rfl, hb⟩
  refine ⟨_, rfl, ?_⟩
  have HX := Lib.hid (HX.out.on hb)
  have HY := Lib.hid (HY.out.on hb)
  have HO := Lib.hid (HO.out.on hb)
  have HMm := Lib.hid (HMm.out.on hb)
  have HB := Lib.hid (Lw.go_on HB.out hb)
  clear hb
  refine Lw.wpList_val rfl (.tuple #[nmV S, .int .u64 (C : Nat)]) u2 (by go_simp) ?_
  refine Lw.wpList_val rfl (nmV S) u2 (by go_simp) ?_
  refine Lw.wpList_val rfl (.int .u64 (C : Nat)) u2 (by go_simp) ?_
  refine wpList_alloc_to rfl 50 rfl (nmA fun _ => 0) u2.heap.size rfl alloc8 ?_
  refine wpList_store_row rfl 50 _ _ rfl u2.heap.size (nmA (lb S)) (by kernel_rfl) (by kernel_rfl) 50 _ (heap_alloc_last _ _) (by kernel_rfl) (by rw [nmA_size, nmA_size]) (nmA_one _) ?_
  rw [World.setRow_alloc_new]
  refine Lw.wpList_val rfl (.int .u64 (C : Nat)) (u2.alloc (.cells (nmA (lb S)) 50)) (by go_simp) ?_
  simp only [Act.put, List.setIfInBounds_toArray, List.set_cons_zero, List.set_cons_succ]
  have HS := Lib.hid (Nm.new u2 S)
  have HG2 : Hid (gm < u2.heap.size) := HMm.out.lt
  have HX := Lib.hid (HX.out.alloc (.cells (nmA (lb S)) 50))
  have HY := Lib.hid (HY.out.alloc (.cells (nmA (lb S)) 50))
  have HO := Lib.hid (HO.out.alloc (.cells (nmA (lb S)) 50))
  have HMm := Lib.hid (HMm.out.alloc (.cells (nmA (lb S)) 50))
  have HB : Hid (Below w.heap.size w (u2.alloc (.cells (nmA (lb S)) 50))) := HB.out.alloc HB.out.size _
  generalize u2.alloc (.cells (nmA (lb S)) 50) = w3 at HS HX HY HO HMm HB ⊢
  generalize u2.heap.size = gs at HS HG2 ⊢
  have hv := HV.out
  clear HV
  by_cases hc : C = 1
  · have hR := hv
    rw [if_pos (.inl hc)] at hR
    subst hc
    clear hv HPl
    go_upto_region 3 with (fail)
    apply wp_region_lit
    refine Lw.wpList_val rfl (.int .u64 ((1 : Nat) : Int)) w3 (by go_simp) ?_
    refine Lw.wpList_val rfl (.bool true) w3 (by go_simp) ?_
    refine Lw.wpList_val rfl (.bool true) w3 (by go_simp) ?_
    simp only [Act.put, List.setIfInBounds_toArray, List.set_cons_zero, List.set_cons_succ]
    refine wpList_off (by rfl) ?_
    refine wpList_off (by rfl) ?_
    refine wpList_off (by rfl) ?_
    refine wpList_off (by rfl) ?_
    simp only [Act.put, List.setIfInBounds_toArray, List.set_cons_zero, List.set_cons_succ]
    refine Lw.wpList_val rfl (.bool true) w3 (by go_simp) ?_
    simp only [Act.put, List.setIfInBounds_toArray, List.set_cons_zero, List.set_cons_succ]
    go_upto_region 4 with (fail)
    apply wp_region_lit
    refine wpList_load_row rfl 50 _ rfl gs (by kernel_rfl) 50 (nmA (lb S)) (0, 0) _ HS.out Try.underlying50 rfl (by kernel_rfl) ?_
    refine wpList_load_row rfl 50 _ rfl gm (by kernel_rfl) 50 (nmA (lb m)) (0, 0) _ HMm.out Try.underlying50 rfl (by kernel_rfl) ?_
    simp only [Act.put, List.setIfInBounds_toArray, List.set_cons_zero, List.set_cons_succ]
    refine Lw.wpList_callTo (some 28) rfl rfl 23 _ _ rfl (fun _ _ => by go_simp) #[nmV S, nmV m] (by kernel_rfl) ?_
    refine (HMi.out _).mono ?_
    rintro e u3 ⟨rfl, hb⟩
    refine ⟨_, rfl, ?_⟩
    have HO := Lib.hid (HO.out.on hb)
    have HMm := Lib.hid (HMm.out.on hb)
    have HS := Lib.hid (HS.out.on hb)
    have HB := Lib.hid (Lw.go_on HB.out hb)
    clear hb
    rw [hR]
    refine wpList_store_row rfl 50 _ _ rfl gs (nmA (lb R)) (by kernel_rfl) (by kernel_rfl) 50 _ HS.out (by kernel_rfl) (by rw [nmA_size, nmA_size]) (nmA_one _) ?_
    simp only [Act.put, List.setIfInBounds_toArray, List.set_cons_zero, List.set_cons_succ]
    have HO := Lib.hid (HO.out.ne (show w.heap.size + 2 ≠ gs by have := HG.out; have := HG2.out; omega) (nmA (lb R)))
    have HSn := Lib.hid (HS.out.set R)
    have HB := Lib.hid (below_setRow HB.out (show w.heap.size ≤ gs by have := HG.out; have := HG2.out; omega) (nmA (lb R)))
    clear HS
    have HS := HSn
    clear HSn HMm
    generalize u3.setRow gs (nmA (lb R)) = w5 at HO HS HB ⊢
    go_upto_region 5 with (fail)
    apply wp_region_lit
    refine wpList_load_row rfl 50 _ rfl gs (by kernel_rfl) 50 (nmA (lb R)) (0, 0) _ HS.out Try.underlying50 rfl (by kernel_rfl) ?_
    simp only [Act.put, List.setIfInBounds_toArray, List.set_cons_zero, List.set_cons_succ]
    refine wpList_store_row rfl 50 _ _ rfl (w.heap.size + 2) (nmA (lb R)) (by kernel_rfl) (by kernel_rfl) 50 _ HO.out (by kernel_rfl) (by rw [nmA_size, nmA_size]) (nmA_one _) ?_
    simp only [Act.put]
    go_wp2_with (fail)
    refine bodyPost_ret (v := nmV R) ?_ rfl ?_
    · exact results_cell_row (fn := Try.f34) Try.results34 _ _ (w.heap.size + 2) 50 _ (0, 0) _ rfl (HO.out.set R) Try.underlying50 rfl (by kernel_rfl)
    · exact ⟨rfl, below_setRow HB.out (by omega) _⟩
  · have c0 : C = 0 := by have := HCl.out; omega
    subst c0
    go_upto_region 3 with (fail)
    apply wp_region_lit
    refine Lw.wpList_val rfl (.int .u64 ((0 : Nat) : Int)) w3 (by go_simp) ?_
    refine Lw.wpList_val rfl (.bool false) w3 (by go_simp) ?_
    refine Lw.wpList_val rfl (.bool false) w3 (by go_simp) ?_
    simp only [Act.put, List.setIfInBounds_toArray, List.set_cons_zero, List.set_cons_succ]
    refine wpList_on (by rfl) ?_
    refine wpList_load_row rfl 50 _ rfl gs (by kernel_rfl) 50 (nmA (lb S)) (0, 0) _ HS.out Try.underlying50 rfl (by kernel_rfl) ?_
    simp only [Act.put, List.setIfInBounds_toArray, List.set_cons_zero, List.set_cons_succ]
    refine wpList_on (by rfl) ?_
    refine wpList_load_row rfl 50 _ rfl gm (by kernel_rfl) 50 (nmA (lb m)) (0, 0) _ HMm.out Try.underlying50 rfl (by kernel_rfl) ?_
    simp only [Act.put, List.setIfInBounds_toArray, List.set_cons_zero, List.set_cons_succ]
    refine wpList_on (by rfl) ?_
    refine Lw.wpList_callTo (some 23) rfl rfl 21 _ _ rfl (fun _ _ => by go_simp) #[nmV S, nmV m] (by kernel_rfl) ?_
    refine (HLe.out _).mono ?_
    rintro e u4 ⟨rfl, hb⟩
    refine ⟨_, rfl, ?_⟩
    have HO := Lib.hid (HO.out.on hb)
    have HMm := Lib.hid (HMm.out.on hb)
    have HS := Lib.hid (HS.out.on hb)
    have HB := Lib.hid (Lw.go_on HB.out hb)
    clear hb
    simp only [Act.put, List.setIfInBounds_toArray, List.set_cons_zero, List.set_cons_succ]
    by_cases hl : S < m
    · rw [decide_eq_true hl]
      rw [if_neg (by omega)] at hv
      subst hv
      clear HMi hl hc
      refine wpList_on (by rfl) ?_
      refine Lw.wpList_val rfl (.bool false) u4 (by go_simp) ?_
      simp only [Act.put, List.setIfInBounds_toArray, List.set_cons_zero, List.set_cons_succ]
      refine Lw.wpList_val rfl (.bool false) u4 (by go_simp) ?_
      simp only [Act.put, List.setIfInBounds_toArray, List.set_cons_zero, List.set_cons_succ]
      go_upto_region 5 with (fail)
      apply wp_region_lit
      refine wpList_load_row rfl 50 _ rfl gs (by kernel_rfl) 50 (nmA (lb S)) (0, 0) _ HS.out Try.underlying50 rfl (by kernel_rfl) ?_
      simp only [Act.put, List.setIfInBounds_toArray, List.set_cons_zero, List.set_cons_succ]
      refine wpList_store_row rfl 50 _ _ rfl (w.heap.size + 2) (nmA (lb S)) (by kernel_rfl) (by kernel_rfl) 50 _ HO.out (by kernel_rfl) (by rw [nmA_size, nmA_size]) (nmA_one _) ?_
      simp only [Act.put]
      go_wp2_with (fail)
      refine bodyPost_ret (v := nmV S) ?_ rfl ?_
      · exact results_cell_row (fn := Try.f34) Try.results34 _ _ (w.heap.size + 2) 50 _ (0, 0) _ rfl (HO.out.set S) Try.underlying50 rfl (by kernel_rfl)
      · exact ⟨rfl, below_setRow HB.out (by omega) _⟩
    · rw [decide_eq_false hl]
      have hR := hv
      rw [if_pos (.inr hl)] at hR
      clear hv hl hc
      refine wpList_on (by rfl) ?_
      refine Lw.wpList_val rfl (.bool true) u4 (by go_simp) ?_
      simp only [Act.put, List.setIfInBounds_toArray, List.set_cons_zero, List.set_cons_succ]
      refine Lw.wpList_val rfl (.bool true) u4 (by go_simp) ?_
      simp only [Act.put, List.setIfInBounds_toArray, List.set_cons_zero, List.set_cons_succ]
      go_upto_region 4 with (fail)
      apply wp_region_lit
      refine wpList_load_row rfl 50 _ rfl gs (by kernel_rfl) 50 (nmA (lb S)) (0, 0) _ HS.out Try.underlying50 rfl (by kernel_rfl) ?_
      refine wpList_load_row rfl 50 _ rfl gm (by kernel_rfl) 50 (nmA (lb m)) (0, 0) _ HMm.out Try.underlying50 rfl (by kernel_rfl) ?_
      simp only [Act.put, List.setIfInBounds_toArray, List.set_cons_zero, List.set_cons_succ]
      refine Lw.wpList_callTo (some 28) rfl rfl 23 _ _ rfl (fun _ _ => by go_simp) #[nmV S, nmV m] (by kernel_rfl) ?_
      refine (HMi.out _).mono ?_
      rintro e u3 ⟨rfl, hb⟩
      refine ⟨_, rfl, ?_⟩
      have HO := Lib.hid (HO.out.on hb)
      have HMm := Lib.hid (HMm.out.on hb)
      have HS := Lib.hid (HS.out.on hb)
      have HB := Lib.hid (Lw.go_on HB.out hb)
      clear hb
      rw [hR]
      refine wpList_store_row rfl 50 _ _ rfl gs (nmA (lb R)) (by kernel_rfl) (by kernel_rfl) 50 _ HS.out (by kernel_rfl) (by rw [nmA_size, nmA_size]) (nmA_one _) ?_
      simp only [Act.put, List.setIfInBounds_toArray, List.set_cons_zero, List.set_cons_succ]
      have HO := Lib.hid (HO.out.ne (show w.heap.size + 2 ≠ gs by have := HG.out; have := HG2.out; omega) (nmA (lb R)))
      have HSn := Lib.hid (HS.out.set R)
      have HB := Lib.hid (below_setRow HB.out (show w.heap.size ≤ gs by have := HG.out; have := HG2.out; omega) (nmA (lb R)))
      clear HS
      have HS := HSn
      clear HSn HMm
      generalize u3.setRow gs (nmA (lb R)) = w5 at HO HS HB ⊢
      go_upto_region 5 with (fail)
      apply wp_region_lit
      refine wpList_load_row rfl 50 _ rfl gs (by kernel_rfl) 50 (nmA (lb R)) (0, 0) _ HS.out Try.underlying50 rfl (by kernel_rfl) ?_
      simp only [Act.put, List.setIfInBounds_toArray, List.set_cons_zero, List.set_cons_succ]
      refine wpList_store_row rfl 50 _ _ rfl (w.heap.size + 2) (nmA (lb R)) (by kernel_rfl) (by kernel_rfl) 50 _ HO.out (by kernel_rfl) (by rw [nmA_size, nmA_size]) (nmA_one _) ?_
      simp only [Act.put]
      go_wp2_with (fail)
      refine bodyPost_ret (v := nmV R) ?_ rfl ?_
      · exact results_cell_row (fn := Try.f34) Try.results34 _ _ (w.heap.size + 2) 50 _ (0, 0) _ rfl (HO.out.set R) Try.underlying50 rfl (by kernel_rfl)
      · exact ⟨rfl, below_setRow HB.out (by omega) _⟩
end Go.Proofs.Nu
