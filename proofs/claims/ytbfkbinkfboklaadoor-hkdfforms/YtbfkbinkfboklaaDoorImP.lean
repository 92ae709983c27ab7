/-
  The developers' sha: New, at every number of bits.
-/
import Derived.Test.YtbfkbinkfboklaaDoorImO
namespace Go.Proofs.Im
open Go.RowKit Go.Proofs.Sha Go.Proofs.Be
/-- A new Hash's cells. -/
def newC (bits : Int) (iv : List Nat) : Array Value := (Value.int .i64 bits :: (iv.map (fun x => Value.int .u64 (x : Nat)) ++ List.replicate 128 (Value.int .u8 0) ++ [Value.int .u64 0])).toArray
def ivF (iv : List Nat) : Nat → Nat := fun i => iv.getD i 0
theorem newC_get (bits : Int) (iv : List Nat) (h8 : iv.length = 8) (i : Nat) (hi : i < 138) : (newC bits iv)[i]? = some (hCell bits (ivF iv) (fun _ => 0) 0 i) := by
  unfold newC
  rw [List.getElem?_toArray]
  unfold hCell
  rcases i with _ | i
  · rfl
  · rw [List.getElem?_cons_succ, if_neg (by omega)]
    by_cases h9 : i < 8
    · rw [if_pos (by omega), List.getElem?_append_left (by simp; omega), List.getElem?_append_left (by simp; omega), List.getElem?_map, List.getElem?_eq_getElem (by omega)]
      simp [ivF, List.getD_eq_getElem?_getD, List.getElem?_eq_getElem (show i < iv.length by omega)]
    · rw [if_neg (by omega)]
      by_cases h7 : i < 136
      · rw [if_pos (by omega), List.getElem?_append_left (by simp; omega), List.getElem?_append_right (by simp; omega), List.getElem?_replicate, if_pos (by simp; omega)]; rfl
      · rw [if_neg (by omega), List.getElem?_append_right (by simp; omega)]
        simp only [List.length_append, List.length_map, List.length_replicate, h8]
        rw [show i - (8 + 128) = 0 by omega]; rfl
theorem newC_size (bits : Int) (iv : List Nat) (h8 : iv.length = 8) : (newC bits iv).size = 138 := by simp [newC, h8]
theorem wrote_new (wide : Bool) (w : World) (g : Nat) (hg : w.heap.size = g) : Wrote (w.alloc (.cells (newC (bitsK wide) (ivK wide)) 73)) g wide ⟨#[]⟩ := by
  subst hg
  have h8 : (ivK wide).length = 8 := by cases wide <;> rfl
  refine ⟨ivF (ivK wide), fun _ => 0, isH_new w _ (newC_size _ _ h8) (newC_get _ _ h8), ?_, ?_, fun _ => by show 0 < 256; decide, fun i hi => ?_⟩
  · rw [stvK_small wide _ _ (show (⟨#[]⟩ : ByteArray).size < sizeK wide from sizeK_pos wide)]; cases wide <;> rfl
  · cases wide
    · exact Sha.lt8 (P := fun i => ivF (ivK false) i < limK false) (by decide) (by decide) (by decide) (by decide) (by decide) (by decide) (by decide) (by decide)
    · exact Sha.lt8 (P := fun i => ivF (ivK true) i < limK true) (by decide) (by decide) (by decide) (by decide) (by decide) (by decide) (by decide) (by decide)
  · have : (⟨#[]⟩ : ByteArray).size % sizeK wide = 0 := Nat.zero_mod _
    omega
section
variable {P : Program} {w : World} {ops : Array Oper} {rest : List Oper} {o : Oper} {a : Act} {Q : Exit → Act → World → Prop}
/-- A call of a function that the text names. -/
theorem wpList_call (hg : o.guard = none) (f : FuncId) (xs : Array Operand) (ats : Array TypeId) (hop : o.op = .call { callee := .value (.func f), args := xs, argTypes := ats })
    (hr : ∀ args w, (callFunc f args).run P w = .ok (.enter f args) w) (args : Array Value) (ha : xs.map a.eval = args)
    (h : Calls P f args w fun e u => ∃ v, e = .returned v ∧ wpList P ops Q rest (a.put o.dst v) u) : wpList P ops Q (o :: rest) a w :=
  wpList_plain hg fun K hK => by
    subst ha
    have e1 : execOp a.eval o = callFunc f (xs.map a.eval) := by
      have ef : a.eval (.func f) = .func (.func f) #[] #[] := rfl
      unfold execOp
      simp [hop, resolve, Deferred.ofValue, invoke, ef]
    unfold Oper.wp
    rw [e1, hr]
    refine h.mono ?_
    rintro e u ⟨v, rfl, hv⟩
    exact hK _ _ hv
end
set_option maxHeartbeats 1000000 in
theorem start256_any (w : World) : Calls Tryd.prog 39 #[] w fun e w' => e = .returned (.agg (wordCells .u64 Sha.iv256)) ∧ Below w.heap.size w w' := by
  go_enter Tryd.func39, Tryd.ntmps39
  go_wp2
  refine bodyPost_ret (v := .agg (wordCells .u64 Sha.iv256)) ?_ rfl ?_
  · exact results_cell_row (fn := Tryd.f39) Tryd.results39 _ _ w.heap.size 68 _ (0, 0) _ rfl (heap_alloc_last w _) Tryd.underlying68 rfl (by kernel_rfl)
  · exact ⟨rfl, (Below.refl _ _).alloc (Nat.le_refl _) _⟩
set_option maxHeartbeats 1000000 in
theorem start384_any (w : World) : Calls Tryd.prog 40 #[] w fun e w' => e = .returned (.agg (wordCells .u64 Sha5.iv384)) ∧ Below w.heap.size w w' := by
  go_enter Tryd.func40, Tryd.ntmps40
  go_wp2
  refine bodyPost_ret (v := .agg (wordCells .u64 Sha5.iv384)) ?_ rfl ?_
  · exact results_cell_row (fn := Tryd.f40) Tryd.results40 _ _ w.heap.size 68 _ (0, 0) _ rfl (heap_alloc_last w _) Tryd.underlying68 rfl (by kernel_rfl)
  · exact ⟨rfl, (Below.refl _ _).alloc (Nat.le_refl _) _⟩
set_option maxHeartbeats 1000000 in
theorem new_256 (w : World) :
    Calls Tryd.prog 28 #[.int .i64 256] w fun e w' => ∃ g, w.heap.size ≤ g ∧ e = .returned (.tuple #[.pointer (some ⟨g, 0, none⟩), .int .i64 0]) ∧ Below w.heap.size w w' ∧ Wrote w' g false ⟨#[]⟩ := by
  go_enter Tryd.func28, Tryd.ntmps28
  go_upto_region 3 with (fail)
  apply wp_region_lit
  refine wpList_val rfl (.int .i64 256) w (by go_simp) ?_
  refine wpList_call rfl 39 _ _ rfl (fun _ _ => by go_simp) #[] (by kernel_rfl) ?_
  refine (start256_any w).mono ?_
  rintro e u ⟨rfl, hb⟩
  refine ⟨_, rfl, ?_⟩
  refine wpList_build_to rfl 73 _ rfl (newC 256 Sha.iv256) (by kernel_rfl) ?_
  refine wpList_box_to rfl 73 _ rfl (newC 256 Sha.iv256) (by kernel_rfl) u.heap.size rfl ?_
  simp only [Act.put, List.setIfInBounds_toArray, List.set_cons_zero, List.set_cons_succ]
  have HW : Hid (Wrote (u.alloc (.cells (newC 256 Sha.iv256) 73)) u.heap.size false ⟨#[]⟩) := wrote_new false u u.heap.size rfl
  have HB : Hid (Below w.heap.size w (u.alloc (.cells (newC 256 Sha.iv256) 73))) := hb.alloc hb.size _
  have HZ := Lib.hid hb.size
  clear hb
  generalize u.alloc (.cells (newC 256 Sha.iv256) 73) = w1 at HW HB ⊢
  go_wp2_with (fail)
  go_ret2
  exact ⟨u.heap.size, HZ.out, rfl, HB.out, HW.out⟩
set_option maxHeartbeats 1000000 in
theorem new_384 (w : World) :
    Calls Tryd.prog 28 #[.int .i64 384] w fun e w' => ∃ g, w.heap.size ≤ g ∧ e = .returned (.tuple #[.pointer (some ⟨g, 0, none⟩), .int .i64 0]) ∧ Below w.heap.size w w' ∧ Wrote w' g true ⟨#[]⟩ := by
  go_enter Tryd.func28, Tryd.ntmps28
  go_upto_region 5 with (fail)
  apply wp_region_lit
  refine wpList_val rfl (.int .i64 384) w (by go_simp) ?_
  refine wpList_call rfl 40 _ _ rfl (fun _ _ => by go_simp) #[] (by kernel_rfl) ?_
  refine (start384_any w).mono ?_
  rintro e u ⟨rfl, hb⟩
  refine ⟨_, rfl, ?_⟩
  refine wpList_build_to rfl 73 _ rfl (newC 384 Sha5.iv384) (by kernel_rfl) ?_
  refine wpList_box_to rfl 73 _ rfl (newC 384 Sha5.iv384) (by kernel_rfl) u.heap.size rfl ?_
  simp only [Act.put, List.setIfInBounds_toArray, List.set_cons_zero, List.set_cons_succ]
  have HW : Hid (Wrote (u.alloc (.cells (newC 384 Sha5.iv384) 73)) u.heap.size true ⟨#[]⟩) := wrote_new true u u.heap.size rfl
  have HB : Hid (Below w.heap.size w (u.alloc (.cells (newC 384 Sha5.iv384) 73))) := hb.alloc hb.size _
  have HZ := Lib.hid hb.size
  clear hb
  generalize u.alloc (.cells (newC 384 Sha5.iv384) 73) = w1 at HW HB ⊢
  go_wp2_with (fail)
  go_ret2
  exact ⟨u.heap.size, HZ.out, rfl, HB.out, HW.out⟩
set_option maxHeartbeats 400000 in
theorem new_none (bits : Int) (w : World) (h : ¬ bits = 256) (h' : ¬ bits = 384) :
    Calls Tryd.prog 28 #[.int .i64 bits] w fun e w' => e = .returned (.tuple #[.pointer none, .int .i64 200]) ∧ w' = w := by
  have b1 : (bits == 256) = false := by simpa using h
  have b2 : (bits == 384) = false := by simpa using h'
  go_enter Tryd.func28, Tryd.ntmps28
  go_wp2
  go_ret2
  exact ⟨rfl, rfl⟩
theorem newK (wide : Bool) (w : World) :
    Calls Tryd.prog 28 #[.int .i64 (bitsK wide)] w fun e w' => ∃ g, w.heap.size ≤ g ∧ e = .returned (.tuple #[.pointer (some ⟨g, 0, none⟩), .int .i64 0]) ∧ Below w.heap.size w w' ∧ Wrote w' g wide ⟨#[]⟩ := by
  cases wide
  · exact new_256 w
  · exact new_384 w
theorem emp_app (s : ByteArray) : (⟨#[]⟩ : ByteArray) ++ s = s := ByteArray.empty_append
end Go.Proofs.Im
