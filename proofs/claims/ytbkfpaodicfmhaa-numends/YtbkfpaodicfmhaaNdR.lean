/-
  The developers' numbers: the closures: a second number, and the work.
-/
import Derived.Test.YtbkfpaodicfmhaaNdQ
namespace Go.Proofs.Nd
open Go.RowKit
open Go.Proofs.Im (wpList_box_to words_heap words_one run_index_row)
open Go.Proofs.Sha (wordCells wordCells_get wordCells_size rowIs_of wpList_alloc_to wpList_build_to)
open Go.Proofs.Nt
open Go.Proofs.Nu (nmL nmA nmV lt8 nmA_get nmA_congr nmA_one nmA_size results_row_slot B8 b8 nv8 nmA_lb nv_lt8 md mP mN mX md_lt wpList_on wpList_off)
section
variable {P : Program} {w : World} {ops : Array Oper} {rest : List Oper} {o : Oper} {a : Act} {Q : Exit → Act → World → Prop}
/-- A call of a function that lies in a slot, with what it has captured. -/
theorem wpList_callVia (d : Option Tmp) (hg : o.guard = none) (hd : o.dst = d) (x : Operand) (xs : Array Operand) (ats : Array TypeId) (hop : o.op = .call { callee := .value x, args := xs, argTypes := ats }) (f : FuncId) (cap : Array Value)
    (hx : a.eval x = .func (.func f) #[] cap) (hr : ∀ args w, (callFunc f args).run P w = .ok (.enter f args) w) (args : Array Value) (ha : xs.map a.eval ++ cap = args)
    (h : Calls P f args w fun e u => ∃ v, e = .returned v ∧ wpList P ops Q rest (a.put d v) u) : wpList P ops Q (o :: rest) a w :=
  wpList_plain hg fun K hK => by
    subst ha hd
    have e1 : execOp a.eval o = callFunc f (xs.map a.eval ++ cap) := by
      unfold execOp
      simp [hop, resolve, Deferred.ofValue, invoke, hx]
    unfold Oper.wp
    rw [e1, hr]
    refine h.mono ?_
    rintro e u ⟨v, rfl, hv⟩
    exact hK _ _ hv
end
/-- A number's text and the work, boxed. -/
structure Cap (u : World) (g k : Nat) (b : ByteArray) (f : FuncId) : Prop where
  b : u.cell? ⟨g, 0, none⟩ = some (.string b)
  f : u.cell? ⟨k, 0, none⟩ = some (.func (.func f) #[] #[])
theorem cell_lt {u : World} {g : Nat} {v : Value} (h : u.cell? ⟨g, 0, none⟩ = some v) : g < u.heap.size := World.block_lt_of_cell? u ⟨g, 0, none⟩ h
theorem Cap.on {u v : World} {g k : Nat} {b : ByteArray} {f : FuncId} (h : Cap u g k b f) (hb : Below u.heap.size u v) : Cap v g k b f :=
  ⟨(World.cell?_of_block (hb.block g (cell_lt h.b))).trans h.b, (World.cell?_of_block (hb.block k (cell_lt h.f))).trans h.f⟩
theorem Cap.alloc {u : World} {g k : Nat} {b : ByteArray} {f : FuncId} (h : Cap u g k b f) (ob : Obj) : Cap (u.alloc ob) g k b f := h.on ((Below.refl _ _).alloc (Nat.le_refl _) ob)
set_option maxHeartbeats 1000000 in
theorem with_any (b : ByteArray) (f : FuncId) (w : World) : Calls Try.prog 19 #[.string b, .func (.func f) #[] #[]] w fun e u => e = .returned (.func (.func 33) #[] #[.pointer (some ⟨w.heap.size, 0, none⟩), .pointer (some ⟨w.heap.size + 1, 0, none⟩)]) ∧ Below w.heap.size w u ∧ Cap u w.heap.size (w.heap.size + 1) b f := by
  go_enter Try.func19, Try.ntmps19
  go_wp2_with (fail)
  go_ret
  have s1 : (w.alloc (.cells #[.string b] 9)).heap.size = w.heap.size + 1 := by simp
  have h1 : (w.alloc (.cells #[.string b] 9)).cell? ⟨w.heap.size, 0, none⟩ = some (.string b) := cell_of_row _ _ 0 _ _ _ (heap_alloc_last _ _)
  refine ⟨rfl, ((Below.refl _ _).alloc (Nat.le_refl _) _).alloc (by simp) _, ?_, ?_⟩
  · exact (World.cell?_of_block (heap_alloc_old _ _ (by simp))).trans h1
  · have h2 : ((w.alloc (.cells #[.string b] 9)).alloc (.cells #[.func (.func f) #[] #[]] 63)).cell? ⟨(w.alloc (.cells #[.string b] 9)).heap.size, 0, none⟩ = some (.func (.func f) #[] #[]) := cell_of_row _ _ 0 _ _ _ (heap_alloc_last _ _)
    rw [s1] at h2
    exact h2
set_option maxHeartbeats 4000000 in
set_option maxRecDepth 20000 in
theorem with1_raw (p v x y R g k : Nat) (b : ByteArray) (f : FuncId) (ok : Bool) (w : World) (hC : Cap w g k b f) (hr : ∀ args w, (callFunc f args).run Try.prog w = .ok (.enter f args) w)
    (hRd : ∀ u : World, Calls Try.prog 31 #[fdV p v, .string b] u fun e u' => e = .returned (.tuple #[nmV y, .bool ok]) ∧ Below u.heap.size u u')
    (hWk : ok = true → ∀ u : World, Calls Try.prog f #[fdV p v, nmV x, nmV y] u fun e u' => e = .returned (nmV R) ∧ Below u.heap.size u u') :
    Calls Try.prog 33 #[fdV p v, nmV x, .pointer (some ⟨g, 0, none⟩), .pointer (some ⟨k, 0, none⟩)] w fun e u => e = .returned (.tuple #[nmV (bif ok then R else 0), .bool ok]) ∧ Below w.heap.size w u := by
  have HRd := Lib.hid hRd
  have HWk := Lib.hid hWk
  clear hRd hWk
  go_enter Try.func33, Try.ntmps33
  go_upto_region 0 with (fail)
  apply wp_region_lit
  refine wpList_box_to rfl 50 _ rfl (fdA p v) (by kernel_rfl) w.heap.size rfl ?_
  refine wpList_box_to rfl 48 _ rfl (nmA (lb x)) (by kernel_rfl) (w.heap.size + 1) (by simp) ?_
  refine wpList_alloc_to rfl 48 rfl (nmA (lb 0)) (w.heap.size + 2) (by simp) alloc_n ?_
  refine Lw.wpList_val rfl (.bool false) (((w.alloc (.cells (fdA p v) 50)).alloc (.cells (nmA (lb x)) 48)).alloc (.cells (nmA (lb 0)) 48)) (by go_simp) ?_
  simp only [Act.put, List.setIfInBounds_toArray, List.set_cons_zero, List.set_cons_succ]
  have HM := Lib.hid (By.new w p v x)
  have HC := Lib.hid (((hC.alloc (.cells (fdA p v) 50)).alloc (.cells (nmA (lb x)) 48)).alloc (.cells (nmA (lb 0)) 48))
  clear hC
  generalize ((w.alloc (.cells (fdA p v) 50)).alloc (.cells (nmA (lb x)) 48)).alloc (.cells (nmA (lb 0)) 48) = w1 at HM HC ⊢
  generalize hFv : fdV p v = Fv at HRd HWk
  have HFv : Hid (Fv = .agg (fdA p v)) := hFv.symm
  clear hFv
  go_upto_region 1 with (fail)
  apply wp_region_lit
  refine wpList_load_row rfl 50 _ rfl w.heap.size (by kernel_rfl) 50 (fdA p v) (0, 0) _ HM.out.f Try.underlying50 rfl (by kernel_rfl) ?_
  rw [← HFv.out]
  have hcb := HC.out.b
  refine Lw.wpList_val rfl (.string b) w1 (by go_simp) ?_
  clear hcb
  simp only [Act.put, List.setIfInBounds_toArray, List.set_cons_zero, List.set_cons_succ]
  refine Lw.wpList_callTo (some 13) rfl rfl 31 _ _ rfl (fun _ _ => by go_simp) #[Fv, .string b] (by kernel_rfl) ?_
  refine (HRd.out _).mono ?_
  rintro e u ⟨rfl, hb⟩
  refine ⟨_, rfl, ?_⟩
  have HM := Lib.hid (HM.out.on hb)
  have HC := Lib.hid (HC.out.on hb)
  clear hb HRd
  refine Lw.wpList_val rfl (.tuple #[nmV y, .bool ok]) u (by go_simp) ?_
  refine Lw.wpList_val rfl (nmV y) u (by go_simp) ?_
  refine Lw.wpList_val rfl (.bool ok) u (by go_simp) ?_
  refine wpList_alloc_to rfl 48 rfl (nmA (lb 0)) u.heap.size rfl alloc_n ?_
  simp only [Act.put, List.setIfInBounds_toArray, List.set_cons_zero, List.set_cons_succ]
  refine wpList_store_row rfl 48 _ _ rfl u.heap.size (nmA (lb y)) (by kernel_rfl) (by kernel_rfl) 48 _ (heap_alloc_last _ _) (by kernel_rfl) (by rw [nmA_size, nmA_size]) (nmA_one _) ?_
  rw [World.setRow_alloc_new]
  refine Lw.wpList_val rfl (.bool ok) (u.alloc (.cells (nmA (lb y)) 48)) (by go_simp) ?_
  simp only [Act.put, List.setIfInBounds_toArray, List.set_cons_zero, List.set_cons_succ]
  have HY := Lib.hid (Nb.new u y)
  have HM := Lib.hid (HM.out.alloc (.cells (nmA (lb y)) 48))
  have HC := Lib.hid (HC.out.alloc (.cells (nmA (lb y)) 48))
  generalize u.alloc (.cells (nmA (lb y)) 48) = w2 at HY HM HC ⊢
  generalize u.heap.size = gy at HY ⊢
  cases ok
  · generalize nmV x = Xv
    generalize nmV y = Yv
    go_upto_region 3 with (fail)
    apply wp_region_lit
    refine wpList_build_to rfl 48 _ rfl (nmA (lb 0)) (by kernel_rfl) ?_
    refine wpList_store_row rfl 48 _ _ rfl (w.heap.size + 2) (nmA (lb 0)) (by kernel_rfl) (by kernel_rfl) 48 _ HM.out.r (by kernel_rfl) (by first | rw [nmA_size, nmA_size] | rfl) (nmA_one _) ?_
    refine Lw.wpList_val rfl (.bool false) (w2.setRow (w.heap.size + 2) (nmA (lb 0))) (by go_simp) ?_
    simp only [Act.put, List.setIfInBounds_toArray, List.set_cons_zero, List.set_cons_succ]
    have HRr := Lib.hid HM.out.r
    generalize hA : nmA (lb 0) = A at HRr ⊢
    go_wp2_with (fail)
    refine bodyPost_ret (v := .tuple #[.agg A, .bool false]) ?_ rfl ?_
    · exact results_row_slot (fn := Try.f33) Try.results33 _ _ (w.heap.size + 2) 48 _ (0, 0) _ _ rfl rfl (setRow_heap _ _ _ _ _ _ HRr.out) Try.underlying48 rfl (by rw [← hA]; kernel_rfl)
    · exact ⟨by rw [← hA]; rfl, below_setRow HM.out.below (by omega) _⟩
  · generalize nmV x = Xv
    generalize nmV y = Yv
    go_upto_region 4 with (fail)
    apply wp_region_lit
    have hcf := HC.out.f
    refine Lw.wpList_val rfl (.func (.func f) #[] #[]) w2 (by go_simp) ?_
    clear hcf
    refine wpList_load_row rfl 50 _ rfl w.heap.size (by kernel_rfl) 50 (fdA p v) (0, 0) _ HM.out.f Try.underlying50 rfl (by kernel_rfl) ?_
    rw [← HFv.out]
    refine wpList_load_row rfl 48 _ rfl (w.heap.size + 1) (by kernel_rfl) 48 (nmA (lb x)) (0, 0) _ HM.out.a Try.underlying48 rfl (by kernel_rfl) ?_
    refine wpList_load_row rfl 48 _ rfl gy (by kernel_rfl) 48 (nmA (lb y)) (0, 0) _ HY.out Try.underlying48 rfl (by kernel_rfl) ?_
    simp only [Act.put, List.setIfInBounds_toArray, List.set_cons_zero, List.set_cons_succ]
    refine wpList_callVia (some 23) rfl rfl _ _ _ rfl f #[] rfl hr #[Fv, nmV x, nmV y] (by kernel_rfl) ?_
    refine (HWk.out rfl _).mono ?_
    rintro e u2 ⟨rfl, hb⟩
    refine ⟨_, rfl, ?_⟩
    have HM := Lib.hid (HM.out.on hb)
    clear hb
    generalize nmV x = Xw
    generalize nmV y = Yw
    simp only [Act.put, List.setIfInBounds_toArray, List.set_cons_zero, List.set_cons_succ]
    refine wpList_store_row rfl 48 _ _ rfl (w.heap.size + 2) (nmA (lb R)) (by kernel_rfl) (by kernel_rfl) 48 _ HM.out.r (by kernel_rfl) (by first | rw [nmA_size, nmA_size] | rfl) (nmA_one _) ?_
    refine Lw.wpList_val rfl (.bool true) (u2.setRow (w.heap.size + 2) (nmA (lb R))) (by go_simp) ?_
    simp only [Act.put, List.setIfInBounds_toArray, List.set_cons_zero, List.set_cons_succ]
    have HRr := Lib.hid HM.out.r
    generalize hA : nmA (lb R) = A at HRr ⊢
    go_wp2_with (fail)
    refine bodyPost_ret (v := .tuple #[.agg A, .bool true]) ?_ rfl ?_
    · exact results_row_slot (fn := Try.f33) Try.results33 _ _ (w.heap.size + 2) 48 _ (0, 0) _ _ rfl rfl (setRow_heap _ _ _ _ _ _ HRr.out) Try.underlying48 rfl (by rw [← hA]; kernel_rfl)
    · exact ⟨by rw [← hA]; rfl, below_setRow HM.out.below (by omega) _⟩
end Go.Proofs.Nd
