/-
  The developers' numbers: a word taken out of a product, as many times what 2^256 is.
-/
import Derived.Test.YtpniinolkflfjaaJobc
namespace Go.Proofs.Nd
open Go.RowKit
open Go.Proofs.Im (wpList_box_to words_heap words_one run_index_row wpAny_two ready_skip)
open Go.Proofs.Sha (wordCells wordCells_get wordCells_size rowIs_of wpList_alloc_to wpList_build_to)
open Go.Proofs.Nt
open Go.Proofs.Nu (nmL nmA nmV lt8 nmA_get nmA_congr nmA_one nmA_size results_row_slot B8 b8 nv8 nmA_lb nv_lt8 md mP mN mX md_lt)
open Go.Proofs.Rt (ready_callTo)
theorem exec_load_mid {P : Program} {o : Oper} {a : Act} {w : World} (ty : TypeId) (x : Operand) (ho : o.op = .load ty x) (b off : Nat) (hx : a.eval x = .pointer (some ⟨b, off, none⟩)) (cs : List Value) (d : TypeDesc) (hc : w.rangeAt b off cs)
    (hu : P.underlying ty = some d) (hd : d.isRow = true) (hi : (P.info? ty).map (·.size) = some cs.length) : (execOp a.eval o).run P w = .ok (.value (.agg cs.toArray)) w := by
  unfold execOp
  simp only [ho, hx, Sem.run_bind, run_loadAt_mid (P := P) w b off ty cs d hc hu hd hi, Result.andThen_ok, Sem.run_pure]
/-- The words behind the first step, behind the second. -/
def fo1 (t : Nat → Nat) (o v i : Nat) : Nat := if i = o + 8 then wc (t (o + 8)) (lb v) t o else wa (t (o + 8)) (lb v) t o i
def fo2 (t : Nat → Nat) (o v i : Nat) : Nat := if i = o + 8 then 0 else fo1 t o v i
theorem fo1_lt {t : Nat → Nat} {o v : Nat} (ht : ∀ i, t i < 4294967296) (i : Nat) : fo1 t o v i < 4294967296 := by
  unfold fo1
  split
  · exact ac_lt (ht _) (lb_lt v) (fun i => ht (o + i)) 8
  · exact wa_lt ht i
theorem fo2_lt {t : Nat → Nat} {o v : Nat} (ht : ∀ i, t i < 4294967296) (i : Nat) : fo2 t o v i < 4294967296 := by
  unfold fo2
  split
  · decide
  · exact fo1_lt ht i
set_option maxHeartbeats 2000000 in
set_option maxRecDepth 20000 in
theorem fold_raw (p v g o : Nat) (t : Nat → Nat) (R : (Nat → Nat) → Prop) (w : World) (H : RW w g t) (ho : o < 8) (ht : ∀ i, t i < 4294967296)
    (h1 : wc (t (o + 8)) (lb v) t o = 0 → R (fo1 t o v)) (h2 : ¬ wc (t (o + 8)) (lb v) t o = 0 → R (wa 1 (lb v) (fo2 t o v) o)) :
    Calls Try.prog 52 #[fdV p v, .pointer (some ⟨g, 0, none⟩), .int .i64 (o : Nat)] w fun e u => e = .returned (.tuple #[]) ∧ But g w u ∧ ∃ t', R t' ∧ RW u g t' := by
  have HC1 : Hid (∀ u, RW u g t → Calls Try.prog 55 #[.pointer (some ⟨g, 0, none⟩), .int .i64 (o : Nat), .int .u32 (t (o + 8) : Nat), nmV v] u fun e u' => e = .returned (.int .u32 (wc (t (o + 8)) (lb v) t o : Nat)) ∧ But g u u' ∧ RW u' g (wa (t (o + 8)) (lb v) t o)) := fun u h => wadd_any g o (t (o + 8)) v t u h (by omega) (ht _) ht
  have HC2 : Hid (∀ u, RW u g (fo2 t o v) → Calls Try.prog 55 #[.pointer (some ⟨g, 0, none⟩), .int .i64 (o : Nat), .int .u32 (1 : Nat), nmV v] u fun e u' => e = .returned (.int .u32 (wc 1 (lb v) (fo2 t o v) o : Nat)) ∧ But g u u' ∧ RW u' g (wa 1 (lb v) (fo2 t o v) o)) := fun u h => wadd_any g o 1 v (fo2 t o v) u h (by omega) (by decide) (fo2_lt ht)
  have HR1 := Lib.hid h1
  have HR2 := Lib.hid h2
  have HW0 := Lib.hid H
  have hgl := H.lt
  have hcl : wc (t (o + 8)) (lb v) t o < 4294967296 := ac_lt (ht _) (lb_lt v) (fun i => ht (o + i)) 8
  have hfl := ht (o + 8)
  obtain ⟨T, hT⟩ : ∃ T, T = o + 8 := ⟨_, rfl⟩
  have HF1 : Hid (∀ i, (if i = T then wc (t (o + 8)) (lb v) t o else wa (t (o + 8)) (lb v) t o i) = fo1 t o v i) := fun i => by rw [hT]; rfl
  have HF2 : Hid (∀ i, (if i = T then 0 else fo1 t o v i) = fo2 t o v i) := fun i => by rw [hT]; rfl
  have HE1 : Hid (fo1 t o v T = wc (t (o + 8)) (lb v) t o) := by show _ = _; rw [hT]; exact if_pos rfl
  rw [← hT] at HC1 HF1 HE1 HR1 HR2 hcl hfl
  obtain ⟨f, hf⟩ : ∃ f, t T = f := ⟨_, rfl⟩
  rw [hf] at HC1 HF1 HE1 HR1 HR2 hcl hfl
  have HTt := Lib.hid hf
  have w8 : IntKind.i64.wrap ((o : Int) + 8) = (T : Int) := by rw [hT, IntWalk.i64_in _ (by omega)]; omega
  have t16 : (T : Int) < 16 := by omega
  have T16 : Hid (T < 16) := by show _ < _; omega
  clear H ht h1 h2 hT ho hf
  generalize wc f (lb v) t o = k at HC1 HR1 HR2 HF1 HE1 hcl
  generalize wa f (lb v) t o = t1 at HC1 HF1
  generalize wc 1 (lb v) (fo2 t o v) o = k2 at HC2
  generalize wa 1 (lb v) (fo2 t o v) o = t4 at HC2 HR2
  generalize fo2 t o v = t3 at HC2 HF2
  generalize fo1 t o v = t2 at HR1 HF1 HF2 HE1
  go_enter Try.func52, Try.ntmps52
  go_upto_region 0 with (fail)
  apply wp_region_lit
  refine wpList_box_to rfl 40 _ rfl (fdA p v) (by kernel_rfl) w.heap.size rfl ?_
  simp only [Act.put, List.setIfInBounds_toArray, List.set_cons_zero, List.set_cons_succ]
  have HF := Lib.hid (Fd.new w p v)
  have HW : Hid (RW (w.alloc (.cells (fdA p v) 40)) g t) := World.rowIs.alloc HW0.out _
  have HB : Hid (But g w (w.alloc (.cells (fdA p v) 40))) := But.of_below ((Below.refl _ _).alloc (Nat.le_refl _) _)
  have HG : Hid (w.heap.size ≠ g) := by show _ ≠ _; omega
  clear HW0 hgl
  generalize w.alloc (.cells (fdA p v) 40) = w1 at HF HW HB ⊢
  generalize fdV p v = Fv
  generalize hVv : nmV v = Vv at HC1 HC2
  have HVv : Hid ((nmA (lb v)).toList.toArray = nmA (lb v) ∧ Vv = .agg (nmA (lb v))) := ⟨rfl, hVv.symm⟩
  clear hVv
  go_upto_region 2 with (fail)
  refine wp_region_any (by kernel_rfl) ?_
  change wpAny _ _ _ _ _ _ _ w1.drew
  have HF : Hid (Fd w1.drew w.heap.size p v) := HF.out
  have HW : Hid (RW w1.drew g t) := World.rowIs.drew HW.out
  have HB : Hid (But g w w1.drew) := HB.out.drewN 1
  generalize w1.drew = w2 at HF HW HB ⊢
  refine Lw.take_to (i := 0) (some 9) (.pointer (some ⟨g, 0, none⟩)) rfl rfl (by kernel_rfl) (by kernel_rfl) (by kernel_rfl) (fun _ _ _ h => h) (Or.inl ⟨by rfl, fun w => by go_simp⟩) ?_
  refine Lw.take_to (i := 1) (some 10) (.int .i64 (T : Nat)) rfl rfl (by kernel_rfl) (by kernel_rfl) (by kernel_rfl) (fun _ _ _ h => h) (Or.inl ⟨by rfl, fun w => by go_simp⟩) ?_
  refine Lw.take_to (i := 2) (some 11) (.pointer (some ⟨g, 0, none⟩)) rfl rfl (by kernel_rfl) (by kernel_rfl) (by kernel_rfl) (fun _ _ _ h => h) (Or.inl ⟨by rfl, fun w => by go_simp⟩) ?_
  refine Lw.take_to (i := 3) (some 12) (.int .i64 (o : Nat)) rfl rfl (by kernel_rfl) (by kernel_rfl) (by kernel_rfl) (fun _ _ _ h => h) (Or.inl ⟨by rfl, fun w => by go_simp⟩) ?_
  refine Lw.take_to (i := 4) (some 13) (.pointer (some ⟨g, 0, none⟩)) rfl rfl (by kernel_rfl) (by kernel_rfl) (by kernel_rfl) (fun _ _ _ h => h) (Or.inl ⟨by rfl, fun w => by go_simp⟩) ?_
  refine Lw.take_to (i := 5) (some 14) (.int .i64 (T : Nat)) rfl rfl (by kernel_rfl) (by kernel_rfl) (by kernel_rfl) (fun _ _ _ h => h) (Or.inl ⟨by rfl, fun w => by go_simp⟩) ?_
  refine Lw.take_to (i := 6) (some 15) (.pointer (some ⟨g, 0, none⟩)) rfl rfl (by kernel_rfl) (by kernel_rfl) (by kernel_rfl) (fun _ _ _ h => h) (Or.inl ⟨by rfl, fun w => by go_simp⟩) ?_
  refine Lw.take_to (i := 7) (some 16) (.pointer (some ⟨g, T, none⟩)) rfl rfl (by kernel_rfl) (by kernel_rfl) (by kernel_rfl) (fun _ _ _ h => h) (Or.inl ⟨by rfl, fun w => by go_simp⟩) ?_
  refine Lw.take_to (i := 9) (some 18) (.pointer (some ⟨w.heap.size, 8, none⟩)) rfl rfl (by kernel_rfl) (by kernel_rfl) (by kernel_rfl) (fun _ _ _ h => h) (Or.inl ⟨by rfl, fun w => by go_simp⟩) ?_
  refine Lw.take_to (i := 12) (some 21) (.pointer (some ⟨g, 0, none⟩)) rfl rfl (by kernel_rfl) (by kernel_rfl) (by kernel_rfl) (fun _ _ _ h => h) (Or.inl ⟨by rfl, fun w => by go_simp⟩) ?_
  simp only [Act.put, List.setIfInBounds_toArray, List.set_cons_zero, List.set_cons_succ]
  have xc := HW.out.at_ T f T16.out HTt.out
  refine wpAny_two (i := 8) (j := 10) (some 17) (some 19) (.int .u32 (f : Nat)) (.agg (nmA (lb v))) (by kernel_rfl) (by kernel_rfl) (by kernel_rfl) rfl rfl rfl rfl rfl rfl rfl rfl (by go_simp) (exec_load_mid 38 _ rfl w.heap.size 8 (by kernel_rfl) (nmA (lb v)).toList _ HF.out.over Try.underlying38 rfl (by kernel_rfl)) (exec_load_mid 38 _ rfl w.heap.size 8 (by kernel_rfl) (nmA (lb v)).toList _ HF.out.over Try.underlying38 rfl (by kernel_rfl)) (by go_simp) ?_
  rw [← HVv.out.2]
  simp only [Act.put, List.setIfInBounds_toArray, List.set_cons_zero, List.set_cons_succ]
  refine wpAny_ready (rs := [11]) (by kernel_rfl) (by simp) ?_
  refine ready_callTo (some 20) rfl rfl rfl 55 _ _ rfl (fun _ _ => by go_simp) #[.pointer (some ⟨g, 0, none⟩), .int .i64 (o : Nat), .int .u32 (f : Nat), Vv] (by kernel_rfl) ?_ AllReady.nil
  refine (HC1.out _ HW.out).mono ?_
  rintro e u ⟨rfl, hbu, hru⟩
  refine ⟨_, rfl, ?_⟩
  have HF := Lib.hid (HF.out.but hbu HG.out)
  have HW := Lib.hid hru
  have HB := Lib.hid (HB.out.trans hbu)
  clear hbu hru HC1 xc
  simp only [Act.put, List.setIfInBounds_toArray, List.set_cons_zero, List.set_cons_succ]
  refine Lw.take_to (i := 13) (some 22) (.pointer (some ⟨g, T, none⟩)) rfl rfl (by kernel_rfl) (by kernel_rfl) (by kernel_rfl) (fun _ _ _ h => h) (Or.inl ⟨by rfl, fun w => by go_simp⟩) ?_
  simp only [Act.put, List.setIfInBounds_toArray, List.set_cons_zero, List.set_cons_succ]
  have xf := World.rowIs.frozen HW.out T
  have xc := HW.out.at_ T (t1 T) T16.out rfl
  refine wpAny_ready (rs := [14]) (by kernel_rfl) (by simp) ?_
  refine ready_skip rfl rfl rfl (u.setCell ⟨g, T, none⟩ (.int .u32 (k : Nat))) (by go_simp) ?_ AllReady.nil
  refine wpAny_done (by kernel_rfl) ?_ _
  have HW := Lib.hid ((HW.out.set T k).congr fun i _ => HF1.out i)
  have HB := Lib.hid (HB.out.setCell T (.int .u32 (k : Nat)))
  have HF : Hid (Fd (u.setCell ⟨g, T, none⟩ (.int .u32 (k : Nat))) w.heap.size p v) := HF.out.but ((But.refl g u).setCell T _) HG.out
  clear xf xc
  generalize u.setCell ⟨g, T, none⟩ (.int .u32 (k : Nat)) = w3 at HW HB HF ⊢
  have xf := World.rowIs.frozen HW.out T
  have xc := HW.out.at_ T k T16.out HE1.out
  by_cases hk : k = 0
  · have HRa := Lib.hid (HR1.out hk)
    subst hk
    clear HR1 HR2 HC2 HF1 HF2 HE1
    go_wp2_with (fail)
    go_end0
    exact ⟨rfl, HB.out, t2, HRa.out, HW.out⟩
  · have HR2 := Lib.hid (HR2.out hk)
    have k0 : ((k : Int) != 0) = true := bne_iff_ne.2 (by omega)
    have k1 : ¬ ((k : Int) = 0) := by omega
    clear HR1 HF1 HE1
    go_upto_region 5 with (fail)
    have HW := Lib.hid ((HW.out.set T 0).congr fun i _ => HF2.out i)
    have HB := Lib.hid (HB.out.setCell T (.int .u32 (0 : Nat)))
    have HF : Hid (Fd (w3.setCell ⟨g, T, none⟩ (.int .u32 (0 : Nat))) w.heap.size p v) := HF.out.but ((But.refl g w3).setCell T _) HG.out
    clear xf xc k0 k1 HF2 hk
    change Hid (RW (w3.setCell ⟨g, T, none⟩ (.int .u32 0)) g t3) at HW
    change Hid (But g w (w3.setCell ⟨g, T, none⟩ (.int .u32 0))) at HB
    change Hid (Fd (w3.setCell ⟨g, T, none⟩ (.int .u32 0)) w.heap.size p v) at HF
    generalize w3.setCell ⟨g, T, none⟩ (.int .u32 0) = w4 at HW HB HF ⊢
    apply wp_region_lit
    refine Lw.wpList_val rfl (.pointer (some ⟨g, 0, none⟩)) w4 (by go_simp) ?_
    refine Lw.wpList_val rfl (.int .i64 (o : Nat)) w4 (by go_simp) ?_
    refine Lw.wpList_val rfl (.pointer (some ⟨w.heap.size, 8, none⟩)) w4 (by go_simp) ?_
    simp only [Act.put, List.setIfInBounds_toArray, List.set_cons_zero, List.set_cons_succ]
    refine wpList_load_mid rfl 38 _ rfl w.heap.size 8 (by kernel_rfl) (nmA (lb v)).toList _ HF.out.over Try.underlying38 rfl (by kernel_rfl) ?_
    rw [HVv.out.1, ← HVv.out.2]
    simp only [Act.put, List.setIfInBounds_toArray, List.set_cons_zero, List.set_cons_succ]
    refine Lw.wpList_callTo (some 37) rfl rfl 55 _ _ rfl (fun _ _ => by go_simp) #[.pointer (some ⟨g, 0, none⟩), .int .i64 (o : Nat), .int .u32 (1 : Nat), Vv] (by kernel_rfl) ?_
    refine (HC2.out _ HW.out).mono ?_
    rintro e u ⟨rfl, hbu, hru⟩
    refine ⟨_, rfl, ?_⟩
    have HW := Lib.hid hru
    have HB := Lib.hid (HB.out.trans hbu)
    clear hbu hru HC2
    go_wp2_with (fail)
    go_end0
    exact ⟨rfl, HB.out, t4, HR2.out, HW.out⟩
end Go.Proofs.Nd
