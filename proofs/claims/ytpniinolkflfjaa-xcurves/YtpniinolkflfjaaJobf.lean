/-
  The developers' numbers: products in a field.
-/
import Derived.Test.YtpniinolkflfjaaJobe
namespace Go.Proofs.Nd
open Go.RowKit
open Go.Proofs.Im (wpList_box_to words_heap words_one run_index_row ready_skip)
open Go.Proofs.Sha (wordCells wordCells_get wordCells_size rowIs_of wpList_alloc_to wpList_build_to)
open Go.Proofs.Nt
open Go.Proofs.Rt (ready_loadTo ready_callTo)
open Go.Proofs.Nu (nmL nmA nmV lt8 nmA_get nmA_congr nmA_one nmA_size results_row_slot B8 b8 nv8 nmA_lb nv_lt8 md mP mN mX md_lt wpList_on wpList_off)
theorem exec_store_row {P : Program} {o : Oper} {a : Act} {w : World} (ty : TypeId) (x y : Operand) (ho : o.op = .store ty x y) (g : Nat) (cells : Array Value) (hx : a.eval x = .pointer (some ⟨g, 0, none⟩)) (hy : a.eval y = .agg cells)
    (t : TypeId) (old : Array Value) (hw : w.heap[g]? = some (.cells old t (0, 0))) (hi : (P.info? ty).map (·.size) = some cells.size) (hold : old.size = cells.size) (h1 : cells.all (·.oneCell') = true) : (execOp a.eval o).run P w = .ok .skip (w.setRow g cells) := by
  unfold execOp
  simp only [ho, hx, hy, Instr.storeAt, Instr.sureAddr, Sem.run_bind, Sem.run_pure, Result.andThen_ok, run_storeVar_row w g t ty old cells hw hi hold h1]
/-- What holds ahead of a round: j words are to be taken out. -/
def Iv (p X j : Nat) (t : Nat → Nat) : Prop := (∀ i, t i < 4294967296) ∧ (∀ i, j + 8 ≤ i → t i = 0) ∧ nv t 16 % p = X % p
theorem iv_start {p X m : Nat} (hm : m = 8) (hX : X < 2 ^ (32 * m) * 2 ^ (32 * m)) : Iv p X 8 (lb X) := by
  rw [← Nat.pow_add] at hX
  have e : nv (lb X) (m + m) = X := nv_lb (by rw [show 32 * (m + m) = 32 * m + 32 * m by omega]; exact hX)
  refine ⟨lb_lt X, fun i hi => ?_, ?_⟩
  · unfold lb
    rw [Nat.div_eq_of_lt (Nat.lt_of_lt_of_le hX (Nat.pow_le_pow_right (by decide) (by omega)))]
  · rw [hm] at e
    exact congrArg (· % p) e
theorem iv_next {p X j : Nat} {t t' : Nat → Nat} (h : Iv p X (j + 1) t) (f : Fo p j t t') : Iv p X j t' := by
  refine ⟨f.1, fun i hi => ?_, f.2.2.2.trans h.2.2⟩
  rcases Nat.lt_or_ge (j + 8) i with h1 | h1
  · rw [f.2.2.1 i (by omega)]; exact h.2.1 i (by omega)
  · rw [show i = j + 8 by omega]; exact f.2.1
theorem iv_end {p X : Nat} {t : Nat → Nat} (h : Iv p X 0 t) : nv t 8 < B8 ∧ nv t 8 % p = X % p ∧ nmA t = nmA (lb (nv t 8)) := by
  refine ⟨nv_lt8 h.1, ?_, nmA_lb h.1⟩
  have e : nv t 16 = nv t 8 := by
    rw [nv_split t 8 8, nv_nought 8 fun i hi => h.2.1 (8 + i) (by omega), Nat.zero_mul, Nat.add_zero]
  rw [← e]
  exact h.2.2
theorem fdA_arr (p o : Nat) : (fdA p o).toList.toArray = fdA p o := rfl
theorem Fd.range {u : World} {g p o : Nat} (h : Fd u g p o) : u.rangeAt g 0 (fdA p o).toList := World.rangeAt_of_block h 0 16
theorem Bx.but {w u v : World} {p o a b g : Nat} (h : Bx w u p o a b) (hb : But g u v) (hg : w.heap.size + 3 < g) : Bx w v p o a b :=
  ⟨h.f.but hb (by omega), (hb.block _ h.a.lt (by omega)).trans h.a, (hb.block _ h.b.lt (by omega)).trans h.b, (hb.block _ h.r.lt (by omega)).trans h.r, hb.below h.below (by omega) h.below.size⟩
theorem RW.lit {w : World} {g x : Nat} (h : w.heap[g]? = some (.cells (wdA (lb x)) 83 (0, 0))) : RW w g (lb x) := ⟨_, h, rfl, wdA_get (lb x)⟩
set_option maxHeartbeats 4000000 in
set_option maxRecDepth 20000 in
theorem times_raw (p o a b X R : Nat) (w : World) (hp : ∀ u : World, Calls Try.prog 51 #[nmV a, nmV b] u fun e u' => e = .returned (wdV X) ∧ Below u.heap.size u u') (hX : Iv p X 8 (lb X)) (hR : X % p = R)
    (hF : ∀ (g j : Nat) (t : Nat → Nat) (u : World), RW u g t → j < 8 → (∀ i, t i < 4294967296) → Calls Try.prog 52 #[fdV p o, .pointer (some ⟨g, 0, none⟩), .int .i64 (j : Nat)] u fun e u' => e = .returned (.tuple #[]) ∧ But g u u' ∧ ∃ t', Fo p j t t' ∧ RW u' g t')
    (hS : ∀ (n : Nat) (u : World), n < B8 → Calls Try.prog 40 #[fdV p o, nmV n] u fun e u' => e = .returned (nmV (n % p)) ∧ Below u.heap.size u u') :
    Calls Try.prog 45 #[fdV p o, nmV a, nmV b] w fun e u => e = .returned (nmV R) ∧ Below w.heap.size w u := by
  have HP := Lib.hid hp
  have HI := Lib.hid hX
  have HR := Lib.hid hR
  have HFo := Lib.hid hF
  have HSt := Lib.hid hS
  clear hp hX hR hF hS
  go_enter Try.func45, Try.ntmps45
  go_upto_region 0 with (fail)
  apply wp_region_lit
  refine wpList_box_to rfl 40 _ rfl (fdA p o) (by kernel_rfl) w.heap.size rfl ?_
  refine wpList_box_to rfl 38 _ rfl (nmA (lb a)) (by kernel_rfl) (w.heap.size + 1) (by simp) ?_
  refine wpList_box_to rfl 38 _ rfl (nmA (lb b)) (by kernel_rfl) (w.heap.size + 2) (by simp) ?_
  refine wpList_alloc_to rfl 38 rfl (nmA (lb 0)) (w.heap.size + 3) (by simp) alloc_n ?_
  simp only [Act.put, List.setIfInBounds_toArray, List.set_cons_zero, List.set_cons_succ]
  have HM := Lib.hid (Bx.new w p o a b)
  generalize (((w.alloc (.cells (fdA p o) 40)).alloc (.cells (nmA (lb a)) 38)).alloc (.cells (nmA (lb b)) 38)).alloc (.cells (nmA (lb 0)) 38) = w1 at HM ⊢
  generalize hFv : fdV p o = Fv at HFo HSt
  have HFv : Hid (Fv = .agg (fdA p o)) := hFv.symm
  clear hFv
  go_upto_region 1 with (fail)
  apply wp_region_lit
  refine wpList_load_row rfl 38 _ rfl (w.heap.size + 1) (by kernel_rfl) 38 (nmA (lb a)) (0, 0) _ HM.out.a Try.underlying38 rfl (by kernel_rfl) ?_
  refine wpList_load_row rfl 38 _ rfl (w.heap.size + 2) (by kernel_rfl) 38 (nmA (lb b)) (0, 0) _ HM.out.b Try.underlying38 rfl (by kernel_rfl) ?_
  simp only [Act.put, List.setIfInBounds_toArray, List.set_cons_zero, List.set_cons_succ]
  refine Lw.wpList_callTo (some 11) rfl rfl 51 _ _ rfl (fun _ _ => by go_simp) #[nmV a, nmV b] (by kernel_rfl) ?_
  refine (HP.out _).mono ?_
  rintro e u ⟨rfl, hb⟩
  refine ⟨_, rfl, ?_⟩
  have HM := Lib.hid (HM.out.on hb)
  clear hb
  refine wpList_alloc_to rfl 83 rfl (wdA fun _ => 0) u.heap.size rfl alloc16 ?_
  simp only [Act.put, List.setIfInBounds_toArray, List.set_cons_zero, List.set_cons_succ]
  refine wpList_store_row rfl 83 _ _ rfl u.heap.size (wdA (lb X)) (by kernel_rfl) (by kernel_rfl) 83 _ (heap_alloc_last _ _) (by kernel_rfl) (by rw [wdA_size, wdA_size]) (wdA_one _) ?_
  rw [World.setRow_alloc_new]
  simp only [Act.put]
  have HW := Lib.hid (RW.new u (lb X))
  have HG : Hid (w.heap.size + 3 < u.heap.size) := HM.out.lt
  have HM := Lib.hid (HM.out.alloc (.cells (wdA (lb X)) 83))
  generalize u.alloc (.cells (wdA (lb X)) 83) = w2 at HW HM ⊢
  generalize u.heap.size = g at HW HG ⊢
  generalize nmV a = Av
  generalize nmV b = Bv
  generalize wdV X = Xv
  clear HP
  go_wp2_with (fail)
  go_loopw [8] (fun v wx => ∃ (j : Nat) (t : Nat → Nat), Hid (j ≤ 8) ∧ v = .int .i64 ((j : Int) - 1) ∧ Hid (Iv p X j t) ∧ Hid (RW wx g t) ∧ Hid (Bx w wx p o a b)) (fun v _ => (intOf v + 1).toNat)
  case atStart => exact ⟨8, lb X, Nat.le_refl _, rfl, HI, HW, HM⟩
  case round =>
    clear HW HM HI
    obtain ⟨j, t, hj, rfl, HI, HW, HM⟩ := hrel
    rcases Nat.eq_zero_or_pos j with rfl | hpos
    · obtain ⟨hn1, hn2, hn3⟩ := iv_end HI.out
      have HL : Hid (∀ u, RW u g t → Calls Try.prog 53 #[.pointer (some ⟨g, 0, none⟩)] u fun e u' => e = .returned (nmV (nv t 8)) ∧ Below u.heap.size u u') := fun u h => by
        have := low_any g t u h
        rw [hn3] at this
        exact this
      have HQ : Hid (∀ u, Calls Try.prog 40 #[Fv, nmV (nv t 8)] u fun e u' => e = .returned (nmV R) ∧ Below u.heap.size u u') := fun u => by
        have := HSt.out (nv t 8) u hn1
        rw [hn2, HR.out] at this
        exact this
      generalize nv t 8 = n at HL HQ
      clear hn1 hn2 hn3 HFo HSt hj HI
      go_upto_region 6 with (fail)
      refine wp_region_any (by kernel_rfl) ?_
      change wpAny _ _ _ _ _ _ _ wr.drew
      have HW : Hid (RW wr.drew g t) := World.rowIs.drew HW.out
      have HM : Hid (Bx w wr.drew p o a b) := ⟨HM.out.f, HM.out.a, HM.out.b, HM.out.r, HM.out.below.drew⟩
      generalize wr.drew = w3 at HW HM ⊢
      refine wpAny_ready (rs := [0, 1]) (by kernel_rfl) (by simp) ?_
      refine ready_loadTo (some 19) rfl rfl rfl 40 _ rfl w.heap.size 0 (by kernel_rfl) (fdA p o).toList _ HM.out.f.range Try.underlying40 rfl (by kernel_rfl) ?_ (ready_callTo (some 20) rfl rfl rfl 53 _ _ rfl (fun _ _ => by go_simp) #[.pointer (some ⟨g, 0, none⟩)] (by kernel_rfl) ?_ AllReady.nil)
      · rw [fdA_arr, ← HFv.out]
        simp only [Act.put, List.setIfInBounds_toArray, List.set_cons_zero, List.set_cons_succ]
        refine wpAny_ready (rs := [1]) (by kernel_rfl) (by simp) ?_
        refine ready_callTo (some 20) rfl rfl rfl 53 _ _ rfl (fun _ _ => by go_simp) #[.pointer (some ⟨g, 0, none⟩)] (by kernel_rfl) ?_ AllReady.nil
        refine (HL.out _ HW.out).mono ?_
        rintro e u1 ⟨rfl, hb⟩
        refine ⟨_, rfl, ?_⟩
        have HM := Lib.hid (HM.out.on hb)
        clear hb
        simp only [Act.put, List.setIfInBounds_toArray, List.set_cons_zero, List.set_cons_succ]
        refine wpAny_ready (rs := [2]) (by kernel_rfl) (by simp) ?_
        refine ready_callTo (some 21) rfl rfl rfl 40 _ _ rfl (fun _ _ => by go_simp) #[Fv, nmV n] (by kernel_rfl) ?_ AllReady.nil
        refine (HQ.out _).mono ?_
        rintro e u2 ⟨rfl, hb⟩
        refine ⟨_, rfl, ?_⟩
        have HM := Lib.hid (HM.out.on hb)
        clear hb
        simp only [Act.put, List.setIfInBounds_toArray, List.set_cons_zero, List.set_cons_succ]
        refine wpAny_ready (rs := [3]) (by kernel_rfl) (by simp) ?_
        refine ready_skip rfl rfl rfl (u2.setRow (w.heap.size + 3) (nmA (lb R))) (exec_store_row 38 _ _ rfl (w.heap.size + 3) (nmA (lb R)) (by kernel_rfl) (by kernel_rfl) 38 _ HM.out.r (by kernel_rfl) (by rw [nmA_size, nmA_size]) (nmA_one _)) ?_ AllReady.nil
        refine wpAny_done (by kernel_rfl) ?_ _
        have HRr := Lib.hid HM.out.r
        generalize hA : nmA (lb R) = A
        generalize nmV n = Nv
        generalize nmV R = Rv
        go_wp2_with (fail)
        refine bodyPost_ret (v := .agg A) ?_ rfl ?_
        · exact results_cell_row (fn := Try.f45) Try.results45 _ _ (w.heap.size + 3) 38 _ (0, 0) _ rfl (setRow_heap _ _ _ _ _ _ HRr.out) Try.underlying38 rfl (by rw [← hA]; kernel_rfl)
        · exact ⟨by rw [← hA]; rfl, below_setRow HM.out.below (by omega) _⟩
      · refine (HL.out _ HW.out).mono ?_
        rintro e u1 ⟨rfl, hb⟩
        refine ⟨_, rfl, ?_⟩
        have HM := Lib.hid (HM.out.on hb)
        clear hb
        simp only [Act.put, List.setIfInBounds_toArray, List.set_cons_zero, List.set_cons_succ]
        refine wpAny_ready (rs := [0]) (by kernel_rfl) (by simp) ?_
        refine ready_loadTo (some 19) rfl rfl rfl 40 _ rfl w.heap.size 0 (by kernel_rfl) (fdA p o).toList _ HM.out.f.range Try.underlying40 rfl (by kernel_rfl) ?_ AllReady.nil
        rw [fdA_arr, ← HFv.out]
        simp only [Act.put, List.setIfInBounds_toArray, List.set_cons_zero, List.set_cons_succ]
        refine wpAny_ready (rs := [2]) (by kernel_rfl) (by simp) ?_
        refine ready_callTo (some 21) rfl rfl rfl 40 _ _ rfl (fun _ _ => by go_simp) #[Fv, nmV n] (by kernel_rfl) ?_ AllReady.nil
        refine (HQ.out _).mono ?_
        rintro e u2 ⟨rfl, hb⟩
        refine ⟨_, rfl, ?_⟩
        have HM := Lib.hid (HM.out.on hb)
        clear hb
        simp only [Act.put, List.setIfInBounds_toArray, List.set_cons_zero, List.set_cons_succ]
        refine wpAny_ready (rs := [3]) (by kernel_rfl) (by simp) ?_
        refine ready_skip rfl rfl rfl (u2.setRow (w.heap.size + 3) (nmA (lb R))) (exec_store_row 38 _ _ rfl (w.heap.size + 3) (nmA (lb R)) (by kernel_rfl) (by kernel_rfl) 38 _ HM.out.r (by kernel_rfl) (by rw [nmA_size, nmA_size]) (nmA_one _)) ?_ AllReady.nil
        refine wpAny_done (by kernel_rfl) ?_ _
        have HRr := Lib.hid HM.out.r
        generalize hA : nmA (lb R) = A
        generalize nmV n = Nv
        generalize nmV R = Rv
        go_wp2_with (fail)
        refine bodyPost_ret (v := .agg A) ?_ rfl ?_
        · exact results_cell_row (fn := Try.f45) Try.results45 _ _ (w.heap.size + 3) 38 _ (0, 0) _ rfl (setRow_heap _ _ _ _ _ _ HRr.out) Try.underlying38 rfl (by rw [← hA]; kernel_rfl)
        · exact ⟨by rw [← hA]; rfl, below_setRow HM.out.below (by omega) _⟩
    · obtain ⟨i, rfl⟩ : ∃ i, j = i + 1 := ⟨j - 1, by omega⟩
      rw [show ((i + 1 : Nat) : Int) - 1 = (i : Int) by omega]
      have i0 : ((0 : Int) ≤ (i : Int)) = True := eq_true (by omega)
      have i8 : (i : Int) < 8 := by have := hj.out; omega
      have HJ : Hid (i < 8) := by show _ < _; have := hj.out; omega
      have HC := Lib.hid (HFo.out g i t wr HW.out HJ.out HI.out.1)
      clear hj hpos
      go_upto_region 5 with (fail)
      apply wp_region_lit
      refine wpList_load_row rfl 40 _ rfl w.heap.size (by kernel_rfl) 40 (fdA p o) (0, 0) _ HM.out.f Try.underlying40 rfl (by kernel_rfl) ?_
      rw [← HFv.out]
      refine Lw.wpList_val rfl (.int .i64 (i : Nat)) wr (by go_simp) ?_
      simp only [Act.put, List.setIfInBounds_toArray, List.set_cons_zero, List.set_cons_succ]
      refine Lw.wpList_callTo (some 18) rfl rfl 52 _ _ rfl (fun _ _ => by go_simp) #[Fv, .pointer (some ⟨g, 0, none⟩), .int .i64 (i : Nat)] (by kernel_rfl) ?_
      refine HC.out.mono ?_
      rintro e u1 ⟨rfl, hb, t', hfo, hrw⟩
      refine ⟨_, rfl, ?_⟩
      have HM := Lib.hid (HM.out.but hb HG.out)
      have HW := Lib.hid hrw
      have HI := Lib.hid (iv_next HI.out hfo)
      clear hb hrw hfo HC
      simp only [Act.put, List.setIfInBounds_toArray, List.set_cons_zero, List.set_cons_succ]
      go_wp2_with (fail)
      exact ⟨⟨i, t', by have := HJ.out; show i ≤ 8; omega, by go_num, HI, HW, HM⟩, by simp [intOf]⟩
theorem times_any (p v a b : Nat) (w : World) (hG : Good p v) (ha : a < B8) (hb : b < B8) : Calls Try.prog 45 #[fdV p v, nmV a, nmV b] w fun e u => e = .returned (nmV (a * b % p)) ∧ Below w.heap.size w u :=
  times_raw p v a b (a * b) _ w (fun u => product_any a b u ha hb) (iv_start rfl (by rw [← b8]; exact Nat.mul_lt_mul'' ha hb)) rfl (fun g j t u h1 h2 h3 => fold_any p v g j t u hG h1 h2 h3) (fun n u h => rest_any p v n u hG.lt (Nat.lt_trans Nat.zero_lt_one hG.one) h)
end Go.Proofs.Nd
