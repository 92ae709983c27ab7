/-
  The developers' numbers: a whole product.
-/
import Derived.Test.YtpniinolkflfjaaJoap
namespace Go.Proofs.Nd
open Go.RowKit
open Go.Proofs.Im (wpList_box_to words_heap words_one run_index_row)
open Go.Proofs.Sha (wordCells wordCells_get wordCells_size rowIs_of wpList_alloc_to wpList_build_to)
open Go.Proofs.Nt
open Go.Proofs.Nu (nmL nmA nmV lt8 nmA_get nmA_congr nmA_one nmA_size results_row_slot B8 b8 nv8 nmA_lb nv_lt8)
/-- Sixteen words as a value. -/
def wdL (d : Nat → Nat) : List Nat := [d 0, d 1, d 2, d 3, d 4, d 5, d 6, d 7, d 8, d 9, d 10, d 11, d 12, d 13, d 14, d 15]
def wdA (d : Nat → Nat) : Array Value := wordCells .u32 (wdL d)
def wdV (x : Nat) : Value := .agg (wdA (lb x))
theorem lt16 {P : Nat → Prop} (h0 : P 0) (h1 : P 1) (h2 : P 2) (h3 : P 3) (h4 : P 4) (h5 : P 5) (h6 : P 6) (h7 : P 7) (h8 : P 8) (h9 : P 9) (ha : P 10) (hb : P 11) (hc : P 12) (hd : P 13) (he : P 14) (hf : P 15) (i : Nat) (hi : i < 16) : P i := by
  by_cases h : i < 8
  · exact lt8 h0 h1 h2 h3 h4 h5 h6 h7 i h
  · obtain ⟨j, rfl⟩ : ∃ j, i = 8 + j := ⟨i - 8, by omega⟩
    exact lt8 (P := fun j => P (8 + j)) h8 h9 ha hb hc hd he hf j (by omega)
theorem wdA_get (d : Nat → Nat) (i : Nat) (hi : i < 16) : (wdA d)[i]? = some (.int .u32 (d i : Nat)) := lt16 (P := fun i => (wdA d)[i]? = some (.int .u32 (d i : Nat))) rfl rfl rfl rfl rfl rfl rfl rfl rfl rfl rfl rfl rfl rfl rfl rfl i hi
theorem wdA_congr {d e : Nat → Nat} (h : ∀ i, i < 16 → d i = e i) : wdA d = wdA e := by
  unfold wdA wdL
  rw [h 0 (by decide), h 1 (by decide), h 2 (by decide), h 3 (by decide), h 4 (by decide), h 5 (by decide), h 6 (by decide), h 7 (by decide), h 8 (by decide), h 9 (by decide), h 10 (by decide), h 11 (by decide), h 12 (by decide), h 13 (by decide), h 14 (by decide), h 15 (by decide)]
theorem wdA_one (d : Nat → Nat) : (wdA d).all (·.oneCell') = true := words_one _ _
theorem wdA_size (d : Nat → Nat) : (wdA d).size = 16 := rfl
theorem RW.heap {w : World} {g : Nat} {d : Nat → Nat} (h : RW w g d) : w.heap[g]? = some (.cells (wdA d) 83 (0, 0)) := words_heap h (wdL d) rfl (lt16 rfl rfl rfl rfl rfl rfl rfl rfl rfl rfl rfl rfl rfl rfl rfl rfl)
theorem RW.new (w : World) (d : Nat → Nat) : RW (w.alloc (.cells (wdA d) 83)) w.heap.size d := rowIs_of w (wdA d) 83 16 _ rfl (wdA_get d)
theorem RW.other {w : World} {g : Nat} {d : Nat → Nat} (h : RW w g d) {a : Addr} (ha : g ≠ a.block) (v : Value) : RW (w.setCell a v) g d := World.rowIs.setOther h ha v
theorem alloc16 (w : World) : (Instr.alloc 83 true (.tuple #[])).run Try.prog w = .ok (.pointer (some ⟨w.heap.size, 0, none⟩)) (w.alloc (.cells (wdA fun _ => 0) 83)) := by kernel_rfl
theorem nv_nought {d : Nat → Nat} : ∀ n, (∀ i, i < n → d i = 0) → nv d n = 0
  | 0, _ => rfl
  | n + 1, h => by show nv d n + d n * _ = 0; rw [nv_nought n fun i hi => h i (by omega), h n (by omega), Nat.zero_mul]
theorem nv_put {d : Nat → Nat} {k v : Nat} (h0 : d k = 0) : ∀ n, k < n → nv (fun i => if i = k then v else d i) n = nv d n + v * 2 ^ (32 * k)
  | 0, h => absurd h (by omega)
  | n + 1, h => by
    show nv (fun i => if i = k then v else d i) n + (if n = k then v else d n) * 2 ^ (32 * n) = nv d n + d n * 2 ^ (32 * n) + v * 2 ^ (32 * k)
    by_cases e : n = k
    · subst e
      rw [if_pos rfl, h0, Nat.zero_mul, nv_congr n (e := d) fun i hi => if_neg (by omega), Nat.add_zero]
    · rw [if_neg e, nv_put h0 n (by omega)]; omega
/-- The product so far. -/
def Pr (x y j : Nat) (t : Nat → Nat) : Prop := (∀ i, t i < 4294967296) ∧ (∀ i, j + 8 ≤ i → t i = 0) ∧ nv t 16 = nv (lb x) j * y
theorem pr_zero (x y : Nat) : Pr x y 0 (fun _ => 0) := ⟨fun _ => (by decide : 0 < 4294967296), fun _ _ => rfl, by rw [nv_nought 16 fun _ _ => rfl]; exact (Nat.zero_mul _).symm⟩
theorem pr_next {x y j : Nat} {t : Nat → Nat} (hy : y < B8) (hj : j < 8) (h : Pr x y j t) : Pr x y (j + 1) (fun i => if i = j + 8 then wc (lb x j) (lb y) t j else wa (lb x j) (lb y) t j i) := by
  obtain ⟨h1, h2, h3⟩ := h
  have hw : wa (lb x j) (lb y) t j (j + 8) = 0 := by rw [wa_off (j + 8) (Nat.le_refl _)]; exact h2 _ (Nat.le_refl _)
  refine ⟨fun i => ?_, fun i hi => ?_, ?_⟩
  · show (if i = j + 8 then wc (lb x j) (lb y) t j else wa (lb x j) (lb y) t j i) < 4294967296
    by_cases e : i = j + 8
    · rw [if_pos e]; exact ac_lt (lb_lt x j) (lb_lt y) (fun i => h1 (j + i)) 8
    · rw [if_neg e]; exact wa_lt h1 i
  · show (if i = j + 8 then _ else _) = 0
    rw [if_neg (by omega), wa_off i (by omega)]
    exact h2 i (by omega)
  · rw [nv_put hw 16 (by omega), wa_val _ _ _ j 16 (by omega), h3, nv8 hy]
    show _ = (nv (lb x) j + lb x j * 2 ^ (32 * j)) * y
    rw [Nat.add_mul, Nat.mul_right_comm]
theorem pr_end {x y : Nat} {t : Nat → Nat} (hx : x < B8) (h : Pr x y 8 t) : wdA t = wdA (lb (x * y)) := by
  have e : nv t 16 = x * y := by rw [h.2.2, nv8 hx]
  rw [← e]
  exact wdA_congr fun i hi => (lb_nv 16 (fun i _ => h.1 i) i hi).symm
/-- Two factors, the result's place, the sum. -/
structure Me (w u : World) (x y : Nat) (t : Nat → Nat) : Prop where
  a : RP u w.heap.size (lb x)
  b : RP u (w.heap.size + 1) (lb y)
  r : RW u (w.heap.size + 2) (fun _ => 0)
  p : RW u (w.heap.size + 3) t
  below : Below w.heap.size w u
theorem me_new (w : World) (x y : Nat) : Me w ((((w.alloc (.cells (nmA (lb x)) 38)).alloc (.cells (nmA (lb y)) 38)).alloc (.cells (wdA fun _ => 0) 83)).alloc (.cells (wdA fun _ => 0) 83)) x y (fun _ => 0) := by
  have s1 : (w.alloc (.cells (nmA (lb x)) 38)).heap.size = w.heap.size + 1 := by simp
  have h1 := RP.new w (lb x)
  have b1 : Below w.heap.size w (w.alloc (.cells (nmA (lb x)) 38)) := (Below.refl _ _).alloc (Nat.le_refl _) _
  generalize w.alloc (.cells (nmA (lb x)) 38) = w1 at s1 h1 b1 ⊢
  have s2 : (w1.alloc (.cells (nmA (lb y)) 38)).heap.size = w.heap.size + 2 := by simp; omega
  have h2 := RP.new w1 (lb y)
  rw [s1] at h2
  have b2 := b1.alloc (show w.heap.size ≤ w1.heap.size by omega) (.cells (nmA (lb y)) 38)
  have h1 := World.rowIs.alloc h1 (.cells (nmA (lb y)) 38)
  generalize w1.alloc (.cells (nmA (lb y)) 38) = w2 at s2 h1 h2 b2 ⊢
  have s3 : (w2.alloc (.cells (wdA fun _ => 0) 83)).heap.size = w.heap.size + 3 := by simp; omega
  have h3 := RW.new w2 (fun _ => 0)
  rw [s2] at h3
  have b3 := b2.alloc (show w.heap.size ≤ w2.heap.size by omega) (.cells (wdA fun _ => 0) 83)
  have h1 := World.rowIs.alloc h1 (.cells (wdA fun _ => 0) 83)
  have h2 := World.rowIs.alloc h2 (.cells (wdA fun _ => 0) 83)
  generalize w2.alloc (.cells (wdA fun _ => 0) 83) = w3 at s3 h1 h2 h3 b3 ⊢
  have h4 := RW.new w3 (fun _ => 0)
  rw [s3] at h4
  exact ⟨World.rowIs.alloc h1 _, World.rowIs.alloc h2 _, World.rowIs.alloc h3 _, h4, b3.alloc (by omega) _⟩
theorem Me.but {w u v : World} {x y : Nat} {t t' : Nat → Nat} (h : Me w u x y t) (hb : But (w.heap.size + 3) u v) (hp : RW v (w.heap.size + 3) t') : Me w v x y t' :=
  ⟨hb.row h.a (by omega), hb.row h.b (by omega), hb.row h.r (by omega), hp, hb.below h.below (by omega) h.below.size⟩
theorem Me.set {w u : World} {x y : Nat} {t : Nat → Nat} (h : Me w u x y t) (j v : Nat) : Me w (u.setCell ⟨w.heap.size + 3, j, none⟩ (.int .u32 v)) x y (fun i => if i = j then v else t i) :=
  ⟨h.a.other (by simp) _, h.b.other (by simp) _, h.r.other (by simp) _, h.p.set j v, h.below.setCell (by simp) _⟩
set_option maxHeartbeats 2000000 in
set_option maxRecDepth 20000 in
theorem product_any (x y : Nat) (w : World) (hx : x < B8) (hy : y < B8) :
    Calls Try.prog 51 #[nmV x, nmV y] w fun e u => e = .returned (wdV (x * y)) ∧ Below w.heap.size w u := by
  have HY := Lib.hid hy
  have HXb := Lib.hid hx
  clear hx hy
  have HADD : Hid (∀ (g o f : Nat) (t : Nat → Nat) (w : World), RW w g t → o ≤ 8 → f < 4294967296 → (∀ i, t i < 4294967296) → Calls Try.prog 55 #[.pointer (some ⟨g, 0, none⟩), .int .i64 (o : Nat), .int .u32 (f : Nat), nmV y] w fun e u => e = .returned (.int .u32 (wc f (lb y) t o : Nat)) ∧ But g w u ∧ RW u g (wa f (lb y) t o)) := fun g o f t w => wadd_any g o f y t w
  go_enter Try.func51, Try.ntmps51
  go_upto_region 0 with (fail)
  apply wp_region_lit
  refine wpList_box_to rfl 38 _ rfl (nmA (lb x)) (by kernel_rfl) w.heap.size rfl ?_
  refine wpList_box_to rfl 38 _ rfl (nmA (lb y)) (by kernel_rfl) (w.heap.size + 1) (by simp) ?_
  refine wpList_alloc_to rfl 83 rfl (wdA fun _ => 0) (w.heap.size + 2) (by simp) alloc16 ?_
  go_upto_region 1 with (fail)
  apply wp_region_lit
  refine wpList_alloc_to rfl 83 rfl (wdA fun _ => 0) (w.heap.size + 3) (by simp) alloc16 ?_
  simp only [Act.put, List.setIfInBounds_toArray, List.set_cons_zero, List.set_cons_succ]
  have HM := Lib.hid (me_new w x y)
  generalize (((w.alloc (.cells (nmA (lb x)) 38)).alloc (.cells (nmA (lb y)) 38)).alloc (.cells (wdA fun _ => 0) 83)).alloc (.cells (wdA fun _ => 0) 83) = w1 at HM ⊢
  go_upto_region 2 with (fail)
  have HN := Lib.hid HM.out.a.heap
  apply wp_region_lit
  refine wpList_load_row rfl 38 _ rfl w.heap.size (by kernel_rfl) 38 (nmA (lb x)) (0, 0) _ HN.out Try.underlying38 rfl (by kernel_rfl) ?_
  refine Lw.wpList_val rfl (.int .i64 0) w1 (by go_simp) ?_
  simp only [Act.put, List.setIfInBounds_toArray, List.set_cons_zero, List.set_cons_succ]
  have HIX : Hid (∀ j : Nat, j < 8 → ∀ W : World, (Instr.index 38 (.agg (nmA (lb x))) (.int .i64 (j : Int))).run Try.prog W = .ok (.int .u32 (lb x j : Nat)) W) := fun j hj W => run_index_row W 38 36 8 _ .i64 j _ Try.underlying38 (by kernel_rfl) _ Try.underlying36 rfl hj (nmA_get _ j hj)
  clear HN
  generalize nmA (lb x) = A at HIX ⊢
  generalize nmV x = Vx
  generalize hVy : nmV y = Vy at HADD
  have HVy : Hid (Vy = .agg (nmA (lb y))) := hVy.symm
  clear hVy
  go_wp2_with (fail)
  go_loopw [9] (fun v wx => ∃ (j : Nat) (t : Nat → Nat), Hid (j ≤ 8) ∧ v = .int .i64 j ∧ Hid (Pr x y j t) ∧ Hid (Me w wx x y t)) (fun v _ => 8 - (intOf v).toNat)
  case atStart => exact ⟨0, fun _ => 0, Nat.zero_le _, rfl, pr_zero x y, HM⟩
  case round =>
    clear HM
    obtain ⟨j, t, hj, rfl, HP, HM⟩ := hrel
    by_cases hlt : j < 8
    · have jl : ((j : Int) < 8) = True := eq_true (by omega)
      have jl' : (j : Int) < 8 := by omega
      have hix := HIX.out j hlt
      have HJ := Lib.hid hlt
      have w8 : IntKind.i64.wrap ((j : Int) + 8) = (j : Int) + 8 := IntWalk.i64_in _ (by omega)
      have HQ := Lib.hid (pr_next HY.out hlt HP.out)
      have HL := Lib.hid (lb_lt x j)
      have HC : Hid (Calls Try.prog 55 #[.pointer (some ⟨w.heap.size + 3, 0, none⟩), .int .i64 (j : Nat), .int .u32 (lb x j : Nat), Vy] wr fun e u => e = .returned (.int .u32 (wc (lb x j) (lb y) t j : Nat)) ∧ But (w.heap.size + 3) wr u ∧ RW u (w.heap.size + 3) (wa (lb x j) (lb y) t j)) := HADD.out _ j (lb x j) t wr HM.out.p (by omega) (lb_lt x j) HP.out.1
      generalize lb x j = f at hix HQ HL HC
      clear hlt
      go_upto_region 5 with (fail)
      have HN := Lib.hid HM.out.b.heap
      apply wp_region_lit
      refine Lw.wpList_val rfl (.int .i64 (j : Nat)) wr (by go_simp) ?_
      refine Lw.wpList_val rfl (.int .i64 ((j : Int) + 8)) wr (by go_simp) ?_
      refine Lw.wpList_val rfl (.int .i64 (j : Nat)) wr (by go_simp) ?_
      refine Lw.wpList_val rfl (.int .u32 (f : Nat)) wr (by go_simp) ?_
      refine wpList_load_row rfl 38 _ rfl (w.heap.size + 1) (by kernel_rfl) 38 (nmA (lb y)) (0, 0) _ HN.out Try.underlying38 rfl (by kernel_rfl) ?_
      rw [← HVy.out]
      simp only [Act.put, List.setIfInBounds_toArray, List.set_cons_zero, List.set_cons_succ]
      refine Lw.wpList_callTo (some 18) rfl rfl 55 _ _ rfl (fun _ _ => by go_simp) #[.pointer (some ⟨w.heap.size + 3, 0, none⟩), .int .i64 (j : Nat), .int .u32 (f : Nat), Vy] (by kernel_rfl) ?_
      refine HC.out.mono ?_
      rintro e u ⟨rfl, hbu, hru⟩
      refine ⟨_, rfl, ?_⟩
      have HM1 := Lib.hid (HM.out.but hbu hru)
      clear hbu hru HC HM HN
      generalize wc f (lb y) t j = k at HQ ⊢
      generalize wa f (lb y) t j = t1 at HQ HM1
      have xf := World.rowIs.frozen HM1.out.p (j + 8)
      have x1 := HM1.out.p.at_ (j + 8) (t1 (j + 8)) (by omega) rfl
      simp only [Act.put, List.setIfInBounds_toArray, List.set_cons_zero, List.set_cons_succ]
      go_wp2_with (fail)
      exact ⟨⟨j + 1, _, HJ.out, by go_num, HQ, HM1.out.set (j + 8) k⟩, Lw.meas 8 j HJ.out⟩
    · have jl : ((j : Int) < 8) = False := eq_false (by omega)
      obtain rfl : j = 8 := by have := hj.out; omega
      rw [show ((8 : Nat) : Int) = 8 from rfl]
      clear hlt jl hj
      have hE := pr_end HXb.out HP.out
      have HN := Lib.hid HM.out.p.heap
      have HO := Lib.hid HM.out.r.heap
      rw [hE] at HN
      go_upto_region 7 with (fail)
      generalize hA : wdA (lb (x * y)) = D at HN
      apply wp_region_lit
      refine wpList_load_row rfl 83 _ rfl (w.heap.size + 3) (by kernel_rfl) 83 D (0, 0) _ HN.out Try.underlying83 rfl (by rw [← hA]; kernel_rfl) ?_
      refine wpList_store_row rfl 83 _ _ rfl (w.heap.size + 2) D (by kernel_rfl) (by kernel_rfl) 83 _ HO.out (by rw [← hA]; kernel_rfl) (by rw [← hA, wdA_size, wdA_size]) (by rw [← hA]; exact wdA_one _) ?_
      simp only [Act.put, List.setIfInBounds_toArray, List.set_cons_zero, List.set_cons_succ]
      go_wp2_with (fail)
      refine bodyPost_ret (v := .agg D) ?_ rfl ?_
      · exact results_cell_row (fn := Try.f51) Try.results51 _ _ (w.heap.size + 2) 83 _ (0, 0) _ rfl (setRow_heap _ _ _ _ _ _ HO.out) Try.underlying83 rfl (by rw [← hA]; kernel_rfl)
      · exact ⟨by rw [← hA]; rfl, below_setRow HM.out.below (by omega) _⟩
end Go.Proofs.Nd
