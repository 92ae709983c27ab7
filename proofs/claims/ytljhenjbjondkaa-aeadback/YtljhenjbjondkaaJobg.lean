/-
  The developers' poly: a number of two words and a top as limbs; sums of limbs.
-/
import Derived.Test.YtljhenjbjondkaaJobf
import Derived.BigQuiet
import Derived.Deep.QuietTactic
namespace Go.Proofs.Pd
open Go.RowKit
open Go.Proofs.Pol (lmL lmA lmA_get lmA_congr lmA_one lmA_size lt5 cc carS cc_lt mid mid_at mid_zero mid_succ mid_end mask26 lmV lmV_arr plusL plusL_succ plusL_at)
open Go.Proofs.Im (wpList_box_to words_heap words_one run_index_row wp_region_quiet_tail)
open Go.Proofs.Sha (wordCells wordCells_get wordCells_size rowIs_of wpList_alloc_to wpList_build_to)
/-- The limbs of low + 2^64 high + 2^128 top. -/
def limF (l h t : Nat) (i : Nat) : Nat :=
  if i = 0 then l % 67108864 else if i = 1 then l / 67108864 % 67108864 else if i = 2 then (l / 4503599627370496 + h * 4096 % 18446744073709551616) % 67108864 else if i = 3 then h / 16384 % 67108864 else h / 1099511627776 + t * 16777216
theorem limF_0 (l h t : Nat) : limF l h t 0 = l % 67108864 := if_pos rfl
theorem limF_1 (l h t : Nat) : limF l h t 1 = l / 67108864 % 67108864 := by unfold limF; rw [if_neg (by decide), if_pos rfl]
theorem limF_2 (l h t : Nat) : limF l h t 2 = (l / 4503599627370496 + h * 4096 % 18446744073709551616) % 67108864 := by unfold limF; rw [if_neg (by decide), if_neg (by decide), if_pos rfl]
theorem limF_3 (l h t : Nat) : limF l h t 3 = h / 16384 % 67108864 := by unfold limF; rw [if_neg (by decide), if_neg (by decide), if_neg (by decide), if_pos rfl]
theorem limF_4 (l h t : Nat) : limF l h t 4 = h / 1099511627776 + t * 16777216 := by unfold limF; rw [if_neg (by decide), if_neg (by decide), if_neg (by decide), if_neg (by decide)]
theorem or_add (x y k : Nat) (hx : x < 2 ^ k) (hy : y % 2 ^ k = 0) (hl : y < 18446744073709551616) (hk : k ≤ 63) : bits .or .u64 (x : Int) (y : Int) = ((x + y : Nat) : Int) := by
  have hp : 2 ^ k ≤ 2 ^ 63 := Nat.pow_le_pow_right (by decide) hk
  rw [show (2 : Nat) ^ 63 = 9223372036854775808 from rfl] at hp
  have ho : x ||| y = x + y := by rw [Nat.or_comm, nat_join k y x hy hx, Nat.add_comm]
  have h := u64_or_nat x y (by omega) hl
  rw [ho] at h
  exact h
set_option maxHeartbeats 2000000 in
theorem limbs_any (l h t : Nat) (w : World) (hl : l < 18446744073709551616) (hh : h < 18446744073709551616) (ht : t ≤ 3) :
    Calls Try.prog 44 #[.int .u64 l, .int .u64 h, .int .u64 t] w fun e w' => e = .returned (.agg (lmA (limF l h t))) ∧ Below w.heap.size w w' := by
  go_enter Try.func44, Try.ntmps44
  go_upto_region 0 with (fail)
  apply wp_region_lit
  refine wpList_alloc_to rfl 72 rfl (lmA fun _ => 0) w.heap.size rfl alloc5 ?_
  simp only [Act.put, List.setIfInBounds_toArray, List.set_cons_zero, List.set_cons_succ]
  have HB : Hid (Below w.heap.size w (w.alloc (.cells (lmA fun _ => 0) 72))) := (Below.refl _ _).alloc (Nat.le_refl _) _
  have HO := Lib.hid (RQ.new w fun _ => 0).heap
  generalize w.alloc (.cells (lmA fun _ => 0) 72) = w1 at HB HO ⊢
  have m0 := mask26 l hl
  have m1 := mask26 (l / 67108864) (by omega)
  have s1 : (h : Int) * 4096 % 18446744073709551616 = ((h * 4096 % 18446744073709551616 : Nat) : Int) := by omega
  have o2 := or_add (l / 4503599627370496) (h * 4096 % 18446744073709551616) 12 (by rw [show (2 : Nat) ^ 12 = 4096 from rfl]; omega) (by rw [show (2 : Nat) ^ 12 = 4096 from rfl]; omega) (Nat.mod_lt _ (by decide)) (by decide)
  have m2 := mask26 (l / 4503599627370496 + h * 4096 % 18446744073709551616) (by omega)
  have m3 := mask26 (h / 16384) (by omega)
  obtain ⟨tz, htz⟩ : ∃ z, t * 16777216 = z := ⟨_, rfl⟩
  have s4 : (t : Int) * 16777216 % 18446744073709551616 = (tz : Int) := by omega
  have o4 := or_add (h / 1099511627776) tz 24 (by rw [show (2 : Nat) ^ 24 = 16777216 from rfl]; omega) (by rw [show (2 : Nat) ^ 24 = 16777216 from rfl]; omega) (by omega) (by decide)
  have HR : Hid (lmA (limF l h t) = wordCells .u64 [l % 67108864, l / 67108864 % 67108864, (l / 4503599627370496 + h * 4096 % 18446744073709551616) % 67108864, h / 16384 % 67108864, h / 1099511627776 + tz]) := by show lmA (limF l h t) = _; unfold lmA lmL; rw [limF_0, limF_1, limF_2, limF_3, limF_4, htz]
  generalize hA : lmA (limF l h t) = A at HR
  have H0 := Lib.hid m0
  have H1 := Lib.hid m1
  have G1 := Lib.hid s1
  have O2 := Lib.hid o2
  have H2 := Lib.hid m2
  have H3 := Lib.hid m3
  have G4 := Lib.hid s4
  have O4 := Lib.hid o4
  clear m0 m1 s1 o2 m2 m3 s4 o4 hl hh ht htz
  go_upto_region 1 with (fail)
  apply wp_region_lit
  refine Lw.wpList_val rfl (.int .u64 (l : Int)) w1 (by go_simp) ?_
  refine Lw.wpList_val rfl (.int .u64 ((l % 67108864 : Nat) : Int)) w1 (by have m0 := H0.out; generalize l % 67108864 = z at m0; go_simp) ?_
  refine Lw.wpList_val rfl (.int .u64 (l : Int)) w1 (by go_simp) ?_
  refine Lw.wpList_val rfl (.int .u64 ((l / 67108864 : Nat) : Int)) w1 (by go_simp) ?_
  refine Lw.wpList_val rfl (.int .u64 ((l / 67108864 % 67108864 : Nat) : Int)) w1 (by have m1 := H1.out; generalize l / 67108864 % 67108864 = z at m1; generalize l / 67108864 = y at m1; go_simp) ?_
  refine Lw.wpList_val rfl (.int .u64 (l : Int)) w1 (by go_simp) ?_
  refine Lw.wpList_val rfl (.int .u64 ((l / 4503599627370496 : Nat) : Int)) w1 (by go_simp) ?_
  refine Lw.wpList_val rfl (.int .u64 (h : Int)) w1 (by go_simp) ?_
  refine Lw.wpList_val rfl (.int .u64 ((h * 4096 % 18446744073709551616 : Nat) : Int)) w1 (by have s1 := G1.out; generalize h * 4096 % 18446744073709551616 = z at s1; go_simp; exact s1) ?_
  refine Lw.wpList_val rfl (.int .u64 ((l / 4503599627370496 + h * 4096 % 18446744073709551616 : Nat) : Int)) w1 (by have o2 := O2.out; generalize h * 4096 % 18446744073709551616 = z at o2; generalize l / 4503599627370496 = y at o2; generalize y + z = x at o2; go_simp) ?_
  refine Lw.wpList_val rfl (.int .u64 (((l / 4503599627370496 + h * 4096 % 18446744073709551616) % 67108864 : Nat) : Int)) w1 (by have m2 := H2.out; generalize l / 4503599627370496 + h * 4096 % 18446744073709551616 = y at m2; generalize y % 67108864 = z at m2; go_simp) ?_
  refine Lw.wpList_val rfl (.int .u64 (h : Int)) w1 (by go_simp) ?_
  refine Lw.wpList_val rfl (.int .u64 ((h / 16384 : Nat) : Int)) w1 (by go_simp) ?_
  refine Lw.wpList_val rfl (.int .u64 ((h / 16384 % 67108864 : Nat) : Int)) w1 (by have m3 := H3.out; generalize h / 16384 % 67108864 = z at m3; generalize h / 16384 = y at m3; go_simp) ?_
  refine Lw.wpList_val rfl (.int .u64 (h : Int)) w1 (by go_simp) ?_
  refine Lw.wpList_val rfl (.int .u64 ((h / 1099511627776 : Nat) : Int)) w1 (by go_simp) ?_
  refine Lw.wpList_val rfl (.int .u64 (t : Int)) w1 (by go_simp) ?_
  refine Lw.wpList_val rfl (.int .u64 (tz : Int)) w1 (by have s4 := G4.out; go_simp; exact s4) ?_
  refine Lw.wpList_val rfl (.int .u64 ((h / 1099511627776 + tz : Nat) : Int)) w1 (by have o4 := O4.out; generalize h / 1099511627776 = y at o4 ⊢; generalize y + tz = x at o4 ⊢; go_simp) ?_
  simp only [Act.put, List.setIfInBounds_toArray, List.set_cons_zero, List.set_cons_succ]
  generalize (l / 4503599627370496 + h * 4096 % 18446744073709551616) % 67108864 = r2 at HR ⊢
  generalize l / 67108864 % 67108864 = r1 at HR ⊢
  generalize h / 16384 % 67108864 = r3 at HR ⊢
  generalize h / 1099511627776 + tz = r4 at HR ⊢
  generalize l % 67108864 = r0 at HR ⊢
  refine wpList_build_to rfl 72 _ rfl A (by rw [HR.out]; kernel_rfl) ?_
  refine wpList_store_row rfl 72 _ _ rfl w.heap.size A (by kernel_rfl) (by kernel_rfl) 72 _ HO.out (by rw [HR.out]; kernel_rfl) (by rw [HR.out]; kernel_rfl) (by rw [HR.out]; exact words_one _ _) ?_
  simp only [Act.put, List.setIfInBounds_toArray, List.set_cons_zero, List.set_cons_succ]
  go_wp2_with (fail)
  refine bodyPost_ret (v := .agg A) ?_ rfl ?_
  · exact results_cell_row (fn := Try.f44) Try.results44 _ _ w.heap.size 72 _ (0, 0) _ rfl (setRow_heap _ _ _ _ _ _ HO.out) Try.underlying72 rfl (by rw [HR.out]; kernel_rfl)
  · exact ⟨by rw [hA], below_setRow HB.out (Nat.le_refl _) _⟩
/-- Two boxed numbers, the result's place. -/
def Mem6 (w u : World) (a b : Nat → Nat) : Prop := RQ u w.heap.size a ∧ RQ u (w.heap.size + 1) b ∧ RQ u (w.heap.size + 2) (fun _ => 0) ∧ Below w.heap.size w u
theorem mem6_new (w : World) (a b : Nat → Nat) : Mem6 w (((w.alloc (.cells (lmA a) 72)).alloc (.cells (lmA b) 72)).alloc (.cells (lmA fun _ => 0) 72)) a b := by
  have a1 := RQ.new w a
  have b1 : Below w.heap.size w (w.alloc (.cells (lmA a) 72)) := (Below.refl _ _).alloc (Nat.le_refl _) _
  have s1 : (w.alloc (.cells (lmA a) 72)).heap.size = w.heap.size + 1 := by simp
  generalize w.alloc (.cells (lmA a) 72) = w1 at a1 b1 s1 ⊢
  have a2 := RQ.new w1 b
  have s2 : (w1.alloc (.cells (lmA b) 72)).heap.size = w.heap.size + 2 := by simp [s1]
  have b2 : Below w.heap.size w (w1.alloc (.cells (lmA b) 72)) := b1.alloc (by omega) _
  have a1 : RQ (w1.alloc (.cells (lmA b) 72)) w.heap.size a := World.rowIs.alloc a1 _
  rw [s1] at a2
  generalize w1.alloc (.cells (lmA b) 72) = w2 at a1 a2 b2 s2 ⊢
  have a3 := RQ.new w2 (fun _ => 0)
  rw [s2] at a3
  exact ⟨World.rowIs.alloc a1 _, World.rowIs.alloc a2 _, a3, b2.alloc (by omega) _⟩
theorem Mem6.set {w u : World} {a b : Nat → Nat} (m : Mem6 w u a b) (j v : Nat) : Mem6 w (u.setCell ⟨w.heap.size, j, none⟩ (.int .u64 v)) (fun i => if i = j then v else a i) b :=
  ⟨m.1.set j v, m.2.1.other (by simp) _, m.2.2.1.other (by simp) _, m.2.2.2.setCell (Nat.le_refl _) _⟩
theorem Mem6.drewN {w u : World} {a b : Nat → Nat} (m : Mem6 w u a b) (q : Nat) : Mem6 w (u.drewN q) a b := ⟨m.1, m.2.1, m.2.2.1, Lw.below_drewN m.2.2.2 q⟩
theorem Mem6.congr {w u : World} {a b c : Nat → Nat} (m : Mem6 w u a b) (e : ∀ i, i < 5 → a i = c i) : Mem6 w u c b := ⟨m.1.congr e, m.2⟩
set_option maxHeartbeats 2000000 in
theorem plus_any (a b : Nat → Nat) (w : World) (ha : ∀ i, a i < 4611686018427387904) (hb : ∀ i, b i < 4611686018427387904) :
    Calls Try.prog 59 #[.agg (lmA a), .agg (lmA b)] w fun e w' => e = .returned (.agg (lmA fun i => a i + b i)) ∧ Below w.heap.size w w' := by
  have HAl := Lib.hid ha
  have HBl := Lib.hid hb
  clear ha hb
  go_enter Try.func59, Try.ntmps59
  go_upto_region 0 with (fail)
  apply wp_region_lit
  refine wpList_box_to rfl 72 _ rfl (lmA a) (by kernel_rfl) w.heap.size rfl ?_
  refine wpList_box_to rfl 72 _ rfl (lmA b) (by kernel_rfl) (w.heap.size + 1) (by simp) ?_
  refine wpList_alloc_to rfl 72 rfl (lmA fun _ => 0) (w.heap.size + 2) (by simp) alloc5 ?_
  simp only [Act.put, List.setIfInBounds_toArray, List.set_cons_zero, List.set_cons_succ]
  have HM := Lib.hid (mem6_new w a b)
  generalize ((w.alloc (.cells (lmA a) 72)).alloc (.cells (lmA b) 72)).alloc (.cells (lmA fun _ => 0) 72) = w1 at HM ⊢
  generalize lmA a = Aa
  generalize lmA b = Ab
  go_wp2_with (fail)
  go_loopw [6] (fun v wx => ∃ j : Nat, Hid (j ≤ 5) ∧ v = .int .i64 j ∧ Hid (Mem6 w wx (plusL a b j) b)) (fun v _ => 5 - (intOf v).toNat)
  case atStart => exact ⟨0, Nat.zero_le _, rfl, HM.out.congr fun i _ => by unfold plusL; rw [if_neg (by omega)]⟩
  case round =>
    clear HM
    obtain ⟨j, hj, rfl, HM⟩ := hrel
    by_cases hlt : j < 5
    · have jl : ((j : Int) < 5) = True := eq_true (by omega)
      have jl' : (j : Int) < 5 := by omega
      have HJ := Lib.hid hlt
      have c1 := HM.out.1.at_ j (a j) hlt (plusL_at _ _ _)
      have f1 := World.rowIs.frozen HM.out.1 j
      have c2 := HM.out.2.1.at_ j (b j) hlt rfl
      have l1 := HAl.out j
      have l2 := HBl.out j
      have HP := Lib.hid (plusL_succ a b j)
      generalize a j = x at c1 l1 HP
      generalize b j = y at c2 l2 HP
      have o1 : IntKind.u64.wrap ((x : Int) + (y : Int)) = ((x + y : Nat) : Int) := by show _ % 18446744073709551616 = _; omega
      have HXY : Hid ((x : Int) + (y : Int) = ((x + y : Nat) : Int)) := by show _ = _; omega
      clear hlt
      go_upto_region 4 with (fail)
      refine wp_region_quiet_tail 8 (by kernel_rfl) (by kernel_rfl) ?_
      simp only [List.take_succ_cons, List.take_zero, List.drop_succ_cons, List.drop_zero]
      repeat (go_big_quiet_step (fail))
      refine wpQuiet_nil ?_
      intro nq
      have HM := Lib.hid (HM.out.drewN nq)
      have c1 : (wr.drewN nq).cell? ⟨w.heap.size, j, none⟩ = some (.int .u64 (x : Nat)) := c1
      have f1 : (wr.drewN nq).frozen? ⟨w.heap.size, j, none⟩ = false := f1
      clear c2
      generalize wr.drewN nq = w5 at HM c1 f1 ⊢
      go_wp2_with (fail)
      rw [HXY.out]
      exact ⟨⟨j + 1, HJ.out, by go_num, (HM.out.set j (x + y)).congr fun t _ => HP.out t⟩, Lw.meas 5 j HJ.out⟩
    · have jl : ((j : Int) < 5) = False := eq_false (by omega)
      obtain rfl : j = 5 := by have := hj.out; omega
      rw [show ((5 : Nat) : Int) = 5 from rfl]
      clear hlt hj
      have HM : Hid (Mem6 w wr (fun i => a i + b i) b) := HM.out.congr fun t ht => by unfold plusL; rw [if_pos ht]
      have HN := Lib.hid HM.out.1.heap
      have HO := Lib.hid HM.out.2.2.1.heap
      generalize hA : (lmA fun i => a i + b i) = A at HN
      go_upto_region 6 with (fail)
      apply wp_region_lit
      refine wpList_load_row rfl 72 _ rfl w.heap.size (by kernel_rfl) 72 A (0, 0) _ HN.out Try.underlying72 rfl (by rw [← hA]; kernel_rfl) ?_
      refine wpList_store_row rfl 72 _ _ rfl (w.heap.size + 2) A (by kernel_rfl) (by kernel_rfl) 72 _ HO.out (by rw [← hA]; kernel_rfl) (by rw [← hA, lmA_size, lmA_size]) (by rw [← hA]; exact lmA_one _) ?_
      simp only [Act.put, List.setIfInBounds_toArray, List.set_cons_zero, List.set_cons_succ]
      go_wp2_with (fail)
      refine bodyPost_ret (v := .agg A) ?_ rfl ?_
      · exact results_cell_row (fn := Try.f59) Try.results59 _ _ (w.heap.size + 2) 72 _ (0, 0) _ rfl (setRow_heap _ _ _ _ _ _ HO.out) Try.underlying72 rfl (by rw [← hA]; kernel_rfl)
      · exact ⟨by rw [hA], below_setRow HM.out.2.2.2 (by omega) _⟩
end Go.Proofs.Pd
