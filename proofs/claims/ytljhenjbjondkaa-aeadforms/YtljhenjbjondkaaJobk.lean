/-
  The developers' poly: a number reduced.
-/
import Derived.Test.YtljhenjbjondkaaJobi
namespace Go.Proofs.Pd
open Go.RowKit
open Go.Proofs.Pol (lmL lmA lmA_get lmA_congr lmA_one lmA_size lt5 cc cc_lt mid mid_lt five least mask26 lmV lmV_arr rowIs_setOther)
open Go.Proofs.Im (wpList_box_to words_heap words_one run_index_row wp_region_quiet_tail)
open Go.Proofs.Sha (wordCells wordCells_get wordCells_size rowIs_of wpList_alloc_to wpList_build_to)
/-- The limbs behind j rounds, five more. -/
def stp (f : Nat → Nat) (j i : Nat) : Nat := if i < j then (f i + cc f i) % 67108864 else if i = j then f j + cc f j else f i
theorem stp_zero (f : Nat → Nat) (i : Nat) : f i = stp f 0 i := by
  unfold stp
  rw [if_neg (by omega)]
  split
  · next h => subst h; rfl
  · rfl
theorem stp_at (f : Nat → Nat) (j : Nat) : stp f j j = f j + cc f j := by unfold stp; rw [if_neg (by omega), if_pos rfl]
theorem stp_next (f : Nat → Nat) (j k : Nat) (h : j + 1 = k) : stp f j k = f k := by unfold stp; rw [if_neg (by omega), if_neg (by omega)]
theorem stp_succ (f : Nat → Nat) (j k i : Nat) (h : j + 1 = k) : (if i = j then (f j + cc f j) % 67108864 else if i = k then f k + (f j + cc f j) / 67108864 else stp f j i) = stp f k i := by
  subst h
  have e : cc f (j + 1) = (f j + cc f j) / 67108864 := rfl
  unfold stp
  by_cases h0 : i = j
  · subst h0; rw [if_pos rfl, if_pos (by omega)]
  · rw [if_neg h0]
    by_cases h1 : i = j + 1
    · subst h1; rw [if_pos rfl, if_neg (by omega), if_pos rfl, e]
    · rw [if_neg h1, if_neg h1]
      by_cases h2 : i < j
      · rw [if_pos h2, if_pos (by omega)]
      · rw [if_neg h2, if_neg h0, if_neg (by omega)]
theorem stp_end (f : Nat → Nat) (i : Nat) (h : i < 5) : (if i = 4 then (f 4 + cc f 4) % 67108864 else stp f 4 i) = mid f 5 i := by
  unfold stp mid
  rw [if_pos h]
  by_cases h0 : i = 4
  · subst h0; rw [if_pos rfl]
  · rw [if_neg h0, if_pos (by omega)]
theorem carD_all {h : Nat → Nat} (g : Good h) (i : Nat) : carD h i < 67108928 := by
  by_cases hi : i < 5
  · exact Nat.lt_trans (carD_small g i hi) (by decide)
  · rw [carD_up h i (by omega)]; unfold mid; rw [if_neg hi]; exact g.all i
theorem cc_one {f : Nat → Nat} (hf : ∀ i, f i < 67108934) (i : Nat) : cc f i ≤ 1 := by
  induction i with
  | zero => exact Nat.zero_le _
  | succ i ih => show (f i + cc f i) / 67108864 ≤ 1; have := hf i; omega
theorem Mem5.on {w u v : World} {d : Nat → Nat} (m : Mem5 w u d) (hb : Below u.heap.size u v) : Mem5 w v d := ⟨m.1.on hb, m.2.1.on hb, Lw.go_on m.2.2 hb⟩
theorem Mem5.row {w u : World} {d : Nat → Nat} (m : Mem5 w u d) (A : Array Value) (hN : u.heap[w.heap.size]? = some (.cells A 72 (0, 0))) (x : Nat → Nat) : Mem5 w (u.setRow w.heap.size (lmA x)) x :=
  ⟨⟨_, setRow_heap _ _ _ _ _ _ hN, rfl, lmA_get x⟩, rowIs_setOther m.2.1 (by simp) _, below_setRow m.2.2 (Nat.le_refl _) _⟩
/-- The boxed number, the result's place, the one with five more. -/
def Mem8 (w u : World) (gg : Nat) (d e : Nat → Nat) : Prop := RQ u w.heap.size d ∧ RQ u (w.heap.size + 1) (fun _ => 0) ∧ RQ u gg e ∧ Below w.heap.size w u ∧ w.heap.size + 1 < gg
theorem mem8_new {w u : World} {d : Nat → Nat} (m : Mem5 w u d) : Mem8 w (u.alloc (.cells (lmA d) 72)) u.heap.size d d :=
  ⟨World.rowIs.alloc m.1 _, World.rowIs.alloc m.2.1 _, RQ.new u d, m.2.2.alloc m.2.2.size _, World.rowIs.lt m.2.1⟩
theorem Mem8.set {w u : World} {gg : Nat} {d e : Nat → Nat} (m : Mem8 w u gg d e) (j v : Nat) : Mem8 w (u.setCell ⟨gg, j, none⟩ (.int .u64 v)) gg d (fun i => if i = j then v else e i) := by
  have hg := m.2.2.2.2
  exact ⟨m.1.other (by show w.heap.size ≠ gg; omega) _, m.2.1.other (by show w.heap.size + 1 ≠ gg; omega) _, m.2.2.1.set j v, m.2.2.2.1.setCell (by show w.heap.size ≤ gg; omega) _, hg⟩
theorem Mem8.drewN {w u : World} {gg : Nat} {d e : Nat → Nat} (m : Mem8 w u gg d e) (q : Nat) : Mem8 w (u.drewN q) gg d e := ⟨m.1, m.2.1, m.2.2.1, Lw.below_drewN m.2.2.2.1 q, m.2.2.2.2⟩
theorem Mem8.congr {w u : World} {gg : Nat} {d e f : Nat → Nat} (m : Mem8 w u gg d e) (h : ∀ i, i < 5 → e i = f i) : Mem8 w u gg d f := ⟨m.1, m.2.1, m.2.2.1.congr h, m.2.2.2⟩
set_option maxHeartbeats 4000000 in
theorem reduced_any (h : Nat → Nat) (w : World) (hg : Good h) :
    Calls Try.prog 61 #[.agg (lmA h)] w fun e w' => e = .returned (.agg (lmA (redD h))) ∧ Below w.heap.size w w' := by
  have HG := Lib.hid hg
  clear hg
  go_enter Try.func61, Try.ntmps61
  generalize hA : lmA h = A
  go_upto_region 0 with (fail)
  apply wp_region_lit
  refine wpList_box_to rfl 72 _ rfl A (by kernel_rfl) w.heap.size rfl ?_
  refine wpList_alloc_to rfl 72 rfl (lmA fun _ => 0) (w.heap.size + 1) (by simp) alloc5 ?_
  simp only [Act.put, List.setIfInBounds_toArray, List.set_cons_zero, List.set_cons_succ]
  have HM : Hid (Mem5 w ((w.alloc (.cells A 72)).alloc (.cells (lmA fun _ => 0) 72)) h) := by rw [← hA]; exact mem5_new w h
  generalize (w.alloc (.cells A 72)).alloc (.cells (lmA fun _ => 0) 72) = w1 at HM ⊢
  have HN := Lib.hid HM.out.1.heap
  rw [hA] at HN
  go_upto_region 1 with (fail)
  apply wp_region_lit
  refine wpList_load_row rfl 72 _ rfl w.heap.size (by kernel_rfl) 72 A (0, 0) _ HN.out Try.underlying72 rfl (by rw [← hA]; kernel_rfl) ?_
  refine Lw.wpList_callTo (some 6) rfl rfl 77 _ _ rfl (fun _ _ => by go_simp) #[.agg A] (by kernel_rfl) ?_
  have hC1 := carried_any h w1 (fun i => Nat.lt_trans (HG.out.all i) (by decide))
  rw [hA] at hC1
  refine hC1.mono ?_
  clear hC1 HN
  rintro e u1 ⟨rfl, hb1⟩
  refine ⟨_, rfl, ?_⟩
  have HM := Lib.hid (HM.out.on hb1)
  have HO := Lib.hid HM.out.1.heap
  have HD : Hid (∀ i, carD h i < 67108928) := carD_all HG.out
  have HE : Hid (redD h = least (carD h)) := rfl
  clear hb1
  generalize carD h = d at HD HE ⊢
  generalize hA3 : lmA d = A3
  refine wpList_store_row rfl 72 _ _ rfl w.heap.size A3 (by kernel_rfl) (by kernel_rfl) 72 _ HO.out (by rw [← hA3]; kernel_rfl) (by rw [← hA3, lmA_size, lmA_size]) (by rw [← hA3]; exact lmA_one _) ?_
  simp only [Act.put, List.setIfInBounds_toArray, List.set_cons_zero, List.set_cons_succ]
  have HM : Hid (Mem5 w (u1.setRow w.heap.size A3) d) := by rw [← hA3]; exact HM.out.row _ HO.out d
  clear HO
  generalize u1.setRow w.heap.size A3 = w2 at HM ⊢
  have HN := Lib.hid HM.out.1.heap
  rw [hA3] at HN
  go_upto_region 2 with (fail)
  apply wp_region_lit
  refine wpList_load_row rfl 72 _ rfl w.heap.size (by kernel_rfl) 72 A3 (0, 0) _ HN.out Try.underlying72 rfl (by rw [← hA3]; kernel_rfl) ?_
  refine wpList_alloc_to rfl 72 rfl (lmA fun _ => 0) w2.heap.size rfl alloc5 ?_
  refine wpList_store_row rfl 72 _ _ rfl w2.heap.size A3 (by kernel_rfl) (by kernel_rfl) 72 _ (heap_alloc_last w2 _) (by rw [← hA3]; kernel_rfl) (by rw [← hA3, lmA_size, lmA_size]) (by rw [← hA3]; exact lmA_one _) ?_
  rw [World.setRow_alloc_new]
  simp only [Act.put, List.setIfInBounds_toArray, List.set_cons_zero, List.set_cons_succ]
  have HM : Hid (Mem8 w (w2.alloc (.cells A3 72)) w2.heap.size d d) := by rw [← hA3]; exact mem8_new HM.out
  clear HN hA
  generalize w2.alloc (.cells A3 72) = w3 at HM ⊢
  generalize w2.heap.size = gg at HM ⊢
  have x0 := HM.out.2.2.1.at_ 0 (d 0) (by decide) rfl
  have f0 := World.rowIs.frozen HM.out.2.2.1 0
  have HF0 : Hid (d 0 + 5 = five d 0) := rfl
  have HFv : Hid (∀ i, (if i = 0 then five d 0 else d i) = five d i) := fun i => by
    show (if i = 0 then d 0 + 5 else d i) = if i = 0 then d 0 + 5 else d i
    rfl
  have HFl : Hid (∀ i, five d i < 67108934) := fun i => by
    show (if i = 0 then d 0 + 5 else d i) < 67108934
    have h1 := HD.out 0
    have h2 := HD.out i
    split <;> omega
  have HL : Hid (least d = if 0 < cc (five d) 5 then mid (five d) 5 else d) := rfl
  have l0 := HD.out 0
  generalize five d = f at HF0 HFv HFl HL
  generalize d 0 = z0 at x0 l0 HF0
  go_upto_region 3 with (fail)
  go_wp2_with (fail)
  rw [show (z0 : Int) + 5 = ((f 0 : Nat) : Int) by have := HF0.out; omega]
  have HM : Hid (Mem8 w (w3.setCell ⟨gg, 0, none⟩ (.int .u64 ((f 0 : Nat) : Int))) gg d (stp f 0)) := (HM.out.set 0 (f 0)).congr fun i _ => by rw [HFv.out i, ← stp_zero]
  clear x0 f0
  generalize w3.setCell ⟨gg, 0, none⟩ (.int .u64 ((f 0 : Nat) : Int)) = w4 at HM ⊢
  generalize ((f 0 : Nat) : Int) = z5
  go_loopw [12] (fun v wx => ∃ j : Nat, Hid (j ≤ 4) ∧ v = .int .i64 j ∧ Hid (Mem8 w wx gg d (stp f j))) (fun v _ => 4 - (intOf v).toNat)
  case atStart => exact ⟨0, Nat.zero_le _, rfl, HM⟩
  case round =>
    clear HM
    obtain ⟨j, hj, rfl, HM⟩ := hrel
    by_cases hlt : j < 4
    · have jl : ((j : Int) < 4) = True := eq_true (by omega)
      have HJ := Lib.hid hlt
      obtain ⟨k, hk⟩ : ∃ k, j + 1 = k := ⟨_, rfl⟩
      have HK := Lib.hid hk
      have je : (j : Int) + 1 = (k : Int) := by omega
      have jl5 : (j : Int) < 5 := by omega
      have kl5 : (k : Int) < 5 := by omega
      have c1 := HM.out.2.2.1.at_ k (f k) (by omega) (stp_next f j k hk)
      have c2 := HM.out.2.2.1.at_ j (f j + cc f j) (by omega) (stp_at f j)
      have f1 := World.rowIs.frozen HM.out.2.2.1 k
      have HS : Hid (∀ i, (if i = j then (f j + cc f j) % 67108864 else if i = k then f k + (f j + cc f j) / 67108864 else stp f j i) = stp f k i) := fun i => stp_succ f j k i hk
      have l1 := HFl.out k
      have l2 := HFl.out j
      have l3 := cc_one HFl.out j
      generalize hy : f k = y at c1 l1 HS
      clear hy
      have lx : f j + cc f j < 134217728 := by omega
      have HX : Hid (stp f j j = f j + cc f j) := stp_at f j
      generalize f j + cc f j = x at c2 HS lx HX
      clear hk hlt l2 l3
      have o1 : IntKind.u64.wrap ((y : Int) + (x : Int) / 67108864) = ((y + x / 67108864 : Nat) : Int) := by show _ % 18446744073709551616 = _; omega
      have HO1 : Hid ((y : Int) + (x : Int) / 67108864 = ((y + x / 67108864 : Nat) : Int)) := by show _ = _; omega
      go_upto_region 7 with (fail)
      refine wp_region_quiet_tail 10 (by kernel_rfl) (by kernel_rfl) ?_
      simp only [List.take_succ_cons, List.take_zero, List.drop_succ_cons, List.drop_zero]
      repeat (go_big_quiet_step (fail))
      refine wpQuiet_nil ?_
      intro nq
      have HM := Lib.hid (HM.out.drewN nq)
      have c1 : (wr.drewN nq).cell? ⟨gg, k, none⟩ = some (.int .u64 (y : Nat)) := c1
      have f1 : (wr.drewN nq).frozen? ⟨gg, k, none⟩ = false := f1
      clear c2 jl
      generalize wr.drewN nq = w5 at HM c1 f1 ⊢
      go_upto_region 8 with (fail)
      rw [HO1.out]
      have HM := Lib.hid (HM.out.set k (y + x / 67108864))
      clear c1 f1 o1
      have hjk : ¬ j = k := by have := HK.out; omega
      have c2 := HM.out.2.2.1.at_ j x (by have := HJ.out; omega) (by rw [if_neg hjk]; exact HX.out)
      have f2 := World.rowIs.frozen HM.out.2.2.1 j
      have m2 := mask26 x (by omega)
      clear hjk
      generalize w5.setCell ⟨gg, k, none⟩ (.int .u64 ((y + x / 67108864 : Nat) : Int)) = w6 at HM c2 f2 ⊢
      generalize ((y + x / 67108864 : Nat) : Int) = yq
      go_wp2_with (fail)
      rw [show (x : Int) % 67108864 = ((x % 67108864 : Nat) : Int) by omega]
      refine ⟨⟨k, by show k ≤ 4; have := HK.out; have := HJ.out; omega, rfl, (HM.out.set j (x % 67108864)).congr fun i _ => HS.out i⟩, ?_⟩
      have := HK.out
      have := HJ.out
      show 4 - ((k : Int)).toNat < 4 - ((j : Int)).toNat
      omega
    · have jl : ((j : Int) < 4) = False := eq_false (by omega)
      obtain rfl : j = 4 := by have := hj.out; omega
      rw [show ((4 : Nat) : Int) = 4 from rfl]
      clear hlt hj
      have c4 := HM.out.2.2.1.at_ 4 (f 4 + cc f 4) (by decide) (stp_at f 4)
      have f4 := World.rowIs.frozen HM.out.2.2.1 4
      have HC5 : Hid (cc f 5 = (f 4 + cc f 4) / 67108864) := rfl
      have l1 := HFl.out 4
      have l3 := cc_one HFl.out 4
      have HEn : Hid (∀ i, i < 5 → (if i = 4 then (f 4 + cc f 4) % 67108864 else stp f 4 i) = mid f 5 i) := stp_end f
      have lx : f 4 + cc f 4 < 134217728 := by omega
      generalize f 4 + cc f 4 = x at c4 HC5 HEn lx
      clear l1 l3
      by_cases hx : x ≤ 67108863
      · have xl : ((x : Int) ≤ 67108863) = True := eq_true (by omega)
        have HN := Lib.hid HM.out.1.heap
        have HO := Lib.hid HM.out.2.1.heap
        rw [hA3] at HN
        have HR : Hid (redD h = d) := by show _ = _; rw [HE.out, HL.out, if_neg (by rw [HC5.out]; omega)]
        clear hx
        go_upto_region 11 with (fail)
        apply wp_region_lit
        refine wpList_load_row rfl 72 _ rfl w.heap.size (by kernel_rfl) 72 A3 (0, 0) _ HN.out Try.underlying72 rfl (by rw [← hA3]; kernel_rfl) ?_
        refine wpList_store_row rfl 72 _ _ rfl (w.heap.size + 1) A3 (by kernel_rfl) (by kernel_rfl) 72 _ HO.out (by rw [← hA3]; kernel_rfl) (by rw [← hA3, lmA_size, lmA_size]) (by rw [← hA3]; exact lmA_one _) ?_
        simp only [Act.put, List.setIfInBounds_toArray, List.set_cons_zero, List.set_cons_succ]
        go_wp2_with (fail)
        refine bodyPost_ret (v := .agg A3) ?_ rfl ?_
        · exact results_cell_row (fn := Try.f61) Try.results61 _ _ (w.heap.size + 1) 72 _ (0, 0) _ rfl (setRow_heap _ _ _ _ _ _ HO.out) Try.underlying72 rfl (by rw [← hA3]; kernel_rfl)
        · exact ⟨by rw [HR.out, hA3], below_setRow HM.out.2.2.2.1 (by omega) _⟩
      · have xl : ((x : Int) ≤ 67108863) = False := eq_false (by omega)
        have HR : Hid (redD h = mid f 5) := by show _ = _; rw [HE.out, HL.out, if_pos (by rw [HC5.out]; omega)]
        have m4 := mask26 x (by omega)
        clear hx
        go_upto_region 12 with (fail)
        clear xl
        go_upto_region 13 with (fail)
        rw [show (x : Int) % 67108864 = ((x % 67108864 : Nat) : Int) by omega]
        have HM : Hid (Mem8 w (wr.setCell ⟨gg, 4, none⟩ (.int .u64 ((x % 67108864 : Nat) : Int))) gg d (mid f 5)) := (HM.out.set 4 (x % 67108864)).congr HEn.out
        clear c4 f4 m4
        generalize wr.setCell ⟨gg, 4, none⟩ (.int .u64 ((x % 67108864 : Nat) : Int)) = w7 at HM ⊢
        generalize ((x % 67108864 : Nat) : Int) = xq
        have HN := Lib.hid HM.out.2.2.1.heap
        have HO := Lib.hid HM.out.2.1.heap
        generalize hA4 : lmA (mid f 5) = A4 at HN
        apply wp_region_lit
        refine wpList_load_row rfl 72 _ rfl gg (by kernel_rfl) 72 A4 (0, 0) _ HN.out Try.underlying72 rfl (by rw [← hA4]; kernel_rfl) ?_
        refine wpList_store_row rfl 72 _ _ rfl (w.heap.size + 1) A4 (by kernel_rfl) (by kernel_rfl) 72 _ HO.out (by rw [← hA4]; kernel_rfl) (by rw [← hA4, lmA_size, lmA_size]) (by rw [← hA4]; exact lmA_one _) ?_
        simp only [Act.put, List.setIfInBounds_toArray, List.set_cons_zero, List.set_cons_succ]
        go_wp2_with (fail)
        refine bodyPost_ret (v := .agg A4) ?_ rfl ?_
        · exact results_cell_row (fn := Try.f61) Try.results61 _ _ (w.heap.size + 1) 72 _ (0, 0) _ rfl (setRow_heap _ _ _ _ _ _ HO.out) Try.underlying72 rfl (by rw [← hA4]; kernel_rfl)
        · exact ⟨by rw [HR.out, hA4], below_setRow HM.out.2.2.2.1 (by omega) _⟩
end Go.Proofs.Pd
