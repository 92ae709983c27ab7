/-
  The document's own answer: Poly1305's product.
-/
import Derived.Test.YtljhenjbjondkaaGreatJoab
import Derived.BigQuiet
import Derived.Deep.QuietTactic
namespace Go.Proofs.Pol
open Go.RowKit
open Go.Proofs.Im (wpList_box_to words_heap words_one run_index_row)
open Go.Proofs.Sha (wordCells wordCells_get wordCells_size rowIs_of wpList_alloc_to)
/-- One term; the sums of the first k. -/
def term (h r : Nat → Nat) (i j : Nat) : Nat := if 4 < i + j then 5 * (h i * r j) else h i * r j
def prS (h r : Nat → Nat) : Nat → Nat → Nat
  | 0 => fun _ => 0
  | k + 1 => fun t => if t = (k / 5 + k % 5) % 5 then prS h r k t + term h r (k / 5) (k % 5) else prS h r k t
theorem term_lt {h r : Nat → Nat} (hh : ∀ i, h i < 134218752) (hr : ∀ i, r i < 67108864) (i j : Nat) : h i * r j < 9007267974217728 ∧ term h r i j < 45036339871088640 := by
  have h1 : h i * r j ≤ 134218751 * 67108863 := Nat.mul_le_mul (by have := hh i; omega) (by have := hr j; omega)
  refine ⟨by omega, ?_⟩
  unfold term; split <;> omega
theorem prS_lt {h r : Nat → Nat} (hh : ∀ i, h i < 134218752) (hr : ∀ i, r i < 67108864) (k t : Nat) : prS h r k t ≤ k * 45036339871088640 := by
  induction k with
  | zero => simp only [prS, Nat.zero_mul, Nat.le_refl]
  | succ k ih =>
    have h1 := (term_lt hh hr (k / 5) (k % 5)).2
    have e : prS h r (k + 1) t = (if t = (k / 5 + k % 5) % 5 then prS h r k t + term h r (k / 5) (k % 5) else prS h r k t) := rfl
    rw [e, Nat.add_mul, Nat.one_mul]
    generalize k * 45036339871088640 = m at ih ⊢
    generalize term h r (k / 5) (k % 5) = b at h1 ⊢
    generalize prS h r k t = a at ih ⊢
    split
    · exact Nat.add_le_add ih (Nat.le_of_lt h1)
    · exact Nat.le_trans ih (Nat.le_add_right _ _)
theorem carS_lt {d : Nat → Nat} (h : ∀ i, d i < 1152921504606846976) (i : Nat) : carS d i < 171866062848 := by
  have := cc_lt h 5
  unfold carS
  have := Nat.mod_lt (d i + cc d i) (show 67108864 > 0 by decide)
  split <;> omega
/-- The product's limbs. -/
def mulS (h r : Nat → Nat) : Nat → Nat := carS (carS (prS h r 25))
/-- The boxed factors, the result's place, the sums. -/
def Mem7 (w u : World) (h r d : Nat → Nat) : Prop := RQ u w.heap.size h ∧ RQ u (w.heap.size + 1) r ∧ RQ u (w.heap.size + 2) (fun _ => 0) ∧ RQ u (w.heap.size + 3) d ∧ Below w.heap.size w u
theorem mem7_new (w : World) (h r : Nat → Nat) : Mem7 w ((((w.alloc (.cells (lmA h) 83)).alloc (.cells (lmA r) 83)).alloc (.cells (lmA fun _ => 0) 83)).alloc (.cells (lmA fun _ => 0) 83)) h r (fun _ => 0) := by
  have a1 := RQ.new w h
  have b1 : Below w.heap.size w (w.alloc (.cells (lmA h) 83)) := (Below.refl _ _).alloc (Nat.le_refl _) _
  have s1 : (w.alloc (.cells (lmA h) 83)).heap.size = w.heap.size + 1 := by simp
  generalize w.alloc (.cells (lmA h) 83) = w1 at a1 b1 s1 ⊢
  have a2 := RQ.new w1 r
  have s2 : (w1.alloc (.cells (lmA r) 83)).heap.size = w.heap.size + 2 := by simp [s1]
  have b2 : Below w.heap.size w (w1.alloc (.cells (lmA r) 83)) := b1.alloc (by omega) _
  have a1 : RQ (w1.alloc (.cells (lmA r) 83)) w.heap.size h := World.rowIs.alloc a1 _
  rw [s1] at a2
  generalize w1.alloc (.cells (lmA r) 83) = w2 at a1 a2 b2 s2 ⊢
  have a3 := RQ.new w2 (fun _ => 0)
  have s3 : (w2.alloc (.cells (lmA fun _ => 0) 83)).heap.size = w.heap.size + 3 := by simp [s2]
  have b3 : Below w.heap.size w (w2.alloc (.cells (lmA fun _ => 0) 83)) := b2.alloc (by omega) _
  have a1 : RQ (w2.alloc (.cells (lmA fun _ => 0) 83)) w.heap.size h := World.rowIs.alloc a1 _
  have a2 : RQ (w2.alloc (.cells (lmA fun _ => 0) 83)) (w.heap.size + 1) r := World.rowIs.alloc a2 _
  rw [s2] at a3
  generalize w2.alloc (.cells (lmA fun _ => 0) 83) = w3 at a1 a2 a3 b3 s3 ⊢
  have a4 := RQ.new w3 (fun _ => 0)
  rw [s3] at a4
  exact ⟨World.rowIs.alloc a1 _, World.rowIs.alloc a2 _, World.rowIs.alloc a3 _, a4, b3.alloc (by omega) _⟩
theorem Mem7.set {w u : World} {h r d : Nat → Nat} (m : Mem7 w u h r d) (j v : Nat) : Mem7 w (u.setCell ⟨w.heap.size + 3, j, none⟩ (.int .u64 v)) h r (fun i => if i = j then v else d i) :=
  ⟨m.1.other (by simp) _, m.2.1.other (by simp) _, m.2.2.1.other (by simp) _, m.2.2.2.1.set j v, m.2.2.2.2.setCell (by simp) _⟩
theorem Mem7.drewN {w u : World} {h r d : Nat → Nat} (m : Mem7 w u h r d) (q : Nat) : Mem7 w (u.drewN q) h r d := ⟨m.1, m.2.1, m.2.2.1, m.2.2.2.1, Lw.below_drewN m.2.2.2.2 q⟩
set_option maxHeartbeats 4000000 in
set_option maxRecDepth 10000 in
theorem product_any (h r : Nat → Nat) (w : World) (hh : ∀ i, h i < 134218752) (hr : ∀ i, r i < 67108864) :
    Calls Tryz.prog 85 #[.agg (lmA h), .agg (lmA r)] w fun e w' => e = .returned (.agg (lmA (mulS h r))) ∧ Below w.heap.size w w' := by
  have HH := Lib.hid hh
  have HR := Lib.hid hr
  clear hh hr
  go_enter Tryz.func85, Tryz.ntmps85
  go_upto_region 0 with (fail)
  apply wp_region_lit
  refine wpList_box_to rfl 83 _ rfl (lmA h) (by kernel_rfl) w.heap.size rfl ?_
  refine wpList_box_to rfl 83 _ rfl (lmA r) (by kernel_rfl) (w.heap.size + 1) (by simp) ?_
  refine wpList_alloc_to rfl 83 rfl (lmA fun _ => 0) (w.heap.size + 2) (by simp) alloc5 ?_
  go_upto_region 1 with (fail)
  apply wp_region_lit
  refine wpList_alloc_to rfl 83 rfl (lmA fun _ => 0) (w.heap.size + 3) (by simp) alloc5 ?_
  simp only [Act.put, List.setIfInBounds_toArray, List.set_cons_zero, List.set_cons_succ]
  have HM := Lib.hid (mem7_new w h r)
  generalize (((w.alloc (.cells (lmA h) 83)).alloc (.cells (lmA r) 83)).alloc (.cells (lmA fun _ => 0) 83)).alloc (.cells (lmA fun _ => 0) 83) = w1 at HM ⊢
  generalize lmA h = Ah
  generalize lmA r = Ar
  go_wp2_with (fail)
  go_loopw [6] (fun v wx => ∃ i : Nat, Hid (i ≤ 5) ∧ v = .int .i64 i ∧ Hid (Mem7 w wx h r (prS h r (5 * i)))) (fun v _ => 5 - (intOf v).toNat)
  case atStart => exact ⟨0, Nat.zero_le _, rfl, HM⟩
  case round =>
    clear HM
    obtain ⟨i, hi, rfl, HM⟩ := hrel
    by_cases hlt : i < 5
    · have il : ((i : Int) < 5) = True := eq_true (by omega)
      have il' : (i : Int) < 5 := by omega
      have HI := Lib.hid hlt
      clear hlt
      go_wp2_with (fail)
      go_loopw [7] (fun v wx => ∃ j : Nat, Hid (j ≤ 5) ∧ v = .int .i64 j ∧ Hid (Mem7 w wx h r (prS h r (5 * i + j)))) (fun v _ => 5 - (intOf v).toNat)
      case atStart => exact ⟨0, Nat.zero_le _, rfl, HM⟩
      case round =>
        clear HM
        obtain ⟨j, hj, rfl, HM⟩ := hrel
        by_cases hlt : j < 5
        case neg =>
          have jl : ((j : Int) < 5) = False := eq_false (by omega)
          obtain rfl : j = 5 := by have := hj.out; omega
          rw [show ((5 : Nat) : Int) = 5 from rfl]
          clear hlt jl hj
          go_wp2_with (fail)
          exact ⟨⟨i + 1, HI.out, by go_num, HM⟩, Lw.meas 5 i HI.out⟩
        have jl : ((j : Int) < 5) = True := eq_true (by omega)
        have jl' : (j : Int) < 5 := by omega
        have HJ := Lib.hid hlt
        have c1 := HM.out.1.at_ i (h i) HI.out rfl
        have c2 := HM.out.2.1.at_ j (r j) hlt rfl
        have HT := Lib.hid (term_lt HH.out HR.out i j)
        have o1 : IntKind.u64.wrap ((h i : Int) * (r j : Int)) = ((h i * r j : Nat) : Int) := by show _ % 18446744073709551616 = _; rw [← Int.natCast_mul]; have := HT.out.1; omega
        have HTe : Hid (term h r i j = if 4 < i + j then 5 * (h i * r j) else h i * r j) := rfl
        clear hlt
        generalize h i * r j = p at o1 HT HTe
        go_wp2_with (fail)
        go_quiet (fail)
        clear c1 c2 o1
        have HM := Lib.hid (HM.out.drewN nq)
        generalize wr.drewN nq = w2 at HM ⊢
        have HP : Hid (∀ t, (if t = (i + j) % 5 then prS h r (5 * i + j) ((i + j) % 5) + term h r i j else prS h r (5 * i + j) t) = prS h r (5 * i + (j + 1)) t) := fun t => by
          show _ = (if t = ((5 * i + j) / 5 + (5 * i + j) % 5) % 5 then prS h r (5 * i + j) t + term h r ((5 * i + j) / 5) ((5 * i + j) % 5) else prS h r (5 * i + j) t)
          rw [show (5 * i + j) / 5 = i by have := HJ.out; omega, show (5 * i + j) % 5 = j by have := HJ.out; omega]
          split
          · next e => rw [e]
          · rfl
        have HPl := Lib.hid (prS_lt HH.out HR.out (5 * i + j) ((i + j) % 5))
        have hm5 : (i + j) % 5 < 5 := Nat.mod_lt _ (by decide)
        have dc := HM.out.2.2.2.1.at_ ((i + j) % 5) _ hm5 rfl
        have df := World.rowIs.frozen HM.out.2.2.2.1 ((i + j) % 5)
        generalize prS h r (5 * i + j) ((i + j) % 5) = old at HP HPl dc
        generalize term h r i j = T at HT HTe HP
        have t0 : ((i : Int) + (j : Int)).tmod 5 = (((i + j) % 5 : Nat) : Int) := by rw [Int.tmod_eq_emod_of_nonneg (by omega)]; omega
        have t1 : ((i : Int) + (j : Int)) % 5 = (((i + j) % 5 : Nat) : Int) := by omega
        have q5 : (((i + j) % 5 : Nat) : Int) < 5 := by omega
        have ol : old < 1152921504606846976 - 45036339871088640 := by have := HPl.out; have := HI.out; have := HJ.out; omega
        have HQ := Lib.hid hm5
        generalize (i + j) % 5 = q at HP dc df t0 t1 q5 HQ hm5
        clear hm5
        by_cases hs : 4 < i + j
        · have s1 : ((4 : Int) < (i : Int) + (j : Int)) = True := eq_true (by omega)
          have HTv : Hid (T = 5 * p) := by have h := HTe.out; rw [if_pos hs] at h; exact h
          have pl := HT.out.1
          clear hs HTe
          go_wp2_with (fail)
          rw [show (old : Int) + 5 * (p : Int) = ((old + T : Nat) : Int) by have := HTv.out; omega]
          refine ⟨⟨j + 1, HJ.out, by go_num, ?_⟩, Lw.meas 5 j HJ.out⟩
          have hm := HM.out.set q (old + T)
          exact ⟨hm.1, hm.2.1, hm.2.2.1, hm.2.2.2.1.congr fun t _ => HP.out t, hm.2.2.2.2⟩
        · have s1 : ((4 : Int) < (i : Int) + (j : Int)) = False := eq_false (by omega)
          have HTv : Hid (T = p) := by have h := HTe.out; rw [if_neg hs] at h; exact h
          have pl := HT.out.1
          clear hs HTe
          go_wp2_with (fail)
          rw [show (old : Int) + (p : Int) = ((old + T : Nat) : Int) by have := HTv.out; omega]
          refine ⟨⟨j + 1, HJ.out, by go_num, ?_⟩, Lw.meas 5 j HJ.out⟩
          have hm := HM.out.set q (old + T)
          exact ⟨hm.1, hm.2.1, hm.2.2.1, hm.2.2.2.1.congr fun t _ => HP.out t, hm.2.2.2.2⟩
    · have il : ((i : Int) < 5) = False := eq_false (by omega)
      obtain rfl : i = 5 := by have := hi.out; omega
      rw [show ((5 : Nat) : Int) = 5 from rfl]
      clear hlt il hi
      have HD : Hid (∀ t, prS h r 25 t < 1152921504606846976) := fun t => by have := prS_lt HH.out HR.out 25 t; omega
      have HM : Hid (Mem7 w wr h r (prS h r 25)) := HM
      have HE : Hid (carS (carS (prS h r 25)) = mulS h r) := rfl
      generalize prS h r 25 = d at HD HM HE
      have HN := Lib.hid HM.out.2.2.2.1.heap
      generalize hA : lmA d = A at HN
      go_upto_region 12 with (fail)
      apply wp_region_lit
      refine wpList_load_row rfl 83 _ rfl (w.heap.size + 3) (by kernel_rfl) 83 A (0, 0) _ HN.out Tryz.underlying83 rfl (by rw [← hA]; kernel_rfl) ?_
      refine Lw.wpList_callTo (some 44) rfl rfl 106 _ _ rfl (fun _ _ => by go_simp) #[.agg A] (by kernel_rfl) ?_
      have hC1 := carried_any d wr HD.out
      rw [hA] at hC1
      refine hC1.mono ?_
      clear hC1 HN
      rintro e u1 ⟨rfl, hb1⟩
      refine ⟨_, rfl, ?_⟩
      generalize hA2 : lmA (carS d) = A2
      refine Lw.wpList_callTo (some 45) rfl rfl 106 _ _ rfl (fun _ _ => by go_simp) #[.agg A2] (by kernel_rfl) ?_
      have hC2 := carried_any (carS d) u1 (fun t => Nat.lt_trans (carS_lt HD.out t) (by decide))
      rw [hA2] at hC2
      refine hC2.mono ?_
      clear hC2
      rintro e u2 ⟨rfl, hb2⟩
      refine ⟨_, rfl, ?_⟩
      have hbb := Lw.go_on (Lw.go_on HM.out.2.2.2.2 hb1) hb2
      have HO := Lib.hid ((HM.out.2.2.1.on hb1).on hb2).heap
      have HB := Lib.hid hbb
      clear hb1 hb2 hbb
      rw [HE.out]
      generalize hA3 : lmA (mulS h r) = A3
      refine wpList_store_row rfl 83 _ _ rfl (w.heap.size + 2) A3 (by kernel_rfl) (by kernel_rfl) 83 _ HO.out (by rw [← hA3]; kernel_rfl) (by rw [← hA3, lmA_size, lmA_size]) (by rw [← hA3]; exact lmA_one _) ?_
      simp only [Act.put, List.setIfInBounds_toArray, List.set_cons_zero, List.set_cons_succ]
      go_wp2_with (fail)
      refine bodyPost_ret (v := .agg A3) ?_ rfl ?_
      · exact results_cell_row (fn := Tryz.f85) Tryz.results85 _ _ (w.heap.size + 2) 83 _ (0, 0) _ rfl (setRow_heap _ _ _ _ _ _ HO.out) Tryz.underlying83 rfl (by rw [← hA3]; kernel_rfl)
      · exact ⟨by rw [hA3], below_setRow HB.out (by omega) _⟩
end Go.Proofs.Pol
