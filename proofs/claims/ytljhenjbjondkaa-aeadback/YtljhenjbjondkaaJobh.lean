/-
  The developers' poly: products of numbers.
-/
import Derived.Test.YtljhenjbjondkaaJobg
namespace Go.Proofs.Pd
open Go.RowKit
open Go.Proofs.Pol (lmL lmA lmA_get lmA_congr lmA_one lmA_size lt5 lmV lmV_arr prS term term_lt prS_lt)
open Go.Proofs.Im (wpList_box_to words_heap words_one run_index_row wp_region_quiet_tail)
open Go.Proofs.Sha (wordCells wordCells_get wordCells_size rowIs_of wpList_alloc_to wpList_build_to)
/-- The boxed factors, the result's place, the sums. -/
def Mem7 (w u : World) (h r d : Nat → Nat) : Prop := RQ u w.heap.size h ∧ RQ u (w.heap.size + 1) r ∧ RQ u (w.heap.size + 2) (fun _ => 0) ∧ RQ u (w.heap.size + 3) d ∧ Below w.heap.size w u
theorem mem7_new (w : World) (h r : Nat → Nat) : Mem7 w ((((w.alloc (.cells (lmA h) 72)).alloc (.cells (lmA r) 72)).alloc (.cells (lmA fun _ => 0) 72)).alloc (.cells (lmA fun _ => 0) 72)) h r (fun _ => 0) := by
  have a1 := RQ.new w h
  have b1 : Below w.heap.size w (w.alloc (.cells (lmA h) 72)) := (Below.refl _ _).alloc (Nat.le_refl _) _
  have s1 : (w.alloc (.cells (lmA h) 72)).heap.size = w.heap.size + 1 := by simp
  generalize w.alloc (.cells (lmA h) 72) = w1 at a1 b1 s1 ⊢
  have a2 := RQ.new w1 r
  have s2 : (w1.alloc (.cells (lmA r) 72)).heap.size = w.heap.size + 2 := by simp [s1]
  have b2 : Below w.heap.size w (w1.alloc (.cells (lmA r) 72)) := b1.alloc (by omega) _
  have a1 : RQ (w1.alloc (.cells (lmA r) 72)) w.heap.size h := World.rowIs.alloc a1 _
  rw [s1] at a2
  generalize w1.alloc (.cells (lmA r) 72) = w2 at a1 a2 b2 s2 ⊢
  have a3 := RQ.new w2 (fun _ => 0)
  have s3 : (w2.alloc (.cells (lmA fun _ => 0) 72)).heap.size = w.heap.size + 3 := by simp [s2]
  have b3 : Below w.heap.size w (w2.alloc (.cells (lmA fun _ => 0) 72)) := b2.alloc (by omega) _
  have a1 : RQ (w2.alloc (.cells (lmA fun _ => 0) 72)) w.heap.size h := World.rowIs.alloc a1 _
  have a2 : RQ (w2.alloc (.cells (lmA fun _ => 0) 72)) (w.heap.size + 1) r := World.rowIs.alloc a2 _
  rw [s2] at a3
  generalize w2.alloc (.cells (lmA fun _ => 0) 72) = w3 at a1 a2 a3 b3 s3 ⊢
  have a4 := RQ.new w3 (fun _ => 0)
  rw [s3] at a4
  exact ⟨World.rowIs.alloc a1 _, World.rowIs.alloc a2 _, World.rowIs.alloc a3 _, a4, b3.alloc (by omega) _⟩
theorem Mem7.set {w u : World} {h r d : Nat → Nat} (m : Mem7 w u h r d) (j v : Nat) : Mem7 w (u.setCell ⟨w.heap.size + 3, j, none⟩ (.int .u64 v)) h r (fun i => if i = j then v else d i) :=
  ⟨m.1.other (by simp) _, m.2.1.other (by simp) _, m.2.2.1.other (by simp) _, m.2.2.2.1.set j v, m.2.2.2.2.setCell (by simp) _⟩
theorem Mem7.drewN {w u : World} {h r d : Nat → Nat} (m : Mem7 w u h r d) (q : Nat) : Mem7 w (u.drewN q) h r d := ⟨m.1, m.2.1, m.2.2.1, m.2.2.2.1, Lw.below_drewN m.2.2.2.2 q⟩
set_option maxHeartbeats 4000000 in
set_option maxRecDepth 10000 in
theorem times_any (h r : Nat → Nat) (w : World) (hh : ∀ i, h i < 134218752) (hr : ∀ i, r i < 67108864) :
    Calls Try.prog 60 #[.agg (lmA h), .agg (lmA r)] w fun e w' => e = .returned (.agg (lmA (carD (prS h r 25)))) ∧ Below w.heap.size w w' := by
  have HH := Lib.hid hh
  have HR := Lib.hid hr
  clear hh hr
  go_enter Try.func60, Try.ntmps60
  go_upto_region 0 with (fail)
  apply wp_region_lit
  refine wpList_box_to rfl 72 _ rfl (lmA h) (by kernel_rfl) w.heap.size rfl ?_
  refine wpList_box_to rfl 72 _ rfl (lmA r) (by kernel_rfl) (w.heap.size + 1) (by simp) ?_
  refine wpList_alloc_to rfl 72 rfl (lmA fun _ => 0) (w.heap.size + 2) (by simp) alloc5 ?_
  go_upto_region 1 with (fail)
  apply wp_region_lit
  refine wpList_alloc_to rfl 72 rfl (lmA fun _ => 0) (w.heap.size + 3) (by simp) alloc5 ?_
  simp only [Act.put, List.setIfInBounds_toArray, List.set_cons_zero, List.set_cons_succ]
  have HM := Lib.hid (mem7_new w h r)
  generalize (((w.alloc (.cells (lmA h) 72)).alloc (.cells (lmA r) 72)).alloc (.cells (lmA fun _ => 0) 72)).alloc (.cells (lmA fun _ => 0) 72) = w1 at HM ⊢
  have HNh := Lib.hid HM.out.1.heap
  have HNr := Lib.hid fun (u : World) (d : Nat → Nat) (m : Mem7 w u h r d) => m.2.1.heap
  have HIh : Hid (∀ i, i < 5 → (lmA h)[i]? = some (.int .u64 (h i : Nat))) := lmA_get h
  have HIr : Hid (∀ i, i < 5 → (lmA r)[i]? = some (.int .u64 (r i : Nat))) := lmA_get r
  have HSh : Hid ((lmA h).size = 5) := lmA_size h
  have HSr : Hid ((lmA r).size = 5) := lmA_size r
  generalize lmA h = Ah at HNh HIh HSh ⊢
  generalize lmA r = Ar at HNr HIr HSr ⊢
  go_upto_region 2 with (fail)
  apply wp_region_lit
  refine wpList_load_row rfl 72 _ rfl w.heap.size (by kernel_rfl) 72 Ah (0, 0) _ HNh.out Try.underlying72 rfl (by rw [HSh.out]; kernel_rfl) ?_
  simp only [Act.put, List.setIfInBounds_toArray, List.set_cons_zero, List.set_cons_succ]
  clear HNh
  go_wp2_with (fail)
  go_loopw [11] (fun v wx => ∃ i : Nat, Hid (i ≤ 5) ∧ v = .int .i64 i ∧ Hid (Mem7 w wx h r (prS h r (5 * i)))) (fun v _ => 5 - (intOf v).toNat)
  case atStart => exact ⟨0, Nat.zero_le _, rfl, HM⟩
  case round =>
    clear HM
    obtain ⟨i, hi, rfl, HM⟩ := hrel
    by_cases hlt : i < 5
    · have il : ((i : Int) < 5) = True := eq_true (by omega)
      have il' : (i : Int) < 5 := by omega
      have HI := Lib.hid hlt
      have hix := fun W => run_index_row (P := Try.prog) W 72 44 5 Ah .i64 i (.int .u64 (h i : Nat)) Try.underlying72 (by kernel_rfl) _ Try.underlying44 rfl hlt (HIh.out i hlt)
      clear hlt
      go_upto_region 5 with (fail)
      clear hix
      have HN := Lib.hid (HNr.out wr _ HM.out)
      apply wp_region_lit
      refine wpList_load_row rfl 72 _ rfl (w.heap.size + 1) (by kernel_rfl) 72 Ar (0, 0) _ HN.out Try.underlying72 rfl (by rw [HSr.out]; kernel_rfl) ?_
      simp only [Act.put, List.setIfInBounds_toArray, List.set_cons_zero, List.set_cons_succ]
      clear HN
      go_wp2_with (fail)
      go_loopw [16] (fun v wx => ∃ j : Nat, Hid (j ≤ 5) ∧ v = .int .i64 j ∧ Hid (Mem7 w wx h r (prS h r (5 * i + j)))) (fun v _ => 5 - (intOf v).toNat)
      case atStart => exact ⟨0, Nat.zero_le _, rfl, HM⟩
      case round =>
        clear HM
        obtain ⟨j, hj, rfl, HM⟩ := hrel
        by_cases hlt : j < 5
        case neg =>
          have jl : ((j : Int) < 5) = False := eq_false (by omega)
          obtain rfl : j = 5 := by have := hj.out; omega
          rw [show ((5 : Nat) : Int) = 5 from rfl]
          clear hlt jl hj
          go_wp2_with (fail)
          exact ⟨⟨i + 1, HI.out, by go_num, HM⟩, Lw.meas 5 i HI.out⟩
        have jl : ((j : Int) < 5) = True := eq_true (by omega)
        have jl' : (j : Int) < 5 := by omega
        have HJ := Lib.hid hlt
        have hix := fun W => run_index_row (P := Try.prog) W 72 44 5 Ar .i64 j (.int .u64 (r j : Nat)) Try.underlying72 (by kernel_rfl) _ Try.underlying44 rfl hlt (HIr.out j hlt)
        have HT := Lib.hid (term_lt HH.out HR.out i j)
        have HTe : Hid (term h r i j = if 4 < i + j then 5 * (h i * r j) else h i * r j) := rfl
        have HP : Hid (∀ t, (if t = (i + j) % 5 then prS h r (5 * i + j) ((i + j) % 5) + term h r i j else prS h r (5 * i + j) t) = prS h r (5 * i + (j + 1)) t) := fun t => by
          show _ = (if t = ((5 * i + j) / 5 + (5 * i + j) % 5) % 5 then prS h r (5 * i + j) t + term h r ((5 * i + j) / 5) ((5 * i + j) % 5) else prS h r (5 * i + j) t)
          rw [show (5 * i + j) / 5 = i by have := HJ.out; omega, show (5 * i + j) % 5 = j by have := HJ.out; omega]
          split
          · next e => rw [e]
          · rfl
        have HPl := Lib.hid (prS_lt HH.out HR.out (5 * i + j) ((i + j) % 5))
        have hm5 : (i + j) % 5 < 5 := Nat.mod_lt _ (by decide)
        have dc := HM.out.2.2.2.1.at_ ((i + j) % 5) _ hm5 rfl
        have df := World.rowIs.frozen HM.out.2.2.2.1 ((i + j) % 5)
        generalize prS h r (5 * i + j) ((i + j) % 5) = old at HP HPl dc
        generalize term h r i j = T at HT HTe HP
        have q5 : (((i + j) % 5 : Nat) : Int) < 5 := by omega
        have ol : old < 1152921504606846976 - 45036339871088640 := by have := HPl.out; have := HI.out; have := HJ.out; omega
        have HXl := Lib.hid (HH.out i)
        clear hlt
        by_cases hs : 4 < i + j
        · have s1 : ((i : Int) + (j : Int) < 5) = False := eq_false (by omega)
          have s2 : (i : Int) + (j : Int) - 5 = (((i + j) % 5 : Nat) : Int) := by have := HI.out; have := HJ.out; omega
          have HTv : Hid (T = 5 * (h i * r j)) := by have h := HTe.out; rw [if_pos hs] at h; exact h
          have o1 : IntKind.u64.wrap (5 * (h i : Int)) = ((5 * h i : Nat) : Int) := by show _ % 18446744073709551616 = _; have := HXl.out; omega
          have o2 : IntKind.u64.wrap (((5 * h i : Nat) : Int) * (r j : Int)) = (T : Int) := by
            show _ % 18446744073709551616 = _
            rw [← Int.natCast_mul, Nat.mul_assoc, ← HTv.out]; have := HT.out.2; omega
          have HTl := Lib.hid HT.out.2
          clear hs HTe HT HTv HPl
          generalize (i + j) % 5 = q at HP dc df q5 hm5 s2
          generalize h i = x at o1 o2 HXl ⊢
          generalize r j = y at o2 hix
          generalize 5 * x = x5 at o1 o2
          have o3 : IntKind.u64.wrap ((old : Int) + (T : Int)) = ((old + T : Nat) : Int) := by show _ % 18446744073709551616 = _; have := HTl.out; omega
          have HOT : Hid ((old : Int) + (T : Int) = ((old + T : Nat) : Int)) := by show _ = _; omega
          go_wp2_with (fail)
          rw [HOT.out]
          refine ⟨⟨j + 1, HJ.out, by go_num, ?_⟩, Lw.meas 5 j HJ.out⟩
          have hm := HM.out.set q (old + T)
          exact ⟨hm.1, hm.2.1, hm.2.2.1, hm.2.2.2.1.congr fun t _ => HP.out t, hm.2.2.2.2⟩
        · have s1 : ((i : Int) + (j : Int) < 5) = True := eq_true (by omega)
          have s2 : (i : Int) + (j : Int) = (((i + j) % 5 : Nat) : Int) := by omega
          have HTv : Hid (T = h i * r j) := by have h := HTe.out; rw [if_neg hs] at h; exact h
          have o2 : IntKind.u64.wrap ((h i : Int) * (r j : Int)) = (T : Int) := by
            show _ % 18446744073709551616 = _
            rw [← Int.natCast_mul, ← HTv.out]; have := HT.out.2; omega
          have HTl := Lib.hid HT.out.2
          clear hs HTe HT HTv HPl
          generalize (i + j) % 5 = q at HP dc df q5 hm5 s2
          generalize h i = x at o2 HXl ⊢
          generalize r j = y at o2 hix
          have o3 : IntKind.u64.wrap ((old : Int) + (T : Int)) = ((old + T : Nat) : Int) := by show _ % 18446744073709551616 = _; have := HTl.out; omega
          have HOT : Hid ((old : Int) + (T : Int) = ((old + T : Nat) : Int)) := by show _ = _; omega
          go_wp2_with (fail)
          rw [HOT.out]
          refine ⟨⟨j + 1, HJ.out, by go_num, ?_⟩, Lw.meas 5 j HJ.out⟩
          have hm := HM.out.set q (old + T)
          exact ⟨hm.1, hm.2.1, hm.2.2.1, hm.2.2.2.1.congr fun t _ => HP.out t, hm.2.2.2.2⟩
    · have il : ((i : Int) < 5) = False := eq_false (by omega)
      obtain rfl : i = 5 := by have := hi.out; omega
      rw [show ((5 : Nat) : Int) = 5 from rfl]
      clear hlt il hi
      have HD : Hid (∀ t, prS h r 25 t < 1152921504606846976) := fun t => by have := prS_lt HH.out HR.out 25 t; omega
      have HM : Hid (Mem7 w wr h r (prS h r 25)) := HM
      generalize hd : prS h r 25 = d at HD HM
      have HE := Lib.hid hd
      clear hd
      have HN := Lib.hid HM.out.2.2.2.1.heap
      generalize hA : lmA d = A at HN
      go_upto_region 13 with (fail)
      apply wp_region_lit
      refine wpList_load_row rfl 72 _ rfl (w.heap.size + 3) (by kernel_rfl) 72 A (0, 0) _ HN.out Try.underlying72 rfl (by rw [← hA]; kernel_rfl) ?_
      refine Lw.wpList_callTo (some 49) rfl rfl 77 _ _ rfl (fun _ _ => by go_simp) #[.agg A] (by kernel_rfl) ?_
      have hC1 := carried_any d wr HD.out
      rw [hA] at hC1
      refine hC1.mono ?_
      clear hC1 HN
      rintro e u1 ⟨rfl, hb1⟩
      refine ⟨_, rfl, ?_⟩
      have hbb := Lw.go_on HM.out.2.2.2.2 hb1
      have HO := Lib.hid (HM.out.2.2.1.on hb1).heap
      have HB := Lib.hid hbb
      clear hb1 hbb
      generalize hA3 : lmA (carD d) = A3
      refine wpList_store_row rfl 72 _ _ rfl (w.heap.size + 2) A3 (by kernel_rfl) (by kernel_rfl) 72 _ HO.out (by rw [← hA3]; kernel_rfl) (by rw [← hA3, lmA_size, lmA_size]) (by rw [← hA3]; exact lmA_one _) ?_
      simp only [Act.put, List.setIfInBounds_toArray, List.set_cons_zero, List.set_cons_succ]
      go_wp2_with (fail)
      refine bodyPost_ret (v := .agg A3) ?_ rfl ?_
      · exact results_cell_row (fn := Try.f60) Try.results60 _ _ (w.heap.size + 2) 72 _ (0, 0) _ rfl (setRow_heap _ _ _ _ _ _ HO.out) Try.underlying72 rfl (by rw [← hA3]; kernel_rfl)
      · exact ⟨by rw [HE.out, hA3], below_setRow HB.out (by omega) _⟩
end Go.Proofs.Pd
