/-
  The document's own answer for layer 9: sums and differences of eight words.
-/
import Derived.Test.YtpniinolkflfjaaJoae
namespace Go.Proofs.Nu
open Go.RowKit
open Go.Proofs.Im (wpList_box_to words_heap words_one run_index_row)
open Go.Proofs.Sha (wordCells wordCells_get wordCells_size rowIs_of wpList_alloc_to)
open Go.Proofs.Nt
/-- Two boxed numbers and a result's place. -/
def Tri (w u : World) (d e : Nat → Nat) : Prop := RN u w.heap.size d ∧ RN u (w.heap.size + 1) e ∧ RN u (w.heap.size + 2) (fun _ => 0) ∧ Below w.heap.size w u
theorem tri_new (w : World) (d e : Nat → Nat) : Tri w (((w.alloc (.cells (nmA d) 50)).alloc (.cells (nmA e) 50)).alloc (.cells (nmA fun _ => 0) 50)) d e := by
  obtain ⟨h1, h2, h3⟩ := two_new w d e
  have s2 : ((w.alloc (.cells (nmA d) 50)).alloc (.cells (nmA e) 50)).heap.size = w.heap.size + 2 := by simp
  generalize (w.alloc (.cells (nmA d) 50)).alloc (.cells (nmA e) 50) = w2 at h1 h2 h3 s2 ⊢
  have h4 := RN.new w2 (fun _ => 0)
  rw [s2] at h4
  exact ⟨World.rowIs.alloc h1 _, World.rowIs.alloc h2 _, h4, h3.alloc (by omega) _⟩
theorem Tri.set {w u : World} {d e : Nat → Nat} (h : Tri w u d e) (j v : Nat) : Tri w (u.setCell ⟨w.heap.size, j, none⟩ (.int .u32 v)) (fun i => if i = j then v else d i) e :=
  ⟨h.1.set j v, h.2.1.other (by simp) _, h.2.2.1.other (by simp) _, h.2.2.2.setCell (Nat.le_refl _) _⟩
theorem Tri.congr {w u : World} {d d' e : Nat → Nat} (h : Tri w u d e) (he : ∀ i, i < 8 → d i = d' i) : Tri w u d' e := ⟨h.1.congr he, h.2⟩
theorem Tri.drewN {w u : World} {d e : Nat → Nat} (m : Tri w u d e) (q : Nat) : Tri w (u.drewN q) d e := ⟨m.1, m.2.1, m.2.2.1, Lw.below_drewN m.2.2.2 q⟩
/-- The first j words are new ones. -/
def half (f d : Nat → Nat) (j i : Nat) : Nat := if i < j then f i else d i
theorem half_at (f d : Nat → Nat) (j : Nat) : half f d j j = d j := by unfold half; rw [if_neg (by omega)]
theorem half_zero (f d : Nat → Nat) (i : Nat) : d i = half f d 0 i := by unfold half; rw [if_neg (by omega)]
theorem half_succ (f d : Nat → Nat) (j i : Nat) : (if i = j then f j else half f d j i) = half f d (j + 1) i := by
  unfold half
  by_cases h : i = j
  · subst h; rw [if_pos rfl, if_pos (Nat.lt_succ_self _)]
  · rw [if_neg h]
    by_cases h2 : i < j
    · rw [if_pos h2, if_pos (by omega)]
    · rw [if_neg h2, if_neg (by omega)]
theorem half_all (f d : Nat → Nat) (i : Nat) (h : i < 8) : half f d 8 i = f i := if_pos h
theorem mask32 (x : Nat) (hx : x < 18446744073709551616) : bits .and .u64 (x : Int) 4294967295 = ((x % 4294967296 : Nat) : Int) := by
  have h := u64_and_nat x 4294967295 hx (by decide)
  rw [show 4294967295 = 2 ^ 32 - 1 from rfl, Nat.and_two_pow_sub_one_eq_mod] at h
  exact h
set_option maxHeartbeats 2000000 in
theorem plus_limbs (d e : Nat → Nat) (w : World) (hd : ∀ i, d i < 4294967296) (he : ∀ i, e i < 4294967296) :
    Calls Try.prog 47 #[.agg (nmA d), .agg (nmA e)] w fun x w' => x = .returned (.tuple #[.agg (nmA (ps d e)), .int .u64 (pc d e 8 : Nat)]) ∧ Below w.heap.size w w' := by
  have HD := Lib.hid hd
  have HE := Lib.hid he
  have HP := Lib.hid (pc_le hd he)
  clear hd he
  go_enter Try.func47, Try.ntmps47
  go_upto_region 0 with (fail)
  apply wp_region_lit
  refine wpList_box_to rfl 50 _ rfl (nmA d) (by kernel_rfl) w.heap.size rfl ?_
  refine wpList_box_to rfl 50 _ rfl (nmA e) (by kernel_rfl) (w.heap.size + 1) (by simp) ?_
  refine wpList_alloc_to rfl 50 rfl (nmA fun _ => 0) (w.heap.size + 2) (by simp) alloc8 ?_
  have HM := Lib.hid (tri_new w d e)
  generalize ((w.alloc (.cells (nmA d) 50)).alloc (.cells (nmA e) 50)).alloc (.cells (nmA fun _ => 0) 50) = w1 at HM ⊢
  generalize nmA d = Ad
  generalize nmA e = Ae
  go_wp2_with (fail)
  go_loopw [6, 7] (fun c v wx => ∃ j : Nat, Hid (j ≤ 8) ∧ v = .int .i64 j ∧ c = .int .u64 (pc d e j : Nat) ∧ Hid (Tri w wx (half (ps d e) d j) e)) (fun _ v _ => 8 - (intOf v).toNat)
  case atStart => exact ⟨0, Nat.zero_le _, rfl, rfl, HM.out.congr fun i _ => half_zero _ d i⟩
  case round =>
    clear HM
    obtain ⟨j, hj, rfl, rfl, HM⟩ := hrel
    by_cases hlt : j < 8
    · have jl : ((j : Int) < 8) = True := eq_true (by omega)
      have jl' : (j : Int) < 8 := by omega
      have x1 := HM.out.1.at_ j (d j) hlt (half_at _ _ _)
      have x2 := HM.out.2.1.at_ j (e j) hlt rfl
      have HJ := Lib.hid hlt
      have l1 := HD.out j
      have l2 := HE.out j
      have l3 := HP.out j
      have HC : Hid ((d j + e j + pc d e j) / 4294967296 = pc d e (j + 1)) := rfl
      have HQ : Hid ((d j + e j + pc d e j) % 4294967296 = ps d e j) := rfl
      generalize pc d e j = c at l3 HC HQ ⊢
      generalize d j = x at x1 l1 HC HQ
      generalize e j = y at x2 l2 HC HQ
      have m1 := mask32 (x + y + c) (by omega)
      clear hlt
      go_wp2_with (fail)
      go_quiet (fail)
      have HM := Lib.hid (HM.out.drewN nq)
      have xf := World.rowIs.frozen HM.out.1 j
      have y1 : (wr.drewN nq).cell? ⟨w.heap.size, j, none⟩ = some (.int .u32 (x : Nat)) := x1
      clear x1 x2
      generalize wr.drewN nq = w2 at HM y1 xf ⊢
      go_wp2_with (fail)
      rw [show ((x : Int) + (y : Int) + (c : Int)) = ((x + y + c : Nat) : Int) by omega, m1, show (((x + y + c) % 4294967296 : Nat) : Int) % 4294967296 = (((x + y + c) % 4294967296 : Nat) : Int) by omega]
      refine ⟨⟨j + 1, HJ.out, by go_num, ?_, ?_⟩, Lw.meas 8 j HJ.out⟩
      · rw [← HC.out]; rfl
      · exact (HM.out.set j ((x + y + c) % 4294967296)).congr fun i _ => by rw [HQ.out]; exact half_succ _ _ _ _
    · have jl : ((j : Int) < 8) = False := eq_false (by omega)
      obtain rfl : j = 8 := by have := hj.out; omega
      rw [show ((8 : Nat) : Int) = 8 from rfl]
      clear hlt jl hj
      have HM := Lib.hid (HM.out.congr (half_all (ps d e) d))
      have HN := Lib.hid HM.out.1.heap
      have HO := Lib.hid HM.out.2.2.1.heap
      go_upto_region 8 with (fail)
      generalize hA : nmA (ps d e) = A at HN
      apply wp_region_lit
      refine wpList_load_row rfl 50 _ rfl w.heap.size (by kernel_rfl) 50 A (0, 0) _ HN.out Try.underlying50 rfl (by rw [← hA]; kernel_rfl) ?_
      refine Lw.wpList_val rfl (.int .u64 (pc d e 8 : Nat)) wr (by go_simp) ?_
      refine wpList_store_row rfl 50 _ _ rfl (w.heap.size + 2) A (by kernel_rfl) (by kernel_rfl) 50 _ HO.out (by rw [← hA]; kernel_rfl) (by rw [← hA, nmA_size, nmA_size]) (by rw [← hA]; exact nmA_one _) ?_
      simp only [Act.put, List.setIfInBounds_toArray, List.set_cons_zero, List.set_cons_succ]
      go_wp2_with (fail)
      refine bodyPost_ret (v := .tuple #[.agg A, .int .u64 (pc d e 8 : Nat)]) ?_ rfl ?_
      · exact results_row_slot (fn := Try.f47) Try.results47 _ _ (w.heap.size + 2) 50 _ (0, 0) _ _ rfl rfl (setRow_heap _ _ _ _ _ _ HO.out) Try.underlying50 rfl (by rw [← hA]; kernel_rfl)
      · exact ⟨by rw [hA], below_setRow HM.out.2.2.2 (by omega) _⟩
theorem sub_word (x y c : Nat) (hx : x < 4294967296) (hy : y < 4294967296) (hc : c ≤ 1) : ∃ D : Nat, IntKind.u64.wrap (IntKind.u64.wrap ((x : Int) - (y : Int)) - (c : Int)) = (D : Int) ∧ D < 18446744073709551616 ∧ D / 9223372036854775808 = (if x < y + c then 1 else 0) ∧ D % 4294967296 = (x + 4294967296 - y - c) % 4294967296 := by
  refine ⟨(x + 18446744073709551616 - y - c) % 18446744073709551616, ?_, Nat.mod_lt _ (by decide), ?_, by omega⟩
  · show (((x : Int) - (y : Int)) % 18446744073709551616 - (c : Int)) % 18446744073709551616 = _
    omega
  · split <;> omega
set_option maxHeartbeats 2000000 in
theorem minus_limbs (d e : Nat → Nat) (w : World) (hd : ∀ i, d i < 4294967296) (he : ∀ i, e i < 4294967296) :
    Calls Try.prog 23 #[.agg (nmA d), .agg (nmA e)] w fun x w' => x = .returned (.agg (nmA (ms d e))) ∧ Below w.heap.size w w' := by
  have HD := Lib.hid hd
  have HE := Lib.hid he
  clear hd he
  go_enter Try.func23, Try.ntmps23
  go_upto_region 0 with (fail)
  apply wp_region_lit
  refine wpList_box_to rfl 50 _ rfl (nmA d) (by kernel_rfl) w.heap.size rfl ?_
  refine wpList_box_to rfl 50 _ rfl (nmA e) (by kernel_rfl) (w.heap.size + 1) (by simp) ?_
  refine wpList_alloc_to rfl 50 rfl (nmA fun _ => 0) (w.heap.size + 2) (by simp) alloc8 ?_
  have HM := Lib.hid (tri_new w d e)
  generalize ((w.alloc (.cells (nmA d) 50)).alloc (.cells (nmA e) 50)).alloc (.cells (nmA fun _ => 0) 50) = w1 at HM ⊢
  generalize nmA d = Ad
  generalize nmA e = Ae
  go_wp2_with (fail)
  go_loopw [5, 6] (fun c v wx => ∃ j : Nat, Hid (j ≤ 8) ∧ v = .int .i64 j ∧ c = .int .u64 (mb d e j : Nat) ∧ Hid (Tri w wx (half (ms d e) d j) e)) (fun _ v _ => 8 - (intOf v).toNat)
  case atStart => exact ⟨0, Nat.zero_le _, rfl, rfl, HM.out.congr fun i _ => half_zero _ d i⟩
  case round =>
    clear HM
    obtain ⟨j, hj, rfl, rfl, HM⟩ := hrel
    by_cases hlt : j < 8
    · have jl : ((j : Int) < 8) = True := eq_true (by omega)
      have jl' : (j : Int) < 8 := by omega
      have x1 := HM.out.1.at_ j (d j) hlt (half_at _ _ _)
      have x2 := HM.out.2.1.at_ j (e j) hlt rfl
      have HJ := Lib.hid hlt
      have l1 := HD.out j
      have l2 := HE.out j
      have l3 := mb_le d e j
      have HC : Hid ((if d j < e j + mb d e j then 1 else 0) = mb d e (j + 1)) := rfl
      have HQ : Hid ((d j + 4294967296 - e j - mb d e j) % 4294967296 = ms d e j) := rfl
      generalize mb d e j = c at l3 HC HQ ⊢
      generalize d j = x at x1 l1 HC HQ
      generalize e j = y at x2 l2 HC HQ
      clear hlt
      go_wp2_with (fail)
      go_quiet (fail)
      have HM := Lib.hid (HM.out.drewN nq)
      have xf := World.rowIs.frozen HM.out.1 j
      have y1 : (wr.drewN nq).cell? ⟨w.heap.size, j, none⟩ = some (.int .u32 (x : Nat)) := x1
      clear x1 x2
      generalize wr.drewN nq = w2 at HM y1 xf ⊢
      go_wp2_with (fail)
      obtain ⟨D, hD, hD1, hD2, hD3⟩ := sub_word x y c l1 l2 l3
      rw [hD, mask32 D hD1, show ((D % 4294967296 : Nat) : Int) % 4294967296 = ((D % 4294967296 : Nat) : Int) by omega]
      refine ⟨⟨j + 1, HJ.out, by go_num, ?_, ?_⟩, Lw.meas 8 j HJ.out⟩
      · rw [← HC.out, ← hD2]; rfl
      · exact (HM.out.set j (D % 4294967296)).congr fun i _ => by rw [hD3, HQ.out]; exact half_succ _ _ _ _
    · have jl : ((j : Int) < 8) = False := eq_false (by omega)
      obtain rfl : j = 8 := by have := hj.out; omega
      rw [show ((8 : Nat) : Int) = 8 from rfl]
      clear hlt jl hj
      have HM := Lib.hid (HM.out.congr (half_all (ms d e) d))
      have HN := Lib.hid HM.out.1.heap
      have HO := Lib.hid HM.out.2.2.1.heap
      go_upto_region 8 with (fail)
      generalize hA : nmA (ms d e) = A at HN
      apply wp_region_lit
      refine wpList_load_row rfl 50 _ rfl w.heap.size (by kernel_rfl) 50 A (0, 0) _ HN.out Try.underlying50 rfl (by rw [← hA]; kernel_rfl) ?_
      refine wpList_store_row rfl 50 _ _ rfl (w.heap.size + 2) A (by kernel_rfl) (by kernel_rfl) 50 _ HO.out (by rw [← hA]; kernel_rfl) (by rw [← hA, nmA_size, nmA_size]) (by rw [← hA]; exact nmA_one _) ?_
      simp only [Act.put, List.setIfInBounds_toArray, List.set_cons_zero, List.set_cons_succ]
      go_wp2_with (fail)
      refine bodyPost_ret (v := .agg A) ?_ rfl ?_
      · exact results_cell_row (fn := Try.f23) Try.results23 _ _ (w.heap.size + 2) 50 _ (0, 0) _ rfl (setRow_heap _ _ _ _ _ _ HO.out) Try.underlying50 rfl (by rw [← hA]; kernel_rfl)
      · exact ⟨by rw [hA], below_setRow HM.out.2.2.2 (by omega) _⟩
end Go.Proofs.Nu
