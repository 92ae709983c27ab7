/-
  The developers' numbers: inverses in a field.
-/
import Derived.Test.YtpniinolkflfjaaJobg
namespace Go.Proofs.Nd
open Go.RowKit
open Go.Proofs.Im (wpList_box_to words_heap words_one run_index_row)
open Go.Proofs.Sha (wordCells wordCells_get wordCells_size rowIs_of wpList_alloc_to wpList_build_to)
open Go.Proofs.Nt
open Go.Proofs.Nu (nmL nmA nmV lt8 nmA_get nmA_congr nmA_one nmA_size results_row_slot B8 b8 nv8 nmA_lb nv_lt8 md mP mN mX md_lt wpList_on wpList_off)
/-- A field, a number, a result's place. -/
structure By (w u : World) (p o a : Nat) : Prop where
  f : Fd u w.heap.size p o
  a : Nb u (w.heap.size + 1) a
  r : Nb u (w.heap.size + 2) 0
  below : Below w.heap.size w u
theorem By.new (w : World) (p o a : Nat) : By w (((w.alloc (.cells (fdA p o) 40)).alloc (.cells (nmA (lb a)) 38)).alloc (.cells (nmA (lb 0)) 38)) p o a := by
  have s1 : (w.alloc (.cells (fdA p o) 40)).heap.size = w.heap.size + 1 := by simp
  have h1 := Fd.new w p o
  have b1 : Below w.heap.size w (w.alloc (.cells (fdA p o) 40)) := (Below.refl _ _).alloc (Nat.le_refl _) _
  generalize w.alloc (.cells (fdA p o) 40) = w1 at s1 h1 b1 ⊢
  have s2 : (w1.alloc (.cells (nmA (lb a)) 38)).heap.size = w.heap.size + 2 := by simp; omega
  have h2 := Nb.new w1 a
  rw [s1] at h2
  have b2 := b1.alloc (show w.heap.size ≤ w1.heap.size by omega) (.cells (nmA (lb a)) 38)
  have h1 := h1.alloc (.cells (nmA (lb a)) 38)
  generalize w1.alloc (.cells (nmA (lb a)) 38) = w2 at s2 h1 h2 b2 ⊢
  have h4 := Nb.new w2 0
  rw [s2] at h4
  exact ⟨h1.alloc _, h2.alloc _, h4, b2.alloc (by omega) _⟩
theorem By.on {w u v : World} {p o a : Nat} (h : By w u p o a) (hb : Below u.heap.size u v) : By w v p o a := ⟨h.f.on hb, h.a.on hb, h.r.on hb, Lw.go_on h.below hb⟩
theorem By.alloc {w u : World} {p o a : Nat} (h : By w u p o a) (ob : Obj) : By w (u.alloc ob) p o a := ⟨h.f.alloc ob, h.a.alloc ob, h.r.alloc ob, h.below.alloc h.below.size ob⟩
set_option maxHeartbeats 4000000 in
set_option maxRecDepth 20000 in
theorem inverse_raw (p v a D R : Nat) (l z : Bool) (w : World)
    (hZ : ∀ u : World, Calls Try.prog 16 #[nmV a] u fun e u' => e = .returned (.bool z) ∧ Below u.heap.size u u')
    (hMi : ∀ u : World, Calls Try.prog 49 #[nmV p, nmV 2] u fun e u' => e = .returned (.tuple #[nmV D, .bool l]) ∧ Below u.heap.size u u')
    (hRa : ∀ u : World, Calls Try.prog 54 #[fdV p v, nmV a, nmV D] u fun e u' => e = .returned (nmV R) ∧ Below u.heap.size u u') :
    Calls Try.prog 46 #[fdV p v, nmV a] w fun e u => e = .returned (.tuple #[nmV (bif z then 0 else R), .bool (!z)]) ∧ Below w.heap.size w u := by
  have HZ := Lib.hid hZ
  have HMi := Lib.hid hMi
  have HRa := Lib.hid hRa
  clear hZ hMi hRa
  go_enter Try.func46, Try.ntmps46
  go_upto_region 0 with (fail)
  apply wp_region_lit
  refine wpList_box_to rfl 40 _ rfl (fdA p v) (by kernel_rfl) w.heap.size rfl ?_
  refine wpList_box_to rfl 38 _ rfl (nmA (lb a)) (by kernel_rfl) (w.heap.size + 1) (by simp) ?_
  refine wpList_alloc_to rfl 38 rfl (nmA (lb 0)) (w.heap.size + 2) (by simp) alloc_n ?_
  refine Lw.wpList_val rfl (.bool false) (((w.alloc (.cells (fdA p v) 40)).alloc (.cells (nmA (lb a)) 38)).alloc (.cells (nmA (lb 0)) 38)) (by go_simp) ?_
  simp only [Act.put, List.setIfInBounds_toArray, List.set_cons_zero, List.set_cons_succ]
  have HM := Lib.hid (By.new w p v a)
  generalize ((w.alloc (.cells (fdA p v) 40)).alloc (.cells (nmA (lb a)) 38)).alloc (.cells (nmA (lb 0)) 38) = w1 at HM ⊢
  generalize hFv : fdV p v = Fv at HRa
  have HFv : Hid (Fv = .agg (fdA p v)) := hFv.symm
  clear hFv
  go_upto_region 1 with (fail)
  apply wp_region_lit
  refine wpList_load_row rfl 38 _ rfl (w.heap.size + 1) (by kernel_rfl) 38 (nmA (lb a)) (0, 0) _ HM.out.a Try.underlying38 rfl (by kernel_rfl) ?_
  simp only [Act.put, List.setIfInBounds_toArray, List.set_cons_zero, List.set_cons_succ]
  refine Lw.wpList_callTo (some 9) rfl rfl 16 _ _ rfl (fun _ _ => by go_simp) #[nmV a] (by kernel_rfl) ?_
  refine (HZ.out _).mono ?_
  rintro e u ⟨rfl, hb⟩
  refine ⟨_, rfl, ?_⟩
  have HM := Lib.hid (HM.out.on hb)
  clear hb
  simp only [Act.put, List.setIfInBounds_toArray, List.set_cons_zero, List.set_cons_succ]
  cases z
  · generalize nmV a = Av
    go_upto_region 3 with (fail)
    apply wp_region_lit
    refine Lw.wpList_val rfl (.pointer (some ⟨w.heap.size, 0, none⟩)) u (by go_simp) ?_
    simp only [Act.put, List.setIfInBounds_toArray, List.set_cons_zero, List.set_cons_succ]
    refine wpList_load_mid rfl 38 _ rfl w.heap.size 0 (by kernel_rfl) (nmA (lb p)).toList _ HM.out.f.prime Try.underlying38 rfl (by kernel_rfl) ?_
    refine wpList_build_to rfl 38 _ rfl (nmA (lb 2)) (by kernel_rfl) ?_
    simp only [Act.put, List.setIfInBounds_toArray, List.set_cons_zero, List.set_cons_succ]
    refine Lw.wpList_callTo (some 15) rfl rfl 49 _ _ rfl (fun _ _ => by go_simp) #[nmV p, nmV 2] (by kernel_rfl) ?_
    refine (HMi.out _).mono ?_
    rintro e u1 ⟨rfl, hb⟩
    refine ⟨_, rfl, ?_⟩
    have HM := Lib.hid (HM.out.on hb)
    clear hb
    refine Lw.wpList_val rfl (.tuple #[nmV D, .bool l]) u1 (by go_simp) ?_
    refine Lw.wpList_val rfl (nmV D) u1 (by go_simp) ?_
    refine Lw.wpList_val rfl (.bool l) u1 (by go_simp) ?_
    refine wpList_alloc_to rfl 38 rfl (nmA (lb 0)) u1.heap.size rfl alloc_n ?_
    simp only [Act.put, List.setIfInBounds_toArray, List.set_cons_zero, List.set_cons_succ]
    refine wpList_store_row rfl 38 _ _ rfl u1.heap.size (nmA (lb D)) (by kernel_rfl) (by kernel_rfl) 38 _ (heap_alloc_last _ _) (by kernel_rfl) (by rw [nmA_size, nmA_size]) (nmA_one _) ?_
    rw [World.setRow_alloc_new]
    refine Lw.wpList_val rfl (.bool l) (u1.alloc (.cells (nmA (lb D)) 38)) (by go_simp) ?_
    simp only [Act.put, List.setIfInBounds_toArray, List.set_cons_zero, List.set_cons_succ]
    have HD := Lib.hid (Nb.new u1 D)
    have HM := Lib.hid (HM.out.alloc (.cells (nmA (lb D)) 38))
    generalize u1.alloc (.cells (nmA (lb D)) 38) = w2 at HD HM ⊢
    generalize u1.heap.size = gd at HD ⊢
    generalize nmV 2 = Twov
    generalize nmA (lb 2) = Twoa
    go_upto_region 4 with (fail)
    apply wp_region_lit
    refine wpList_load_row rfl 40 _ rfl w.heap.size (by kernel_rfl) 40 (fdA p v) (0, 0) _ HM.out.f Try.underlying40 rfl (by kernel_rfl) ?_
    rw [← HFv.out]
    refine wpList_load_row rfl 38 _ rfl (w.heap.size + 1) (by kernel_rfl) 38 (nmA (lb a)) (0, 0) _ HM.out.a Try.underlying38 rfl (by kernel_rfl) ?_
    refine wpList_load_row rfl 38 _ rfl gd (by kernel_rfl) 38 (nmA (lb D)) (0, 0) _ HD.out Try.underlying38 rfl (by kernel_rfl) ?_
    simp only [Act.put, List.setIfInBounds_toArray, List.set_cons_zero, List.set_cons_succ]
    refine Lw.wpList_callTo (some 21) rfl rfl 54 _ _ rfl (fun _ _ => by go_simp) #[Fv, nmV a, nmV D] (by kernel_rfl) ?_
    refine (HRa.out _).mono ?_
    rintro e u2 ⟨rfl, hb⟩
    refine ⟨_, rfl, ?_⟩
    have HM := Lib.hid (HM.out.on hb)
    clear hb
    generalize nmV a = Aw
    generalize nmV D = Dv
    generalize nmV p = Pv
    simp only [Act.put, List.setIfInBounds_toArray, List.set_cons_zero, List.set_cons_succ]
    refine wpList_store_row rfl 38 _ _ rfl (w.heap.size + 2) (nmA (lb R)) (by kernel_rfl) (by kernel_rfl) 38 _ HM.out.r (by kernel_rfl) (by first | rw [nmA_size, nmA_size] | rfl) (nmA_one _) ?_
    refine Lw.wpList_val rfl (.bool true) (u2.setRow (w.heap.size + 2) (nmA (lb R))) (by go_simp) ?_
    simp only [Act.put, List.setIfInBounds_toArray, List.set_cons_zero, List.set_cons_succ]
    have HRr := Lib.hid HM.out.r
    generalize hA : nmA (lb R) = A at HRr ⊢
    go_wp2_with (fail)
    refine bodyPost_ret (v := .tuple #[.agg A, .bool true]) ?_ rfl ?_
    · exact results_row_slot (fn := Try.f46) Try.results46 _ _ (w.heap.size + 2) 38 _ (0, 0) _ _ rfl rfl (setRow_heap _ _ _ _ _ _ HRr.out) Try.underlying38 rfl (by rw [← hA]; kernel_rfl)
    · exact ⟨by rw [← hA]; rfl, below_setRow HM.out.below (by omega) _⟩
  · go_upto_region 2 with (fail)
    apply wp_region_lit
    refine wpList_build_to rfl 38 _ rfl (nmA (lb 0)) (by kernel_rfl) ?_
    refine wpList_store_row rfl 38 _ _ rfl (w.heap.size + 2) (nmA (lb 0)) (by kernel_rfl) (by kernel_rfl) 38 _ HM.out.r (by kernel_rfl) (by first | rw [nmA_size, nmA_size] | rfl) (nmA_one _) ?_
    refine Lw.wpList_val rfl (.bool false) (u.setRow (w.heap.size + 2) (nmA (lb 0))) (by go_simp) ?_
    simp only [Act.put, List.setIfInBounds_toArray, List.set_cons_zero, List.set_cons_succ]
    have HRr := Lib.hid HM.out.r
    generalize hA : nmA (lb 0) = A at HRr ⊢
    go_wp2_with (fail)
    refine bodyPost_ret (v := .tuple #[.agg A, .bool false]) ?_ rfl ?_
    · exact results_row_slot (fn := Try.f46) Try.results46 _ _ (w.heap.size + 2) 38 _ (0, 0) _ _ rfl rfl (setRow_heap _ _ _ _ _ _ HRr.out) Try.underlying38 rfl (by rw [← hA]; kernel_rfl)
    · exact ⟨by rw [← hA]; rfl, below_setRow HM.out.below (by omega) _⟩
theorem inverse_any (p v a : Nat) (w : World) (hG : Good p v) (ha : a < p) : Calls Try.prog 46 #[fdV p v, nmV a] w fun e u => e = .returned (.tuple #[nmV (bif decide (a = 0) then 0 else a ^ (p - 2) % p), .bool (!decide (a = 0))]) ∧ Below w.heap.size w u := by
  obtain ⟨D, hD1, hD2, hD3⟩ := minus_ex p 2 hG.lt (by decide)
  have e := hD2 hG.one
  rw [e] at hD3
  exact inverse_raw p v a (p - 2) _ _ _ w (fun u => zero_any a u (Nat.lt_trans ha hG.lt)) hD3 fun u => raised_any p v a (p - 2) u hG ha (Nat.lt_of_le_of_lt (Nat.sub_le _ _) hG.lt)
end Go.Proofs.Nd
