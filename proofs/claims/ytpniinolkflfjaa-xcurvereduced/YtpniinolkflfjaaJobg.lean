/-
  The developers' numbers: powers in a field.
-/
import Derived.Test.YtpniinolkflfjaaJobf
import Derived.Test.YtpniinolkflfjaaJoaw
namespace Go.Proofs.Nd
open Go.RowKit
open Go.Proofs.Im (wpList_box_to words_heap words_one run_index_row)
open Go.Proofs.Sha (wordCells wordCells_get wordCells_size rowIs_of wpList_alloc_to wpList_build_to)
open Go.Proofs.Nt
open Go.Proofs.Nu (nmL nmA nmV lt8 nmA_get nmA_congr nmA_one nmA_size results_row_slot B8 b8 nv8 nmA_lb nv_lt8 md mP mN mX md_lt wpList_on wpList_off)
set_option maxHeartbeats 4000000 in
set_option maxRecDepth 20000 in
theorem raised_raw (p v a b : Nat) (w : World) (hG : Good p v) (ha : a < p) (hb : b / 2 ^ 256 = 0)
    (hT : ∀ x y : Nat, x < B8 → y < B8 → ∃ Y, Y = x * y % p ∧ ∀ u : World, Calls Try.prog 45 #[fdV p v, nmV x, nmV y] u fun e u' => e = .returned (nmV Y) ∧ Below u.heap.size u u') :
    Calls Try.prog 54 #[fdV p v, nmV a, nmV b] w fun e u => e = .returned (nmV (a ^ b % p)) ∧ Below w.heap.size w u := by
  have HT := Lib.hid hT
  have HP : Hid (0 < p) := Nat.lt_trans Nat.zero_lt_one hG.one
  have HPl := Lib.hid hG.lt
  have HA := Lib.hid ha
  have H1 : Hid (1 = a ^ (b / 2 ^ (256 - 0)) % p) := by show _ = _; rw [Nat.sub_zero, hb, Nat.pow_zero, Nat.mod_eq_of_lt hG.one]
  clear hT hG ha hb
  go_enter Try.func54, Try.ntmps54
  go_upto_region 0 with (fail)
  apply wp_region_lit
  refine wpList_box_to rfl 40 _ rfl (fdA p v) (by kernel_rfl) w.heap.size rfl ?_
  refine wpList_box_to rfl 38 _ rfl (nmA (lb a)) (by kernel_rfl) (w.heap.size + 1) (by simp) ?_
  refine wpList_box_to rfl 38 _ rfl (nmA (lb b)) (by kernel_rfl) (w.heap.size + 2) (by simp) ?_
  refine wpList_alloc_to rfl 38 rfl (nmA (lb 0)) (w.heap.size + 3) (by simp) alloc_n ?_
  simp only [Act.put, List.setIfInBounds_toArray, List.set_cons_zero, List.set_cons_succ]
  have HM := Lib.hid (Bx.new w p v a b)
  generalize (((w.alloc (.cells (fdA p v) 40)).alloc (.cells (nmA (lb a)) 38)).alloc (.cells (nmA (lb b)) 38)).alloc (.cells (nmA (lb 0)) 38) = w1 at HM ⊢
  generalize hFv : fdV p v = Fv at HT
  have HFv : Hid (Fv = .agg (fdA p v)) := hFv.symm
  clear hFv
  go_upto_region 1 with (fail)
  apply wp_region_lit
  refine wpList_build_to rfl 38 _ rfl (nmA (lb 1)) (by kernel_rfl) ?_
  refine wpList_alloc_to rfl 38 rfl (nmA (lb 0)) w1.heap.size rfl alloc_n ?_
  simp only [Act.put, List.setIfInBounds_toArray, List.set_cons_zero, List.set_cons_succ]
  refine wpList_store_row rfl 38 _ _ rfl w1.heap.size (nmA (lb 1)) (by kernel_rfl) (by kernel_rfl) 38 _ (heap_alloc_last _ _) (by kernel_rfl) (by rw [nmA_size, nmA_size]) (nmA_one _) ?_
  rw [World.setRow_alloc_new]
  simp only [Act.put]
  have HX := Lib.hid (Nb.new w1 1)
  have HG : Hid (w.heap.size + 3 < w1.heap.size) := HM.out.lt
  have HM := Lib.hid (HM.out.alloc (.cells (nmA (lb 1)) 38))
  generalize w1.alloc (.cells (nmA (lb 1)) 38) = w2 at HX HM ⊢
  generalize w1.heap.size = gx at HX HG ⊢
  generalize nmA (lb 1) = One
  generalize hAv : nmV a = Av
  generalize nmV b = Bv
  have HAv : Hid (Av = .agg (nmA (lb a))) := hAv.symm
  clear hAv
  go_wp2_with (fail)
  go_loopw [10] (fun c wx => ∃ (i X : Nat), Hid (i ≤ 256) ∧ c = .int .i64 i ∧ Hid (X = a ^ (b / 2 ^ (256 - i)) % p) ∧ Hid (Nb wx gx X) ∧ Hid (Bx w wx p v a b)) (fun c _ => 256 - (intOf c).toNat)
  case atStart => exact ⟨0, 1, Nat.zero_le _, rfl, H1, HX, HM⟩
  case round =>
    clear HX HM H1
    obtain ⟨i, X, hi, rfl, HV, HX, HM⟩ := hrel
    by_cases hlt : i < 256
    · have il : ((i : Int) < 256) = True := eq_true (by omega)
      have il' : (i : Int) < 256 := by omega
      have HI := Lib.hid hlt
      obtain ⟨k, hk⟩ : ∃ k, 255 - i = k := ⟨_, rfl⟩
      have k2 : IntKind.i64.wrap (255 - (i : Int)) = (k : Int) := by rw [IntWalk.i64_in _ (by omega)]; omega
      have HK : Hid (k < 256 ∧ 256 - i = k + 1 ∧ 256 - (i + 1) = k) := by show _ ∧ _; omega
      have HXl : Hid (X < p) := by show X < p; rw [HV.out]; exact Nat.mod_lt _ HP.out
      obtain ⟨Y, hY, hYc⟩ := HT.out X X (Nat.lt_trans HXl.out HPl.out) (Nat.lt_trans HXl.out HPl.out)
      have HY := Lib.hid hY
      have HYc := Lib.hid hYc
      obtain ⟨Z, hZ, hZc⟩ := HT.out Y a (by rw [hY]; exact Nat.lt_trans (Nat.mod_lt _ HP.out) HPl.out) (Nat.lt_trans HA.out HPl.out)
      have HZ := Lib.hid hZ
      have HZc := Lib.hid hZc
      have HBi := Lib.hid (fun u => bit_any b k u HK.out.1)
      obtain ⟨q, hq⟩ : ∃ q, b / 2 ^ k % 2 = q := ⟨_, rfl⟩
      have HQ : Hid (b / 2 ^ k % 2 = q ∧ q < 2) := by show _ ∧ _; omega
      rw [hq] at HBi
      clear hlt hk hY hYc hZ hZc hq
      go_upto_region 5 with (fail)
      apply wp_region_lit
      refine wpList_load_row rfl 40 _ rfl w.heap.size (by kernel_rfl) 40 (fdA p v) (0, 0) _ HM.out.f Try.underlying40 rfl (by kernel_rfl) ?_
      rw [← HFv.out]
      refine wpList_load_row rfl 38 _ rfl gx (by kernel_rfl) 38 (nmA (lb X)) (0, 0) _ HX.out Try.underlying38 rfl (by kernel_rfl) ?_
      refine wpList_load_row rfl 38 _ rfl gx (by kernel_rfl) 38 (nmA (lb X)) (0, 0) _ HX.out Try.underlying38 rfl (by kernel_rfl) ?_
      simp only [Act.put, List.setIfInBounds_toArray, List.set_cons_zero, List.set_cons_succ]
      refine Lw.wpList_callTo (some 16) rfl rfl 45 _ _ rfl (fun _ _ => by go_simp) #[Fv, nmV X, nmV X] (by kernel_rfl) ?_
      refine (HYc.out _).mono ?_
      rintro e u1 ⟨rfl, hb⟩
      refine ⟨_, rfl, ?_⟩
      have HM := Lib.hid (HM.out.on hb)
      have HX := Lib.hid (HX.out.on hb)
      clear hb
      simp only [Act.put, List.setIfInBounds_toArray, List.set_cons_zero, List.set_cons_succ]
      refine wpList_store_row rfl 38 _ _ rfl gx (nmA (lb Y)) (by kernel_rfl) (by kernel_rfl) 38 _ HX.out (by kernel_rfl) (by rw [nmA_size, nmA_size]) (nmA_one _) ?_
      simp only [Act.put]
      have HM := Lib.hid (HM.out.far (nmA (lb Y)) HG.out)
      have HX := Lib.hid (HX.out.put Y)
      generalize u1.setRow gx (nmA (lb Y)) = w3 at HM HX ⊢
      go_upto_region 6 with (fail)
      apply wp_region_lit
      refine wpList_load_row rfl 38 _ rfl (w.heap.size + 2) (by kernel_rfl) 38 (nmA (lb b)) (0, 0) _ HM.out.b Try.underlying38 rfl (by kernel_rfl) ?_
      refine Lw.wpList_val rfl (.int .i64 (i : Nat)) w3 (by go_simp) ?_
      refine Lw.wpList_val rfl (.int .i64 (k : Nat)) w3 (by go_simp) ?_
      simp only [Act.put, List.setIfInBounds_toArray, List.set_cons_zero, List.set_cons_succ]
      refine Lw.wpList_callTo (some 20) rfl rfl 56 _ _ rfl (fun _ _ => by go_simp) #[nmV b, .int .i64 (k : Nat)] (by kernel_rfl) ?_
      refine (HBi.out _).mono ?_
      rintro e u ⟨rfl, hb⟩
      refine ⟨_, rfl, ?_⟩
      have HM := Lib.hid (HM.out.on hb)
      have HX := Lib.hid (HX.out.on hb)
      clear hb
      generalize nmV b = Bw
      generalize nmV X = Xv
      simp only [Act.put, List.setIfInBounds_toArray, List.set_cons_zero, List.set_cons_succ]
      by_cases q0 : q = 0
      · have HN : Hid (Y = a ^ (b / 2 ^ (256 - (i + 1))) % p) := by
          show _ = _
          rw [HK.out.2.2, pow_bit, HQ.out.1, q0, if_neg (by decide), Nat.mul_one, HY.out, HV.out, HK.out.2.1, ← Nat.mul_mod]
        subst q0
        clear HQ HZ HZc
        go_wp2_with (fail)
        exact ⟨⟨i + 1, Y, HI.out, by go_num, HN, HX, HM⟩, Lw.meas 256 i HI.out⟩
      · have q1 : q = 1 := by have := HQ.out.2; omega
        have HN : Hid (Z = a ^ (b / 2 ^ (256 - (i + 1))) % p) := by
          show _ = _
          rw [HK.out.2.2, pow_bit, HQ.out.1, q1, if_pos rfl, HZ.out, HY.out, HV.out, HK.out.2.1, ← Nat.mul_mod, Nat.mod_mul_mod]
        subst q1
        clear HQ HY HYc q0
        go_upto_region 7 with (fail)
        apply wp_region_lit
        refine wpList_load_row rfl 40 _ rfl w.heap.size (by kernel_rfl) 40 (fdA p v) (0, 0) _ HM.out.f Try.underlying40 rfl (by kernel_rfl) ?_
        rw [← HFv.out]
        refine wpList_load_row rfl 38 _ rfl gx (by kernel_rfl) 38 (nmA (lb Y)) (0, 0) _ HX.out Try.underlying38 rfl (by kernel_rfl) ?_
        refine wpList_load_row rfl 38 _ rfl (w.heap.size + 1) (by kernel_rfl) 38 (nmA (lb a)) (0, 0) _ HM.out.a Try.underlying38 rfl (by kernel_rfl) ?_
        simp only [Act.put, List.setIfInBounds_toArray, List.set_cons_zero, List.set_cons_succ]
        refine Lw.wpList_callTo (some 25) rfl rfl 45 _ _ rfl (fun _ _ => by go_simp) #[Fv, nmV Y, nmV a] (by kernel_rfl) ?_
        refine (HZc.out _).mono ?_
        rintro e u1 ⟨rfl, hb⟩
        refine ⟨_, rfl, ?_⟩
        have HM := Lib.hid (HM.out.on hb)
        have HX := Lib.hid (HX.out.on hb)
        clear hb
        simp only [Act.put, List.setIfInBounds_toArray, List.set_cons_zero, List.set_cons_succ]
        refine wpList_store_row rfl 38 _ _ rfl gx (nmA (lb Z)) (by kernel_rfl) (by kernel_rfl) 38 _ HX.out (by kernel_rfl) (by rw [nmA_size, nmA_size]) (nmA_one _) ?_
        simp only [Act.put]
        have HM := Lib.hid (HM.out.far (nmA (lb Z)) HG.out)
        have HX := Lib.hid (HX.out.put Z)
        generalize u1.setRow gx (nmA (lb Z)) = w4 at HM HX ⊢
        generalize nmV Y = Yv
        go_wp2_with (fail)
        exact ⟨⟨i + 1, Z, HI.out, by go_num, HN, HX, HM⟩, Lw.meas 256 i HI.out⟩
    · have il : ((i : Int) < 256) = False := eq_false (by omega)
      obtain rfl : i = 256 := by have := hi.out; omega
      rw [show ((256 : Nat) : Int) = 256 from rfl]
      have HE : Hid (X = a ^ b % p) := by show _ = _; rw [HV.out, Nat.sub_self, Nat.pow_zero, Nat.div_one]
      clear hlt il hi HV
      go_upto_region 9 with (fail)
      apply wp_region_lit
      refine wpList_load_row rfl 38 _ rfl gx (by kernel_rfl) 38 (nmA (lb X)) (0, 0) _ HX.out Try.underlying38 rfl (by kernel_rfl) ?_
      simp only [Act.put, List.setIfInBounds_toArray, List.set_cons_zero, List.set_cons_succ]
      have HR := Lib.hid HM.out.r
      refine wpList_store_row rfl 38 _ _ rfl (w.heap.size + 3) (nmA (lb X)) (by kernel_rfl) (by kernel_rfl) 38 _ HR.out (by kernel_rfl) (by rw [nmA_size, nmA_size]) (nmA_one _) ?_
      simp only [Act.put]
      generalize hA : nmA (lb X) = A at HX
      go_wp2_with (fail)
      refine bodyPost_ret (v := .agg A) ?_ rfl ?_
      · exact results_cell_row (fn := Try.f54) Try.results54 _ _ (w.heap.size + 3) 38 _ (0, 0) _ rfl (setRow_heap _ _ _ _ _ _ HR.out) Try.underlying38 rfl (by rw [← hA]; kernel_rfl)
      · exact ⟨by rw [← hA, ← HE.out]; rfl, below_setRow HM.out.below (by omega) _⟩
theorem raised_any (p v a b : Nat) (w : World) (hG : Good p v) (ha : a < p) (hb : b < B8) : Calls Try.prog 54 #[fdV p v, nmV a, nmV b] w fun e u => e = .returned (nmV (a ^ b % p)) ∧ Below w.heap.size w u :=
  raised_raw p v a b w hG ha (Nat.div_eq_of_lt (by rw [show (2 : Nat) ^ 256 = B8 from rfl]; exact hb)) fun x y hx hy => ⟨_, rfl, fun u => times_any p v x y u hG hx hy⟩
end Go.Proofs.Nd
