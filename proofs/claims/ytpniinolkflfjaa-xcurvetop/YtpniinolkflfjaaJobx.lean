/-
  The developers' X25519 over the field of 2^255 - 19: steps, inverses, the ladder; the ladder of a text.
-/
import Derived.Test.YtpniinolkflfjaaJobv
import Derived.Test.YtpniinolkflfjaaJobw
namespace Go.Proofs.Xe
open Go.RowKit
open Go.Proofs.Im (wpList_box_to words_heap words_one run_index_row)
open Go.Proofs.Sha (wordCells wordCells_get wordCells_size rowIs_of wpList_alloc_to wpList_build_to)
open Go.Proofs.Nt
open Go.Proofs.Nu (nmL nmA nmV nmA_one nmA_size results_row_slot md md_lt md_prime B8)
open Go.Proofs.Nd (fdA fdV fdA_size fdA_one alloc_n alloc_f ov zOk of_any)
open Go.Proofs.Eo
open Go.Proofs.En (meetH)
open Go.Proofs.He (takeH load_row callH allocH storeH)
open Go.Proofs.Aes (byt byt_lt get_byt)
open Go.Proofs.Xu (rv rv_size rv_byt pX_md kE uX)
open Go.Proofs.Ec (pX)
theorem good_two : Nd.Good (md 2) (ov 2) := ⟨md_lt 2, by decide +kernel, ⟨B8 / md 2, (Nat.mod_add_div B8 (md 2)).symm⟩, by decide +kernel⟩
theorem mlt (m : Nat) (hm : md 2 = m) (x : Fin m) : x.val < md 2 := by rw [hm]; exact x.isLt
theorem plus_m (m : Nat) (hm : md 2 = m) (x y : Fin m) (u : World) : Calls Try.prog 43 #[fdV (md 2) (ov 2), nmV x.val, nmV y.val] u fun e u' => e = .returned (nmV (x + y).val) ∧ Below u.heap.size u u' := by
  have h := Nd.fplus_any (md 2) (ov 2) x.val y.val u (md_lt 2) (mlt m hm x) (mlt m hm y)
  rw [show (x.val + y.val) % md 2 = (x + y).val by rw [hm, Fin.val_add]] at h
  exact h
theorem minus_m (m : Nat) (hm : md 2 = m) (x y : Fin m) (u : World) : Calls Try.prog 44 #[fdV (md 2) (ov 2), nmV x.val, nmV y.val] u fun e u' => e = .returned (nmV (x - y).val) ∧ Below u.heap.size u u' := by
  have h := Nd.fminus_any (md 2) (ov 2) x.val y.val u (md_lt 2) (mlt m hm x) (mlt m hm y)
  rw [show (x.val + md 2 - y.val) % md 2 = (x - y).val by rw [hm, Fin.sub_def]; show _ = (m - y.val + x.val) % m; have := y.isLt; rw [show x.val + m - y.val = m - y.val + x.val by omega]] at h
  exact h
theorem times_m (m : Nat) (hm : md 2 = m) (x y : Fin m) (u : World) : Calls Try.prog 45 #[fdV (md 2) (ov 2), nmV x.val, nmV y.val] u fun e u' => e = .returned (nmV (x * y).val) ∧ Below u.heap.size u u' := by
  have h := Nd.times_any (md 2) (ov 2) x.val y.val u good_two (Nat.lt_trans (mlt m hm x) (md_lt 2)) (Nat.lt_trans (mlt m hm y) (md_lt 2))
  rw [show (x.val * y.val) % md 2 = (x * y).val by rw [hm, Fin.val_mul]] at h
  exact h
theorem step_m (m : Nat) (hm : md 2 = m) (a ux : Fin m) (ha : a.val = 121665) (A C D G : Fin m) (u : World) : Calls Try.prog 31 #[ldV (md 2) (ov 2) ux.val, ptV A.val C.val, ptV D.val G.val] u fun e u' => e = .returned (.tuple #[ptV (Ec.dX A C).val (Ec.dZ a A C).val, ptV (Ec.sX A C D G).val (Ec.sZ ux A C D G).val]) ∧ Below u.heap.size u u' := by
  have hP := plus_m m hm
  have hS := minus_m m hm
  have hT := times_m m hm
  have hF : ∀ (y : Fin m) (u : World), Calls Try.prog 45 #[fdV (md 2) (ov 2), nmV 121665, nmV y.val] u fun e u' => e = .returned (nmV (a * y).val) ∧ Below u.heap.size u u' := fun y u => by
    have := hT a y u
    rwa [ha] at this
  exact step_raw (md 2) (ov 2) ux.val A.val C.val D.val G.val (A + C).val (A - C).val ((A + C) * (A + C)).val ((A - C) * (A - C)).val ((A + C) * (A + C) - (A - C) * (A - C)).val (D - G).val ((D - G) * (A + C)).val (D + G).val ((D + G) * (A - C)).val
    ((D - G) * (A + C) + (D + G) * (A - C)).val ((D - G) * (A + C) - (D + G) * (A - C)).val (Ec.dX A C).val (a * ((A + C) * (A + C) - (A - C) * (A - C))).val ((A + C) * (A + C) + a * ((A + C) * (A + C) - (A - C) * (A - C))).val (Ec.dZ a A C).val (Ec.sX A C D G).val
    (((D - G) * (A + C) - (D + G) * (A - C)) * ((D - G) * (A + C) - (D + G) * (A - C))).val (Ec.sZ ux A C D G).val u
    (hP A C) (hS A C) (hT _ _) (hT _ _) (hS _ _) (hS D G) (hT _ _) (hP D G) (hT _ _) (hP _ _) (hS _ _) (hT _ _) (hF _) (hP _ _) (hT _ _) (hT _ _) (hT _ _) (hT _ _)
theorem affine_m (m : Nat) [NeZero m] (hm : md 2 = m) (h2 : 2 < m) (ux X Z : Fin m) (u : World) : Calls Try.prog 32 #[ldV (md 2) (ov 2) ux.val, ptV X.val Z.val] u fun e u' => e = .returned (nmV (X * Ec.iv Z).val) ∧ Below u.heap.size u u' := by
  have hI := fun v : World => Nd.inverse_any (md 2) (ov 2) Z.val v good_two (mlt m hm Z)
  have hv : (Ec.iv Z).val = Z.val ^ (md 2 - 2) % md 2 := by rw [hm]; rfl
  rw [← hv] at hI
  have hT := times_m m hm
  refine affine_raw (md 2) (ov 2) ux.val X.val Z.val _ (X * Ec.iv Z).val _ u hI (fun hok v => ?_) fun hno => ?_
  · have hz : decide (Z.val = 0) = false := by
      cases h : decide (Z.val = 0)
      · rfl
      · rw [h] at hok; cases hok
    rw [hz]
    exact hT X (Ec.iv Z) v
  · have hz : decide (Z.val = 0) = true := by
      cases h : decide (Z.val = 0)
      · rw [h] at hno; cases hno
      · rfl
    have h0 : (Ec.iv Z).val = 0 := by
      rw [hv, of_decide_eq_true hz, hm]
      obtain ⟨k, hk⟩ : ∃ k, m - 2 = k + 1 := ⟨m - 3, by omega⟩
      rw [hk, Nat.pow_succ, Nat.mul_zero, Nat.zero_mod]
    rw [Fin.val_mul, h0, Nat.mul_zero, Nat.zero_mod]
theorem times_of (m : Nat) [NeZero m] (hm : md 2 = m) (h2 : 2 < m) (a ux : Fin m) (ha : a.val = 121665) (k : ByteArray) (w : World) : Calls Try.prog 14 #[ldV (md 2) (ov 2) ux.val, scV (cb k)] w fun e u => e = .returned (nmV (Ec.ladU a ux (kE k)).val) ∧ Below w.heap.size w u :=
  times_raw a ux (md 2) (ov 2) (kE k) _ (cb k) w rfl (Nat.zero_mod _) (Nat.mod_eq_of_lt (Nat.lt_trans (by decide) h2))
    (fun t ht u => by
      have h := bit_any (cb k) (cb_lt k) t (by omega) u
      rw [cb_kE k t ht] at h
      exact h)
    (step_m m hm a ux ha) (affine_m m hm h2 ux)
theorem times_any (k u : ByteArray) (w : World) : Calls Try.prog 14 #[ldV (md 2) (ov 2) (uX u).val, scV (cb k)] w fun e u' => e = .returned (nmV (Ec.ladU 121665 (uX u) (kE k)).val) ∧ Below w.heap.size w u' :=
  times_of pX pX_md (by decide +kernel) 121665 (uX u) (by decide +kernel) k w
/-- The number that the bytes say, its highest bit struck. -/
theorem struck_byte (n : Nat) (i : Nat) (hi : i < 32) : n % 2 ^ 255 / 256 ^ i % 256 = if i = 31 then n / 256 ^ i % 256 &&& 127 else n / 256 ^ i % 256 := by
  rw [show (256 : Nat) ^ i = 2 ^ (8 * i) by rw [Nat.pow_mul], show (256 : Nat) = 2 ^ 8 by decide]
  by_cases h : i = 31
  · subst h
    rw [if_pos rfl]
    apply Nat.eq_of_testBit_eq
    intro r
    rw [show (127 : Nat) = 2 ^ 7 - 1 by decide, Nat.testBit_and, Nat.testBit_two_pow_sub_one, Nat.testBit_mod_two_pow, Nat.testBit_div_two_pow, Nat.testBit_mod_two_pow, Nat.testBit_mod_two_pow, Nat.testBit_div_two_pow, decide_eq_decide.2 (show r + 8 * 31 < 255 ↔ r < 7 by omega), Bool.and_comm (decide (r < 7)), ← Bool.and_assoc]
  · rw [if_neg h]
    apply Nat.eq_of_testBit_eq
    intro r
    rw [Nat.testBit_mod_two_pow, Nat.testBit_div_two_pow, Nat.testBit_mod_two_pow, Nat.testBit_mod_two_pow, Nat.testBit_div_two_pow]
    by_cases hr : r < 8
    · rw [decide_eq_true (show r + 8 * i < 255 by omega), Bool.true_and]
    · rw [decide_eq_false hr, Bool.false_and, Bool.false_and]
theorem ub_lt (u : ByteArray) (i : Nat) : ub u i < 256 := by
  unfold ub
  split
  · exact Nat.lt_of_le_of_lt Nat.and_le_right (by decide)
  · exact byt_lt u i
theorem ub_val (u : ByteArray) : bn (rv (Lw.pieceS (ub u) 0 32)) = bn (rv u) % 2 ^ 255 := by
  have h : rv (Lw.pieceS (ub u) 0 32) = t32 (bn (rv u) % 2 ^ 255) := text_same (by rw [rv_size, t32_size]) fun i hi => by
    rw [rv_size] at hi
    rw [rv_byt _ i hi, Lw.byt_piece (ub u) 0 32 (31 - i) (by omega) (ub_lt u), Nat.zero_add, t32_byt _ i hi]
    unfold tb ub
    rw [struck_byte _ (31 - i) (by omega), byte_of u (31 - i) (by omega)]
    by_cases h31 : 31 - i = 31
    · rw [if_pos h31, if_pos h31, h31]
    · rw [if_neg h31, if_neg h31]
  rw [h, bn_t32 (Nat.lt_trans (Nat.mod_lt _ (by decide)) (by decide))]
theorem of_two (w : World) : Calls Try.prog 27 #[.int .i64 2] w fun e u => e = .returned (.tuple #[fdV (md 2) (ov 2), .bool true]) ∧ Below w.heap.size w u := of_any 2 w
theorem ladderAt_ok (u : ByteArray) (w : World) (hu : u.size = 32) : Calls Try.prog 13 #[.string u] w fun e v => e = .returned (.tuple #[ldV (md 2) (ov 2) (uX u).val, .bool true]) ∧ Below w.heap.size w v := by
  refine ladderAt_raw (md 2) (ov 2) (uX u).val u w hu of_two fun v => ?_
  have hs : (rv (Lw.pieceS (ub u) 0 32)).size = 32 := rv_size _
  have hx : bn (rv (Lw.pieceS (ub u) 0 32)) % md 2 = (uX u).val := by rw [ub_val, pX_md]; rfl
  have hb : bn (rv (Lw.pieceS (ub u) 0 32)) < B8 := Nat.lt_of_lt_of_eq (bg_lt _ 0 32) (by decide)
  have hR := fun v : World => Nd.rest_any (md 2) (ov 2) _ v (md_lt 2) (Nat.lt_trans Nat.zero_lt_one good_two.one) hb
  rw [hx] at hR
  exact frest_raw (md 2) (ov 2) _ _ _ v hs (fun v => Nd.number_any _ v hs) hR
set_option maxHeartbeats 4000000 in
set_option maxRecDepth 20000 in
theorem ladderAt_bad (p o : Nat) (ut : ByteArray) (w : World) (hu : ¬ ut.size = 32)
    (hO : ∀ v : World, Calls Try.prog 27 #[.int .i64 2] v fun e v' => e = .returned (.tuple #[fdV p o, .bool true]) ∧ Below v.heap.size v v') :
    Calls Try.prog 13 #[.string ut] w fun e v => e = .returned (.tuple #[ldV 0 0 0, .bool false]) ∧ Below w.heap.size w v := by
  have HOf := Lib.hid hO
  have hz : ((ut.size : Int) != 32) = true := bne_iff_ne.2 (by omega)
  clear hO hu
  go_enter Try.func13, Try.ntmps13
  go_upto_region 0 with (fail)
  apply wp_region_lit
  refine wpList_alloc_to rfl 42 rfl (ldA 0 0 0) w.heap.size rfl alloc_l ?_
  have HM : Hid (Env w (w.alloc (.cells (ldA 0 0 0) 42)) (w.heap.size + 1) [(w.heap.size, (42, ldA 0 0 0))]) := ((Env.start w).new rfl 42 (ldA 0 0 0))
  generalize (w.alloc (.cells (ldA 0 0 0) 42)) = w1 at HM ⊢
  refine Lw.wpList_val rfl (.bool false) w1 (by go_simp) ?_
  simp only [Act.put, List.setIfInBounds_toArray, List.set_cons_zero, List.set_cons_succ]
  go_upto_region 1 with (fail)
  apply wp_region_lit
  refine Lw.wpList_callTo (some 9) rfl rfl 27 _ _ rfl (fun _ _ => by go_simp) #[.int .i64 2] (by kernel_rfl) ?_
  refine (HOf.out w1).mono ?_
  rintro e u1 ⟨rfl, hb⟩
  refine ⟨_, rfl, ?_⟩
  have HM := Lib.hid (HM.out.on hb)
  clear hb
  simp only [Act.put, List.setIfInBounds_toArray, List.set_cons_zero, List.set_cons_succ]
  refine Lw.wpList_val rfl (.tuple #[fdV p o, .bool true]) u1 (by go_simp) ?_
  simp only [Act.put, List.setIfInBounds_toArray, List.set_cons_zero, List.set_cons_succ]
  refine Lw.wpList_val rfl (fdV p o) u1 (by go_simp) ?_
  simp only [Act.put, List.setIfInBounds_toArray, List.set_cons_zero, List.set_cons_succ]
  refine Lw.wpList_val rfl (.bool true) u1 (by go_simp) ?_
  simp only [Act.put, List.setIfInBounds_toArray, List.set_cons_zero, List.set_cons_succ]
  refine wpList_alloc_to rfl 40 rfl (fdA 0 0) u1.heap.size rfl alloc_f ?_
  simp only [Act.put, List.setIfInBounds_toArray, List.set_cons_zero, List.set_cons_succ]
  refine wpList_store_row rfl 40 _ _ rfl u1.heap.size (fdA p o) (by kernel_rfl) (by kernel_rfl) 40 _ (heap_alloc_last _ _) (by kernel_rfl) (by first | rw [nmA_size, nmA_size] | rfl) (fdA_one _ _) ?_
  rw [World.setRow_alloc_new]
  simp only [Act.put]
  have HM := Lib.hid ((HM.out.alloc (.cells (fdA p o) 40)).cons (HM.out.size) (Cell.new 40 u1 (fdA p o)))
  generalize u1.alloc (.cells (fdA p o) 40) = w2 at HM ⊢
  generalize u1.heap.size = q4 at HM ⊢
  generalize q4 + 1 = n1 at HM
  refine Lw.wpList_val rfl (.bool true) w2 (by go_simp) ?_
  simp only [Act.put, List.setIfInBounds_toArray, List.set_cons_zero, List.set_cons_succ]
  generalize fdV p o = Fv
  go_upto_region 3 with (fail)
  apply wp_region_lit
  refine wpList_build_to rfl 42 _ rfl (ldA 0 0 0) (by kernel_rfl) ?_
  simp only [Act.put, List.setIfInBounds_toArray, List.set_cons_zero, List.set_cons_succ]
  have hput : Env w (w2.setRow w.heap.size (ldA 0 0 0)) n1 [(q4, (40, fdA p o)), (w.heap.size, (42, ldA 0 0 0))] := HM.out.put 1 (A := ldA 0 0 0) rfl (ldA 0 0 0)
  refine wpList_store_row rfl 42 _ _ rfl w.heap.size (ldA 0 0 0) (by kernel_rfl) (by kernel_rfl) 42 _ (HM.out.get 1 rfl) (by kernel_rfl) (by first | rw [nmA_size, nmA_size] | rfl) (ldA_one _ _ _) ?_
  have HM := Lib.hid hput
  clear hput
  generalize w2.setRow w.heap.size (ldA 0 0 0) = w3 at HM ⊢
  simp only [Act.put]
  refine Lw.wpList_val rfl (.bool false) w3 (by go_simp) ?_
  simp only [Act.put, List.setIfInBounds_toArray, List.set_cons_zero, List.set_cons_succ]
  obtain ⟨A, hA⟩ : ∃ A, ldA 0 0 0 = A := ⟨_, rfl⟩
  have HN := Lib.hid (HM.out.get 1 (g := w.heap.size) (t := 42) (A := ldA 0 0 0) rfl)
  rw [hA] at HN
  go_wp2_with (fail)
  refine bodyPost_ret (v := .tuple #[.agg A, .bool false]) ?_ rfl ?_
  · exact results_row_slot (fn := Try.f13) Try.results13 _ _ (w.heap.size) 42 _ (0, 0) _ _ rfl rfl HN.out Try.underlying42 rfl (by rw [← hA]; kernel_rfl)
  · exact ⟨by rw [← hA]; rfl, HM.out.below⟩
end Go.Proofs.Xe
