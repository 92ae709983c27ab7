/-
  The developers' numbers: a number modulo the prime.
-/
import Derived.Test.YtbkfpaodicfmhaaNdM
namespace Go.Proofs.Nd
open Go.RowKit
open Go.Proofs.Im (wpList_box_to words_heap words_one run_index_row)
open Go.Proofs.Sha (wordCells wordCells_get wordCells_size rowIs_of wpList_alloc_to wpList_build_to)
open Go.Proofs.Nt
open Go.Proofs.Nu (nmL nmA nmV lt8 nmA_get nmA_congr nmA_one nmA_size results_row_slot B8 b8 nv8 nmA_lb nv_lt8 md mP mN mX md_lt)
theorem minus_ex (x y : Nat) (hx : x < B8) (hy : y < B8) : ∃ D, D < B8 ∧ (y ≤ x → D = x - y) ∧ ∀ w : World, Calls Try.prog 35 #[nmV x, nmV y] w fun e w' => e = .returned (.tuple #[nmV D, .bool (decide (x < y))]) ∧ Below w.heap.size w w' := by
  refine ⟨(x + B8 - y) % B8, Nat.mod_lt _ (by decide), fun h => ?_, fun w => minus_any x y w hx hy⟩
  generalize B8 = K at *
  rw [show x + K - y = (x - y) + K by omega, Nat.add_mod_right, Nat.mod_eq_of_lt (by omega)]
/-- The number that lies in a block. -/
def numAt (w : World) (g : Nat) : Nat := match w.heap[g]? with
  | some (.cells A _ _) => nv (fun i => (intOf (A.getD i undef)).toNat) 8
  | _ => 0
theorem Nb.at_ {u : World} {g x : Nat} (h : Nb u g x) (hx : x < B8) : numAt u g = x := by
  unfold numAt
  rw [h]
  show nv _ 8 = x
  rw [nv_congr (e := lb x) 8 (fun i hi => ?_), nv8 hx]
  rw [Array.getD_eq_getD_getElem?, nmA_get (lb x) i hi]
  show ((lb x i : Nat) : Int).toNat = lb x i
  omega
set_option maxHeartbeats 2000000 in
set_option maxRecDepth 20000 in
theorem rest_any (p o n : Nat) (w : World) (hp : p < B8) (h0 : 0 < p) (hn : n < B8) : Calls Try.prog 45 #[fdV p o, nmV n] w fun e u => e = .returned (nmV (n % p)) ∧ Below w.heap.size w u := by
  have HMi := Lib.hid (fun x (hx : x < B8) => minus_ex x p hx hp)
  have HP := Lib.hid h0
  have HN0 := Lib.hid hn
  obtain ⟨R, hR⟩ : ∃ R, n % p = R := ⟨_, rfl⟩
  have HR := Lib.hid hR
  rw [hR]
  clear hp h0 hn hR
  go_enter Try.func45, Try.ntmps45
  go_upto_region 0 with (fail)
  apply wp_region_lit
  refine wpList_box_to rfl 50 _ rfl (fdA p o) (by kernel_rfl) w.heap.size rfl ?_
  refine wpList_box_to rfl 48 _ rfl (nmA (lb n)) (by kernel_rfl) (w.heap.size + 1) (by simp) ?_
  refine wpList_alloc_to rfl 48 rfl (nmA (lb 0)) (w.heap.size + 2) (by simp) alloc_n ?_
  simp only [Act.put, List.setIfInBounds_toArray, List.set_cons_zero, List.set_cons_succ]
  have HF := Lib.hid ((((Fd.new w p o).alloc (.cells (nmA (lb n)) 48))).alloc (.cells (nmA (lb 0)) 48))
  have HA := Lib.hid ((Nb.new (w.alloc (.cells (fdA p o) 50)) n).alloc (.cells (nmA (lb 0)) 48))
  have HS := Lib.hid (Nb.new ((w.alloc (.cells (fdA p o) 50)).alloc (.cells (nmA (lb n)) 48)) 0)
  have HB : Hid (Below w.heap.size w (((w.alloc (.cells (fdA p o) 50)).alloc (.cells (nmA (lb n)) 48)).alloc (.cells (nmA (lb 0)) 48))) := ((((Below.refl _ _).alloc (Nat.le_refl _) _).alloc (by simp) _).alloc (by simp; omega) _)
  rw [show (w.alloc (.cells (fdA p o) 50)).heap.size = w.heap.size + 1 by simp] at HA
  rw [show ((w.alloc (.cells (fdA p o) 50)).alloc (.cells (nmA (lb n)) 48)).heap.size = w.heap.size + 2 by simp] at HS
  generalize ((w.alloc (.cells (fdA p o) 50)).alloc (.cells (nmA (lb n)) 48)).alloc (.cells (nmA (lb 0)) 48) = w1 at HF HA HS HB ⊢
  generalize fdV p o = Fv
  generalize nmV n = Nv
  go_wp2_with (fail)
  go_loopw [6] (fun _ wx => ∃ x, Hid (x < B8 ∧ x % p = R) ∧ Hid (Fd wx w.heap.size p o) ∧ Hid (Nb wx (w.heap.size + 1) x) ∧ Hid (Nb wx (w.heap.size + 2) 0) ∧ Hid (Below w.heap.size w wx)) (fun _ wx => numAt wx (w.heap.size + 1))
  case atStart => exact ⟨n, ⟨HN0.out, HR.out⟩, HF, HA, HS, HB⟩
  case round =>
    clear HF HA HS HB
    obtain ⟨x, HX, HF, HA, HS, HB⟩ := hrel
    obtain ⟨D, hD1, hD2, hc⟩ := HMi.out x HX.out.1
    have HD := Lib.hid hD2
    have HDl := Lib.hid hD1
    have HC := Lib.hid hc
    have HM : Hid (numAt wr (w.heap.size + 1) = x) := HA.out.at_ HX.out.1
    clear hD1 hD2 hc
    go_upto_region 1 with (fail)
    apply wp_region_lit
    refine wpList_load_row rfl 48 _ rfl (w.heap.size + 1) (by kernel_rfl) 48 (nmA (lb x)) (0, 0) _ HA.out Try.underlying48 rfl (by kernel_rfl) ?_
    refine Lw.wpList_val rfl (.pointer (some ⟨w.heap.size, 0, none⟩)) wr (by go_simp) ?_
    simp only [Act.put, List.setIfInBounds_toArray, List.set_cons_zero, List.set_cons_succ]
    refine wpList_load_mid rfl 48 _ rfl w.heap.size 0 (by kernel_rfl) (nmA (lb p)).toList _ HF.out.prime Try.underlying48 rfl (by kernel_rfl) ?_
    simp only [Act.put, List.setIfInBounds_toArray, List.set_cons_zero, List.set_cons_succ]
    refine Lw.wpList_callTo (some 11) rfl rfl 35 _ _ rfl (fun _ _ => by go_simp) #[nmV x, nmV p] (by kernel_rfl) ?_
    refine (HC.out _).mono ?_
    rintro e u ⟨rfl, hb⟩
    refine ⟨_, rfl, ?_⟩
    have HF := Lib.hid (HF.out.on hb)
    have HA := Lib.hid (HA.out.on hb)
    have HS := Lib.hid (HS.out.on hb)
    have HB := Lib.hid (Lw.go_on HB.out hb)
    clear hb HC
    obtain ⟨l, hl⟩ : ∃ l, decide (x < p) = l := ⟨_, rfl⟩
    rw [hl]
    have HL := Lib.hid hl
    clear hl
    refine Lw.wpList_val rfl (.tuple #[nmV D, .bool l]) u (by go_simp) ?_
    refine Lw.wpList_val rfl (nmV D) u (by go_simp) ?_
    refine Lw.wpList_val rfl (.bool l) u (by go_simp) ?_
    refine wpList_alloc_to rfl 48 rfl (nmA (lb 0)) u.heap.size rfl alloc_n ?_
    simp only [Act.put, List.setIfInBounds_toArray, List.set_cons_zero, List.set_cons_succ]
    refine wpList_store_row rfl 48 _ _ rfl u.heap.size (nmA (lb D)) (by kernel_rfl) (by kernel_rfl) 48 _ (heap_alloc_last _ _) (by kernel_rfl) (by rw [nmA_size, nmA_size]) (nmA_one _) ?_
    rw [World.setRow_alloc_new]
    refine Lw.wpList_val rfl (.bool l) (u.alloc (.cells (nmA (lb D)) 48)) (by go_simp) ?_
    simp only [Act.put, List.setIfInBounds_toArray, List.set_cons_zero, List.set_cons_succ]
    have HY := Lib.hid (Nb.new u D)
    have HG : Hid (w.heap.size + 2 < u.heap.size) := HS.out.lt
    have HF := Lib.hid (HF.out.alloc (.cells (nmA (lb D)) 48))
    have HA := Lib.hid (HA.out.alloc (.cells (nmA (lb D)) 48))
    have HS := Lib.hid (HS.out.alloc (.cells (nmA (lb D)) 48))
    have HB : Hid (Below w.heap.size w (u.alloc (.cells (nmA (lb D)) 48))) := HB.out.alloc HB.out.size _
    generalize u.alloc (.cells (nmA (lb D)) 48) = w2 at HY HF HA HS HB ⊢
    generalize u.heap.size = gy at HY HG ⊢
    generalize nmV D = Dv
    generalize nmV p = Pv
    cases l
    · have HLe : Hid (p ≤ x) := by show _ ≤ _; have := of_decide_eq_false HL.out; omega
      go_upto_region 4 with (fail)
      apply wp_region_lit
      refine wpList_load_row rfl 48 _ rfl gy (by kernel_rfl) 48 (nmA (lb D)) (0, 0) _ HY.out Try.underlying48 rfl (by kernel_rfl) ?_
      refine wpList_store_row rfl 48 _ _ rfl (w.heap.size + 1) (nmA (lb D)) (by kernel_rfl) (by kernel_rfl) 48 _ HA.out (by kernel_rfl) (by rw [nmA_size, nmA_size]) (nmA_one _) ?_
      simp only [Act.put, List.setIfInBounds_toArray, List.set_cons_zero, List.set_cons_succ]
      have HF := Lib.hid (HF.out.far (nmA (lb D)) (show w.heap.size ≠ w.heap.size + 1 by omega))
      have HS := Lib.hid (HS.out.far (nmA (lb D)) (show w.heap.size + 2 ≠ w.heap.size + 1 by omega))
      have HB : Hid (Below w.heap.size w (w2.setRow (w.heap.size + 1) (nmA (lb D)))) := below_setRow HB.out (by omega) _
      have HA := Lib.hid (HA.out.put D)
      generalize w2.setRow (w.heap.size + 1) (nmA (lb D)) = w3 at HF HS HB HA ⊢
      generalize nmA (lb D) = Da
      generalize nmA (lb x) = Xa
      go_wp2_with (fail)
      refine ⟨⟨D, ⟨HDl.out, ?_⟩, HF, HA, HS, HB⟩, ?_⟩
      · rw [HD.out HLe.out, ← HX.out.2, ← Nat.mod_eq_sub_mod HLe.out]
      · rw [HM.out, HA.out.at_ HDl.out, HD.out HLe.out]
        have h1 := HP.out
        have h2 := HLe.out
        omega
    · have HLt : Hid (x < p) := by show x < p; exact of_decide_eq_true HL.out
      go_upto_region 3 with (fail)
      apply wp_region_lit
      refine wpList_load_row rfl 48 _ rfl (w.heap.size + 1) (by kernel_rfl) 48 (nmA (lb x)) (0, 0) _ HA.out Try.underlying48 rfl (by kernel_rfl) ?_
      refine wpList_store_row rfl 48 _ _ rfl (w.heap.size + 2) (nmA (lb x)) (by kernel_rfl) (by kernel_rfl) 48 _ HS.out (by kernel_rfl) (by rw [nmA_size, nmA_size]) (nmA_one _) ?_
      simp only [Act.put, List.setIfInBounds_toArray, List.set_cons_zero, List.set_cons_succ]
      generalize hAx : nmA (lb x) = A at HA
      go_wp2_with (fail)
      refine bodyPost_ret (v := .agg A) ?_ rfl ?_
      · exact results_cell_row (fn := Try.f45) Try.results45 _ _ (w.heap.size + 2) 48 _ (0, 0) _ rfl (setRow_heap _ _ _ _ _ _ HS.out) Try.underlying48 rfl (by rw [← hAx]; kernel_rfl)
      · have e : R = x := by rw [← HX.out.2, Nat.mod_eq_of_lt HLt.out]
        exact ⟨by rw [← hAx, e]; rfl, below_setRow HB.out (by omega) _⟩
end Go.Proofs.Nd
