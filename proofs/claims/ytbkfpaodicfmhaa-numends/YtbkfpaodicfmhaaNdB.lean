/-
  The developers' numbers: a text of 32 bytes read.
-/
import Derived.Test.YtbkfpaodicfmhaaNdA
import Derived.Test.YtbkfpaodicfmhaaNuG
namespace Go.Proofs.Nd
open Go.RowKit
open Go.Proofs.Im (wpList_box_to words_heap words_one run_index_row)
open Go.Proofs.Sha (wordCells wordCells_get wordCells_size rowIs_of wpList_alloc_to wpList_build_to)
open Go.Proofs.Nt
open Go.Proofs.Nu (nmL nmA nmV lt8 nmA_get nmA_congr nmA_one nmA_size results_row_slot B8 b8 nv8 nmA_lb nv_lt8 gw gw_zero gw_next gw_lt gw_cur gw_end or_u32)
open Go.Proofs.Aes (byt byt_lt get_byt)
/-- A word's place, and a result's. -/
def Dup (w u : World) (d : Nat → Nat) : Prop := RP u (w.heap.size + 1) d ∧ RP u w.heap.size (fun _ => 0) ∧ Below w.heap.size w u
theorem dup_new (w : World) : Dup w ((w.alloc (.cells (nmA fun _ => 0) 48)).alloc (.cells (nmA fun _ => 0) 48)) (fun _ => 0) := by
  have s1 : (w.alloc (.cells (nmA fun _ => 0) 48)).heap.size = w.heap.size + 1 := by simp
  have h1 := RP.new w (fun _ => 0)
  have b1 : Below w.heap.size w (w.alloc (.cells (nmA fun _ => 0) 48)) := (Below.refl _ _).alloc (Nat.le_refl _) _
  generalize w.alloc (.cells (nmA fun _ => 0) 48) = w1 at s1 h1 b1 ⊢
  have h2 := RP.new w1 (fun _ => 0)
  rw [s1] at h2
  exact ⟨h2, World.rowIs.alloc h1 _, b1.alloc (by omega) _⟩
theorem Dup.set {w u : World} {d : Nat → Nat} (h : Dup w u d) (j v : Nat) : Dup w (u.setCell ⟨w.heap.size + 1, j, none⟩ (.int .u32 v)) (fun i => if i = j then v else d i) :=
  ⟨h.1.set j v, h.2.1.other (by simp) _, h.2.2.setCell (by simp) _⟩
theorem Dup.congr {w u : World} {d e : Nat → Nat} (h : Dup w u d) (he : ∀ i, i < 8 → d i = e i) : Dup w u e := ⟨h.1.congr he, h.2⟩
theorem Dup.drewN {w u : World} {d : Nat → Nat} (m : Dup w u d) (q : Nat) : Dup w (u.drewN q) d := ⟨m.1, m.2.1, Lw.below_drewN m.2.2 q⟩
set_option maxHeartbeats 2000000 in
set_option maxRecDepth 20000 in
theorem number_any (s : ByteArray) (w : World) (hs : s.size = 32) :
    Calls Try.prog 51 #[.string s] w fun e w' => e = .returned (nmV (bn s)) ∧ Below w.heap.size w w' := by
  have hE : nmV (bn s) = .agg (nmA (gw s 32)) := by
    unfold nmV
    rw [← gw_end, ← nmA_lb (gw_lt s 32)]
  rw [hE]
  have HSz := Lib.hid hs
  clear hE hs
  go_enter Try.func51, Try.ntmps51
  go_upto_region 0 with (fail)
  apply wp_region_lit
  refine wpList_alloc_to rfl 48 rfl (nmA fun _ => 0) w.heap.size rfl alloc8 ?_
  go_upto_region 1 with (fail)
  apply wp_region_lit
  refine wpList_alloc_to rfl 48 rfl (nmA fun _ => 0) (w.heap.size + 1) (by simp) alloc8 ?_
  simp only [Act.put, List.setIfInBounds_toArray, List.set_cons_zero, List.set_cons_succ]
  have HM := Lib.hid (dup_new w)
  generalize (w.alloc (.cells (nmA fun _ => 0) 48)).alloc (.cells (nmA fun _ => 0) 48) = w1 at HM ⊢
  go_wp2_with (fail)
  go_loopw [6] (fun v wx => ∃ i : Nat, Hid (i ≤ 32) ∧ v = .int .i64 i ∧ Hid (Dup w wx (gw s i))) (fun v _ => 32 - (intOf v).toNat)
  case atStart => exact ⟨0, Nat.zero_le _, rfl, HM.out.congr fun j _ => gw_zero s j⟩
  case round =>
    clear HM
    obtain ⟨i, hi, rfl, HM⟩ := hrel
    by_cases hlt : i < 32
    · have il : ((i : Int) < 32) = True := eq_true (by omega)
      have il' : (i : Int) < 32 := by omega
      have HI := Lib.hid hlt
      obtain ⟨j, hj⟩ : ∃ j, 7 - i / 4 = j := ⟨_, rfl⟩
      have hj8 : j < 8 := by omega
      obtain ⟨q, hq⟩ : ∃ q, i / 4 = q := ⟨_, rfl⟩
      have t1 : IntKind.i64.wrap ((i : Int) / 4) = (q : Int) := by rw [IntWalk.i64_in _ (by omega)]; omega
      have t2 : IntKind.i64.wrap (7 - (q : Int)) = (j : Int) := by rw [IntWalk.i64_in _ (by omega)]; omega
      have jb : (j : Int) < 8 := by omega
      have xc := HM.out.1.at_ j (gw s i j) hj8 rfl
      have xf := World.rowIs.frozen HM.out.1 j
      have l1 : gw s i j < 16777216 := by rw [← hj]; exact gw_cur s i hlt
      have l2 := byt_lt s i
      have hs' : i < s.size := by have := HSz.out; omega
      have v0 : ∀ h : i < s.size, (s[i]'h).toNat = byt s i := fun h => get_byt s _ h
      have HN : Hid (∀ k, k < 8 → (if k = j then gw s i j * 256 + byt s i else gw s i k) = gw s (i + 1) k) := fun k hk => by have := gw_next s i k HI.out hk; rw [hj] at this; exact this
      generalize gw s i j = x at xc l1 HN
      generalize byt s i = y at l2 v0 HN
      have o1 := or_u32 x y l1 l2
      clear hlt hj hj8 hq
      go_wp2_with (fail)
      go_still_tail 11, (by kernel_rfl)
      change wpList _ _ _ _ _ wr.drew
      have HM := Lib.hid (HM.out.drewN 1)
      have yc : wr.drew.cell? ⟨w.heap.size + 1, j, none⟩ = some (.int .u32 (x : Nat)) := xc
      have yf : wr.drew.frozen? ⟨w.heap.size + 1, j, none⟩ = false := xf
      change Hid (Dup w wr.drew (gw s i)) at HM
      clear xc xf v0
      generalize wr.drew = w2 at HM yc yf ⊢
      go_wp2_with (fail)
      rw [show (x : Int) * 256 + (y : Int) = ((x * 256 + y : Nat) : Int) by omega]
      exact ⟨⟨i + 1, HI.out, by go_num, (HM.out.set j (x * 256 + y)).congr HN.out⟩, Lw.meas 32 i HI.out⟩
    · have il : ((i : Int) < 32) = False := eq_false (by omega)
      obtain rfl : i = 32 := by have := hi.out; omega
      rw [show ((32 : Nat) : Int) = 32 from rfl]
      clear hlt il hi
      have HN := Lib.hid HM.out.1.heap
      have HO := Lib.hid HM.out.2.1.heap
      go_upto_region 8 with (fail)
      generalize hA : nmA (gw s 32) = A at HN
      apply wp_region_lit
      refine wpList_load_row rfl 48 _ rfl (w.heap.size + 1) (by kernel_rfl) 48 A (0, 0) _ HN.out Try.underlying48 rfl (by rw [← hA]; kernel_rfl) ?_
      refine wpList_store_row rfl 48 _ _ rfl w.heap.size A (by kernel_rfl) (by kernel_rfl) 48 _ HO.out (by rw [← hA]; kernel_rfl) (by rw [← hA, nmA_size, nmA_size]) (by rw [← hA]; exact nmA_one _) ?_
      simp only [Act.put, List.setIfInBounds_toArray, List.set_cons_zero, List.set_cons_succ]
      go_wp2_with (fail)
      refine bodyPost_ret (v := .agg A) ?_ rfl ?_
      · exact results_cell_row (fn := Try.f51) Try.results51 _ _ w.heap.size 48 _ (0, 0) _ rfl (setRow_heap _ _ _ _ _ _ HO.out) Try.underlying48 rfl (by rw [← hA]; kernel_rfl)
      · exact ⟨by rw [hA], below_setRow HM.out.2.2 (Nat.le_refl _) _⟩
end Go.Proofs.Nd
