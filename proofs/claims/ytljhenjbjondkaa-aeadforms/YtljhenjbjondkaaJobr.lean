/-
  The developers' chacha: which keys fit; the state ahead of the rounds.
-/
import Derived.Test.YtljhenjbjondkaaJobq
import Derived.Test.YtljhenjbjondkaaJoag
namespace Go.Proofs.Cd
open Go.RowKit
open Go.Proofs.Cha
open Go.Proofs.Aes (byt byt_lt get_byt)
open Go.Proofs.Im (wpList_box_to words_heap words_one run_index_row)
open Go.Proofs.Sha (wordCells wordCells_get wordCells_size rowIs_of wpList_alloc_to)
/-- What a key's state begins with. -/
theorem conC (key : ByteArray) : cA (fun t => conL.getD t 0) = cA (ini1 key 0) := cA_congr fun t _ => by unfold ini1; rw [if_neg (by omega)]
/-- The state being laid, its result's place ahead of it. -/
def Key2 (w u : World) (X : Nat → Nat) : Prop := RC u (w.heap.size + 1) X ∧ RC u w.heap.size (fun _ => 0) ∧ Below w.heap.size w u
theorem key2_new (w : World) (X : Nat → Nat) : Key2 w ((w.alloc (.cells (cA fun _ => 0) 83)).alloc (.cells (cA X) 83)) X := by
  have h := RC.new (w.alloc (.cells (cA fun _ => 0) 83)) X
  rw [show (w.alloc (.cells (cA fun _ => 0) 83)).heap.size = w.heap.size + 1 by simp] at h
  exact ⟨h, World.rowIs.alloc (RC.new w _) _, ((Below.refl _ _).alloc (Nat.le_refl _) _).alloc (by simp) _⟩
theorem Key2.set {w u : World} {X : Nat → Nat} (h : Key2 w u X) (j v : Nat) : Key2 w (u.setCell ⟨w.heap.size + 1, j, none⟩ (.int .u32 v)) (put X j v) :=
  ⟨h.1.set j v, h.2.1.other (by simp) _, h.2.2.setCell (by simp) _⟩
theorem Key2.drewN {w u : World} {X : Nat → Nat} (h : Key2 w u X) (q : Nat) : Key2 w (u.drewN q) X := ⟨h.1.drewN q, h.2.1.drewN q, below_drewN h.2.2 q⟩
theorem Key2.congr {w u : World} {X Y : Nat → Nat} (h : Key2 w u X) (e : ∀ i, i < 16 → X i = Y i) : Key2 w u Y := ⟨h.1.congr e, h.2⟩
theorem measK (K b j : Nat) (h : j < K) : b + K - (intOf (.int .i64 ((b : Int) + (j : Int) + 1))).toNat < b + K - (intOf (.int .i64 ((b : Int) + (j : Int)))).toNat := by
  show b + K - ((b : Int) + (j : Int) + 1).toNat < b + K - ((b : Int) + (j : Int)).toNat
  omega
set_option maxHeartbeats 4000000 in
set_option maxRecDepth 10000 in
theorem keyed_any (key : ByteArray) (cnt : Nat) (nonce : ByteArray) (w : World) (hk : key.size = 32) (hn : nonce.size = 12) :
    Calls Try.prog 53 #[.string key, .int .u32 cnt, .string nonce] w fun e w' => e = .returned (.agg (cA (ini key cnt nonce))) ∧ Below w.heap.size w w' := by
  have HK := Lib.hid hk
  have HN := Lib.hid hn
  clear hk hn
  go_enter Try.func53, Try.ntmps53
  go_upto_region 0 with (fail)
  apply wp_region_lit
  refine wpList_alloc_to rfl 83 rfl (cA fun _ => 0) w.heap.size rfl alloc16c ?_
  simp only [Act.put, List.setIfInBounds_toArray, List.set_cons_zero, List.set_cons_succ]
  go_upto_region 1 with (fail)
  apply wp_region_lit
  refine Lw.wpList_val rfl (.agg (cA fun t => conL.getD t 0)) (w.alloc (.cells (cA fun _ => 0) 83)) (by kernel_rfl) ?_
  refine wpList_alloc_to rfl 83 rfl (cA fun _ => 0) (w.heap.size + 1) (by simp) alloc16c ?_
  refine wpList_store_row rfl 83 _ _ rfl (w.heap.size + 1) (cA fun t => conL.getD t 0) (by kernel_rfl) (by kernel_rfl) 83 (cA fun _ => 0) (key2_new w _).1.heap (by kernel_rfl) (by kernel_rfl) (cA_one _) ?_
  rw [conC key]
  have HM : Hid (Key2 w (((w.alloc (.cells (cA fun _ => 0) 83)).alloc (.cells (cA fun _ => 0) 83)).setRow (w.heap.size + 1) (cA (ini1 key 0))) (ini1 key 0)) :=
    ⟨(key2_new w _).1.setRow _, World.rowIs.of_block (key2_new w _).2.1 (setRow_other _ _ _ _ (by omega)), below_setRow (key2_new w _).2.2 (by omega) _⟩
  generalize ((w.alloc (.cells (cA fun _ => 0) 83)).alloc (.cells (cA fun _ => 0) 83)).setRow (w.heap.size + 1) (cA (ini1 key 0)) = w1 at HM ⊢
  simp only [Act.put, List.setIfInBounds_toArray, List.set_cons_zero, List.set_cons_succ]
  go_wp2_with (fail)
  go_loopw [8] (fun v wx => ∃ j : Nat, Hid (j ≤ 8) ∧ v = .int .i64 (((4 : Nat) : Int) + (j : Int)) ∧ Hid (Key2 w wx (ini1 key j))) (fun v _ => 4 + 8 - (intOf v).toNat)
  case atStart => exact ⟨0, Nat.zero_le _, rfl, HM⟩
  case round =>
    clear HM
    obtain ⟨j, hj, rfl, HM⟩ := hrel
    by_cases hlt : j < 8
    · have jl : (((4 : Nat) : Int) + (j : Int) < 12) = True := eq_true (by omega)
      have jl2 : ((4 : Int) + (j : Int) < 12) = True := eq_true (by omega)
      have jl' : (4 : Int) + (j : Int) < 16 := by omega
      have j0 : (0 : Int) ≤ (4 : Int) + (j : Int) := by omega
      have je : (4 : Int) + (j : Int) - 4 = (j : Int) := by omega
      have jt : ((4 : Int) + (j : Int)).toNat = 4 + j := by omega
      have HJ := Lib.hid hlt
      have xc := World.rowIs.cell HM.out.1 (i := 4 + j) (by omega)
      have xf := World.rowIs.frozen HM.out.1 (4 + j)
      generalize ini1 key j (4 + j) = old at xc
      clear hlt
      go_wp2_with (go_at_call 75; refine (word_any key j _ (by have := HK.out; have := HJ.out; omega) (by have := HK.out; omega)).mono ?_; rintro e v ⟨rfl, nq, rfl⟩; have HM := Lib.hid (HM.out.drewN nq); have xc : (wr.drewN nq).cell? ⟨w.heap.size + 1, 4 + j, none⟩ = some (.int .u32 (old : Nat)) := xc; have xf : (wr.drewN nq).frozen? ⟨w.heap.size + 1, 4 + j, none⟩ = false := xf; generalize wr.drewN nq = v1 at HM xc xf ⊢)
      exact ⟨⟨j + 1, HJ.out, by go_num, (HM.out.set (4 + j) (leN key (4 * j))).congr fun t _ => ini1_succ key j t⟩, measK 8 4 j HJ.out⟩
    · have jl : (((4 : Nat) : Int) + (j : Int) < 12) = False := eq_false (by omega)
      obtain rfl : j = 8 := by have := hj.out; omega
      rw [show ((4 : Nat) : Int) + ((8 : Nat) : Int) = 12 from rfl]
      clear hlt jl hj
      have xc := World.rowIs.cell HM.out.1 (i := 12) (by decide)
      have xf := World.rowIs.frozen HM.out.1 12
      generalize ini1 key 8 12 = old at xc
      go_wp2_with (fail)
      have HM : Hid (Key2 w (wr.setCell ⟨w.heap.size + 1, 12, none⟩ (.int .u32 (cnt : Nat))) (ini2 key cnt nonce 0)) := (HM.out.set 12 cnt).congr fun t _ => ini2_zero key cnt nonce t
      clear xc xf
      generalize wr.setCell ⟨w.heap.size + 1, 12, none⟩ (.int .u32 (cnt : Nat)) = w3 at HM ⊢
      go_loopw [9] (fun v wx => ∃ j : Nat, Hid (j ≤ 3) ∧ v = .int .i64 (((13 : Nat) : Int) + (j : Int)) ∧ Hid (Key2 w wx (ini2 key cnt nonce j))) (fun v _ => 13 + 3 - (intOf v).toNat)
      case atStart => exact ⟨0, Nat.zero_le _, rfl, HM⟩
      case round =>
        clear HM
        obtain ⟨j, hj, rfl, HM⟩ := hrel
        by_cases hlt : j < 3
        · have jl : (((13 : Nat) : Int) + (j : Int) < 16) = True := eq_true (by omega)
          have jl2 : ((13 : Int) + (j : Int) < 16) = True := eq_true (by omega)
          have jl' : (13 : Int) + (j : Int) < 16 := by omega
          have j0 : (0 : Int) ≤ (13 : Int) + (j : Int) := by omega
          have je : (13 : Int) + (j : Int) - 13 = (j : Int) := by omega
          have jt : ((13 : Int) + (j : Int)).toNat = 13 + j := by omega
          have HJ := Lib.hid hlt
          have xc := World.rowIs.cell HM.out.1 (i := 13 + j) (by omega)
          have xf := World.rowIs.frozen HM.out.1 (13 + j)
          generalize ini2 key cnt nonce j (13 + j) = old at xc
          clear hlt
          go_wp2_with (go_at_call 75; refine (word_any nonce j _ (by have := HN.out; have := HJ.out; omega) (by have := HN.out; omega)).mono ?_; rintro e v ⟨rfl, nq, rfl⟩; have HM := Lib.hid (HM.out.drewN nq); have xc : (wr.drewN nq).cell? ⟨w.heap.size + 1, 13 + j, none⟩ = some (.int .u32 (old : Nat)) := xc; have xf : (wr.drewN nq).frozen? ⟨w.heap.size + 1, 13 + j, none⟩ = false := xf; generalize wr.drewN nq = v1 at HM xc xf ⊢)
          exact ⟨⟨j + 1, HJ.out, by go_num, (HM.out.set (13 + j) (leN nonce (4 * j))).congr fun t _ => ini2_succ key cnt nonce j t⟩, measK 3 13 j HJ.out⟩
        · have jl : (((13 : Nat) : Int) + (j : Int) < 16) = False := eq_false (by omega)
          obtain rfl : j = 3 := by have := hj.out; omega
          rw [show ((13 : Nat) : Int) + ((3 : Nat) : Int) = 16 from rfl]
          clear hlt jl hj
          have HM : Hid (Key2 w wr (ini key cnt nonce)) := HM.out.congr fun t ht => ini2_all key cnt nonce t ht
          have HI := Lib.hid HM.out.1.heap
          have HO := Lib.hid HM.out.2.1.heap
          generalize hRe : ini key cnt nonce = R at HM HI
          have HRe := Lib.hid hRe
          clear hRe
          go_upto_region 11 with (fail)
          apply wp_region_lit
          refine wpList_load_row rfl 83 _ rfl (w.heap.size + 1) rfl 83 (cA R) (0, 0) _ HI.out Try.underlying83 rfl (by kernel_rfl) ?_
          refine wpList_store_row rfl 83 _ _ rfl w.heap.size (cA R) rfl rfl 83 _ HO.out (by kernel_rfl) rfl (cA_one _) ?_
          go_wp2_with (fail)
          refine bodyPost_ret (v := .agg (cA R)) ?_ rfl ?_
          · exact results_cell_row (fn := Try.f53) Try.results53 _ _ w.heap.size 83 _ (0, 0) _ rfl (setRow_heap _ _ _ _ _ _ HO.out) Try.underlying83 rfl (by kernel_rfl)
          · exact ⟨by rw [HRe.out], below_setRow HM.out.2.2 (Nat.le_refl _) _⟩
theorem fits_any (key : ByteArray) (cnt : Int) (nonce : ByteArray) (w : World) :
    Calls Try.prog 52 #[.string key, .int .i64 cnt, .string nonce] w fun e w' => e = .returned (.bool (chaOk key cnt nonce)) ∧ w' = w := by
  go_enter Try.func52, Try.ntmps52
  go_wp2_with (fail)
  all_goals (go_ret; refine ⟨congrArg (fun b => Ending.returned (.bool b)) ?_, rfl⟩; rw [Bool.eq_iff_iff, chaOk_iff]; simp; omega)
end Go.Proofs.Cd
