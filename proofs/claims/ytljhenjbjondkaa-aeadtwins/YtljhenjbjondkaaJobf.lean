/-
  The developers' poly: numbers of five limbs in memory, carried.
-/
import Derived.Test.YtljhenjbjondkaaJoai
namespace Go.Proofs.Pd
open Go.RowKit
open Go.Proofs.Pol (lmL lmA lmA_get lmA_congr lmA_one lmA_size lt5 cc carS cc_lt mid mid_at mid_zero mid_succ mid_end mask26 lmV lmV_arr)
open Go.Proofs.Im (wpList_box_to words_heap words_one run_index_row)
open Go.Proofs.Sha (wordCells wordCells_get wordCells_size rowIs_of wpList_alloc_to wpList_build_to)
/-- Five limbs in memory. -/
def RQ (w : World) (g : Nat) (d : Nat → Nat) : Prop := w.rowIs g 72 5 (fun i => .int .u64 (d i : Nat))
theorem RQ.set {w : World} {g : Nat} {d : Nat → Nat} (h : RQ w g d) (j v : Nat) : RQ (w.setCell ⟨g, j, none⟩ (.int .u64 v)) g (fun i => if i = j then v else d i) :=
  World.rowIs.congr (World.rowIs.set h j (.int .u64 v)) fun i _ => by simp only []; split <;> rfl
theorem RQ.congr {w : World} {g : Nat} {d e : Nat → Nat} (h : RQ w g d) (he : ∀ i, i < 5 → d i = e i) : RQ w g e := World.rowIs.congr h fun i hi => by rw [he i hi]
theorem RQ.heap {w : World} {g : Nat} {d : Nat → Nat} (h : RQ w g d) : w.heap[g]? = some (.cells (lmA d) 72 (0, 0)) := words_heap h (lmL d) rfl (lt5 rfl rfl rfl rfl rfl)
theorem RQ.new (w : World) (d : Nat → Nat) : RQ (w.alloc (.cells (lmA d) 72)) w.heap.size d := rowIs_of w (lmA d) 72 5 _ rfl (lmA_get d)
theorem RQ.at_ {w : World} {g : Nat} {d : Nat → Nat} (h : RQ w g d) (i v : Nat) (hi : i < 5) (e : d i = v) : w.cell? ⟨g, i, none⟩ = some (.int .u64 (v : Nat)) := by rw [World.rowIs.cell h hi, e]
theorem RQ.other {w : World} {g : Nat} {d : Nat → Nat} (h : RQ w g d) {a : Addr} (ha : g ≠ a.block) (v : Value) : RQ (w.setCell a v) g d := World.rowIs.setOther h ha v
theorem RQ.drewN {w : World} {g : Nat} {d : Nat → Nat} (h : RQ w g d) (q : Nat) : RQ (w.drewN q) g d := h
theorem RQ.on {u v : World} {g : Nat} {d : Nat → Nat} (r : RQ u g d) (hb : Below u.heap.size u v) : RQ v g d := World.rowIs.of_block r (hb.block g (World.rowIs.lt r))
theorem alloc5 (w : World) : (Instr.alloc 72 true (.tuple #[])).run Try.prog w = .ok (.pointer (some ⟨w.heap.size, 0, none⟩)) (w.alloc (.cells (lmA fun _ => 0) 72)) := by kernel_rfl
theorem RQ.range {w : World} {g : Nat} {d : Nat → Nat} (h : RQ w g d) : w.rangeAt g 0 (lmV d) := fun j v hv => by
  have hj : j < 5 := (List.getElem?_eq_some_iff.1 hv).1
  rw [Nat.zero_add, World.rowIs.cell h hj, ← lmA_get d j hj, ← lmV_arr, List.getElem?_toArray]
  exact hv
/-- The developers' carried limbs. -/
def carD (d : Nat → Nat) (i : Nat) : Nat :=
  if i = 0 then (mid d 5 0 + 5 * cc d 5) % 67108864 else if i = 1 then mid d 5 1 + (mid d 5 0 + 5 * cc d 5) / 67108864 else mid d 5 i
/-- A call's boxed limbs, and its result's place. -/
def Mem5 (w u : World) (d : Nat → Nat) : Prop := RQ u w.heap.size d ∧ RQ u (w.heap.size + 1) (fun _ => 0) ∧ Below w.heap.size w u
theorem mem5_new (w : World) (d : Nat → Nat) : Mem5 w ((w.alloc (.cells (lmA d) 72)).alloc (.cells (lmA fun _ => 0) 72)) d := by
  have h := RQ.new (w.alloc (.cells (lmA d) 72)) (fun _ => 0)
  rw [show (w.alloc (.cells (lmA d) 72)).heap.size = w.heap.size + 1 by simp] at h
  exact ⟨World.rowIs.alloc (RQ.new w d) _, h, ((Below.refl _ _).alloc (Nat.le_refl _) _).alloc (by simp) _⟩
theorem Mem5.set {w u : World} {d : Nat → Nat} (h : Mem5 w u d) (j v : Nat) : Mem5 w (u.setCell ⟨w.heap.size, j, none⟩ (.int .u64 v)) (fun i => if i = j then v else d i) :=
  ⟨h.1.set j v, h.2.1.other (by simp) _, h.2.2.setCell (Nat.le_refl _) _⟩
theorem Mem5.congr {w u : World} {d e : Nat → Nat} (h : Mem5 w u d) (he : ∀ i, i < 5 → d i = e i) : Mem5 w u e := ⟨h.1.congr he, h.2⟩
set_option maxHeartbeats 2000000 in
theorem carried_any (d : Nat → Nat) (w : World) (hd : ∀ i, d i < 1152921504606846976) :
    Calls Try.prog 77 #[.agg (lmA d)] w fun e w' => e = .returned (.agg (lmA (carD d))) ∧ Below w.heap.size w w' := by
  have HD := Lib.hid hd
  clear hd
  go_enter Try.func77, Try.ntmps77
  go_upto_region 0 with (fail)
  apply wp_region_lit
  refine wpList_box_to rfl 72 _ rfl (lmA d) rfl w.heap.size rfl ?_
  refine wpList_alloc_to rfl 72 rfl (lmA fun _ => 0) (w.heap.size + 1) (by simp) alloc5 ?_
  have HM := Lib.hid (mem5_new w d)
  generalize (w.alloc (.cells (lmA d) 72)).alloc (.cells (lmA fun _ => 0) 72) = w1 at HM ⊢
  go_wp2_with (fail)
  go_loopw [3, 5] (fun c i wx => ∃ j : Nat, Hid (j ≤ 5) ∧ i = .int .i64 j ∧ c = .int .u64 (cc d j : Nat) ∧ Hid (Mem5 w wx (mid d j))) (fun _ i _ => 5 - (intOf i).toNat)
  case atStart => exact ⟨0, Nat.zero_le _, rfl, rfl, HM.out.congr fun i _ => mid_zero d i⟩
  case round =>
    clear HM
    obtain ⟨j, hj, rfl, rfl, HM⟩ := hrel
    by_cases hlt : j < 5
    · have jl : ((j : Int) < 5) = True := eq_true (by omega)
      have jl' : (j : Int) < 5 := by omega
      have xc := HM.out.1.at_ j (d j) hlt (mid_at _ _)
      have xf := World.rowIs.frozen HM.out.1 j
      have HJ := Lib.hid hlt
      have l1 := HD.out j
      have l2 := cc_lt HD.out j
      have HC : Hid ((d j + cc d j) / 67108864 = cc d (j + 1)) := rfl
      have HS := Lib.hid (mid_succ d j)
      generalize cc d j = c at l2 HC HS ⊢
      generalize d j = x at xc l1 HC HS
      have m1 := mask26 (x + c) (by omega)
      clear hlt
      go_wp2_with (fail)
      rw [show ((x : Int) + (c : Int)) = ((x + c : Nat) : Int) by omega, m1]
      refine ⟨⟨j + 1, HJ.out, by go_num, ?_, ?_⟩, Lw.meas 5 j HJ.out⟩
      · rw [← HC.out]; rfl
      · exact ((HM.out.set j (x + c)).set j ((x + c) % 67108864)).congr fun i _ => HS.out i
    · have jl : ((j : Int) < 5) = False := eq_false (by omega)
      obtain rfl : j = 5 := by have := hj.out; omega
      rw [show ((5 : Nat) : Int) = 5 from rfl]
      clear hlt jl hj
      have xc := HM.out.1.at_ 0 (mid d 5 0) (by decide) rfl
      have yc := HM.out.1.at_ 1 (mid d 5 1) (by decide) rfl
      have xf := World.rowIs.frozen HM.out.1 0
      have yf := World.rowIs.frozen HM.out.1 1
      have l1 : mid d 5 0 < 67108864 := by unfold mid; rw [if_pos (by decide)]; exact Nat.mod_lt _ (by decide)
      have l3 : mid d 5 1 < 67108864 := by unfold mid; rw [if_pos (by decide)]; exact Nat.mod_lt _ (by decide)
      have l2 := cc_lt HD.out 5
      have HE : Hid (∀ i, i < 5 → (if i = 0 then (mid d 5 0 + 5 * cc d 5) % 67108864 else if i = 1 then mid d 5 1 + (mid d 5 0 + 5 * cc d 5) / 67108864 else if i = 0 then mid d 5 0 + 5 * cc d 5 else mid d 5 i) = carD d i) := fun i _ => by
        unfold carD
        by_cases h0 : i = 0 <;> by_cases h1 : i = 1 <;> simp [h0, h1]
      generalize cc d 5 = c at l2 HE ⊢
      generalize hx : mid d 5 0 = x at xc l1 HE
      generalize hy : mid d 5 1 = y at yc l3 HE
      have hy : mid d 5 1 = y := hy
      clear hx
      have m1 := mask26 (x + 5 * c) (by omega)
      have HX5 : Hid ((x : Int) + 5 * (c : Int) = ((x + 5 * c : Nat) : Int)) := by show _ = _; omega
      go_upto_region 10 with (fail)
      rw [HX5.out]
      have HM : Hid (Mem5 w (wr.setCell ⟨w.heap.size, 0, none⟩ (.int .u64 ((x + 5 * c : Nat) : Int))) (fun i => if i = 0 then x + 5 * c else mid d 5 i)) := HM.out.set 0 (x + 5 * c)
      clear xc xf yf yc
      have lz : x + 5 * c < 18446744073709551616 := by omega
      have lq : (x + 5 * c) / 67108864 < 67108864 := by omega
      generalize wr.setCell ⟨w.heap.size, 0, none⟩ (.int .u64 ((x + 5 * c : Nat) : Int)) = w3 at HM ⊢
      generalize (x : Int) + 5 * (c : Int) = xz
      generalize x + 5 * c = z at HM HE m1 lz lq
      have xc := HM.out.1.at_ 0 z (by decide) rfl
      have yc := HM.out.1.at_ 1 y (by decide) hy
      have yf := World.rowIs.frozen HM.out.1 1
      have HYq : Hid ((y : Int) + (z : Int) / 67108864 = ((y + z / 67108864 : Nat) : Int)) := by show _ = _; omega
      have wq : IntKind.u64.wrap ((y : Int) + (z : Int) / 67108864) = (y : Int) + (z : Int) / 67108864 := by show _ % 18446744073709551616 = _; omega
      go_upto_region 11 with (fail)
      rw [HYq.out]
      have HM : Hid (Mem5 w (w3.setCell ⟨w.heap.size, 1, none⟩ (.int .u64 ((y + z / 67108864 : Nat) : Int))) (fun i => if i = 1 then y + z / 67108864 else if i = 0 then z else mid d 5 i)) := HM.out.set 1 (y + z / 67108864)
      clear xc yc yf wq
      generalize w3.setCell ⟨w.heap.size, 1, none⟩ (.int .u64 ((y + z / 67108864 : Nat) : Int)) = w4 at HM ⊢
      generalize (y : Int) + (z : Int) / 67108864 = yz
      have xc := HM.out.1.at_ 0 z (by decide) rfl
      have xf := World.rowIs.frozen HM.out.1 0
      go_upto_region 12 with (fail)
      have HM : Hid (Mem5 w (w4.setCell ⟨w.heap.size, 0, none⟩ (.int .u64 ((z % 67108864 : Nat) : Int))) (carD d)) := (HM.out.set 0 (z % 67108864)).congr HE.out
      rw [show (z : Int) % 67108864 = ((z % 67108864 : Nat) : Int) by omega]
      clear xc xf m1
      generalize w4.setCell ⟨w.heap.size, 0, none⟩ (.int .u64 ((z % 67108864 : Nat) : Int)) = w5 at HM ⊢
      generalize ((z % 67108864 : Nat) : Int) = zz
      have HN := Lib.hid HM.out.1.heap
      have HO := Lib.hid HM.out.2.1.heap
      generalize hA : lmA (carD d) = A at HN
      apply wp_region_lit
      refine wpList_load_row rfl 72 _ rfl w.heap.size (by kernel_rfl) 72 A (0, 0) _ HN.out Try.underlying72 rfl (by rw [← hA]; kernel_rfl) ?_
      refine wpList_store_row rfl 72 _ _ rfl (w.heap.size + 1) A (by kernel_rfl) (by kernel_rfl) 72 _ HO.out (by rw [← hA]; kernel_rfl) (by rw [← hA, lmA_size, lmA_size]) (by rw [← hA]; exact lmA_one _) ?_
      simp only [Act.put, List.setIfInBounds_toArray, List.set_cons_zero, List.set_cons_succ]
      go_wp2_with (fail)
      refine bodyPost_ret (v := .agg A) ?_ rfl ?_
      · exact results_cell_row (fn := Try.f77) Try.results77 _ _ (w.heap.size + 1) 72 _ (0, 0) _ rfl (setRow_heap _ _ _ _ _ _ HO.out) Try.underlying72 rfl (by rw [← hA]; kernel_rfl)
      · exact ⟨by rw [hA], below_setRow HM.out.2.2 (by omega) _⟩
end Go.Proofs.Pd
