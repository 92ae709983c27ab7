/-
  The document's own answer: Poly1305's limbs, carried.
-/
import Derived.Test.YtijpfaknbgbphaaProg
import Derived.Test.YtijpfaknbgbphaaLwA
import Derived.Test.YtijpfaknbgbphaaImL
import Derived.Test.YtijpfaknbgbphaaShaL
import Derived.Deep.OwnRows
import Derived.Deep.DeepCutAuto
import Derived.Deep.WholeRow
import Derived.Laws.Tables
import Derived.Laws.CopyOwn
import Derived.Laws.BitsAllLaws
import Derived.WalkSmall
namespace Go.Proofs.Pol
open Go.RowKit
open Go.Proofs.Im (wpList_box_to words_heap words_one run_index_row)
open Go.Proofs.Sha (wordCells wordCells_get wordCells_size rowIs_of wpList_alloc_to)
/-- Five limbs as a value. -/
def lmL (d : Nat → Nat) : List Nat := [d 0, d 1, d 2, d 3, d 4]
def lmA (d : Nat → Nat) : Array Value := wordCells .u64 (lmL d)
theorem lt5 {P : Nat → Prop} (h0 : P 0) (h1 : P 1) (h2 : P 2) (h3 : P 3) (h4 : P 4) (i : Nat) (hi : i < 5) : P i := by
  match i, hi with
  | 0, _ => exact h0
  | 1, _ => exact h1
  | 2, _ => exact h2
  | 3, _ => exact h3
  | 4, _ => exact h4
theorem lmA_get (d : Nat → Nat) (i : Nat) (hi : i < 5) : (lmA d)[i]? = some (.int .u64 (d i : Nat)) := lt5 (P := fun i => (lmA d)[i]? = some (.int .u64 (d i : Nat))) rfl rfl rfl rfl rfl i hi
theorem lmA_congr {d e : Nat → Nat} (h : ∀ i, i < 5 → d i = e i) : lmA d = lmA e := by
  unfold lmA lmL; rw [h 0 (by decide), h 1 (by decide), h 2 (by decide), h 3 (by decide), h 4 (by decide)]
theorem lmA_one (d : Nat → Nat) : (lmA d).all (·.oneCell') = true := words_one _ _
theorem lmA_size (d : Nat → Nat) : (lmA d).size = 5 := rfl
/-- Five limbs in memory. -/
def RQ (w : World) (g : Nat) (d : Nat → Nat) : Prop := w.rowIs g 56 5 (fun i => .int .u64 (d i : Nat))
theorem RQ.set {w : World} {g : Nat} {d : Nat → Nat} (h : RQ w g d) (j v : Nat) : RQ (w.setCell ⟨g, j, none⟩ (.int .u64 v)) g (fun i => if i = j then v else d i) :=
  World.rowIs.congr (World.rowIs.set h j (.int .u64 v)) fun i _ => by simp only []; split <;> rfl
theorem RQ.congr {w : World} {g : Nat} {d e : Nat → Nat} (h : RQ w g d) (he : ∀ i, i < 5 → d i = e i) : RQ w g e := World.rowIs.congr h fun i hi => by rw [he i hi]
theorem RQ.heap {w : World} {g : Nat} {d : Nat → Nat} (h : RQ w g d) : w.heap[g]? = some (.cells (lmA d) 56 (0, 0)) := words_heap h (lmL d) rfl (lt5 rfl rfl rfl rfl rfl)
theorem RQ.new (w : World) (d : Nat → Nat) : RQ (w.alloc (.cells (lmA d) 56)) w.heap.size d := rowIs_of w (lmA d) 56 5 _ rfl (lmA_get d)
theorem RQ.at_ {w : World} {g : Nat} {d : Nat → Nat} (h : RQ w g d) (i v : Nat) (hi : i < 5) (e : d i = v) : w.cell? ⟨g, i, none⟩ = some (.int .u64 (v : Nat)) := by rw [World.rowIs.cell h hi, e]
theorem RQ.other {w : World} {g : Nat} {d : Nat → Nat} (h : RQ w g d) {a : Addr} (ha : g ≠ a.block) (v : Value) : RQ (w.setCell a v) g d := World.rowIs.setOther h ha v
theorem RQ.drewN {w : World} {g : Nat} {d : Nat → Nat} (h : RQ w g d) (q : Nat) : RQ (w.drewN q) g d := h
theorem RQ.on {u v : World} {g : Nat} {d : Nat → Nat} (r : RQ u g d) (hb : Below u.heap.size u v) : RQ v g d := World.rowIs.of_block r (hb.block g (World.rowIs.lt r))
theorem alloc5 (w : World) : (Instr.alloc 56 true (.tuple #[])).run Try.prog w = .ok (.pointer (some ⟨w.heap.size, 0, none⟩)) (w.alloc (.cells (lmA fun _ => 0) 56)) := by kernel_rfl
/-- The carry into limb i; the limbs carried. -/
def cc (d : Nat → Nat) : Nat → Nat
  | 0 => 0
  | i + 1 => (d i + cc d i) / 67108864
def carS (d : Nat → Nat) (i : Nat) : Nat := (d i + cc d i) % 67108864 + (if i = 0 then 5 * cc d 5 else 0)
theorem cc_lt {d : Nat → Nat} (h : ∀ i, d i < 1152921504606846976) (i : Nat) : cc d i < 34359738368 := by
  induction i with
  | zero => show 0 < _; decide
  | succ i ih => show (d i + cc d i) / 67108864 < _; have := h i; omega
def mid (d : Nat → Nat) (j i : Nat) : Nat := if i < j then (d i + cc d i) % 67108864 else d i
theorem mid_at (d : Nat → Nat) (j : Nat) : mid d j j = d j := by unfold mid; rw [if_neg (by omega)]
theorem mid_zero (d : Nat → Nat) (i : Nat) : d i = mid d 0 i := by unfold mid; rw [if_neg (by omega)]
theorem mid_succ (d : Nat → Nat) (j i : Nat) : (if i = j then (d j + cc d j) % 67108864 else if i = j then d j + cc d j else mid d j i) = mid d (j + 1) i := by
  unfold mid
  by_cases h : i = j
  · subst h; rw [if_pos rfl, if_pos (Nat.lt_succ_self _)]
  · rw [if_neg h, if_neg h]
    by_cases h2 : i < j
    · rw [if_pos h2, if_pos (by omega)]
    · rw [if_neg h2, if_neg (by omega)]
theorem mid_end (d : Nat → Nat) (i : Nat) (h : i < 5) : (if i = 0 then mid d 5 0 + 5 * cc d 5 else mid d 5 i) = carS d i := by
  unfold mid carS
  by_cases h0 : i = 0
  · subst h0; rw [if_pos rfl, if_pos (by decide), if_pos rfl]
  · rw [if_neg h0, if_pos h, if_neg h0, Nat.add_zero]
theorem mask26 (x : Nat) (hx : x < 18446744073709551616) : bits .and .u64 (x : Int) 67108863 = ((x % 67108864 : Nat) : Int) := by
  have h := u64_and_nat x 67108863 hx (by decide)
  rw [show 67108863 = 2 ^ 26 - 1 from rfl, Nat.and_two_pow_sub_one_eq_mod] at h
  exact h
/-- A call's boxed limbs, and its result's place. -/
def Mem5 (w u : World) (d : Nat → Nat) : Prop := RQ u w.heap.size d ∧ RQ u (w.heap.size + 1) (fun _ => 0) ∧ Below w.heap.size w u
theorem mem5_new (w : World) (d : Nat → Nat) : Mem5 w ((w.alloc (.cells (lmA d) 56)).alloc (.cells (lmA fun _ => 0) 56)) d := by
  have h := RQ.new (w.alloc (.cells (lmA d) 56)) (fun _ => 0)
  rw [show (w.alloc (.cells (lmA d) 56)).heap.size = w.heap.size + 1 by simp] at h
  exact ⟨World.rowIs.alloc (RQ.new w d) _, h, ((Below.refl _ _).alloc (Nat.le_refl _) _).alloc (by simp) _⟩
theorem Mem5.set {w u : World} {d : Nat → Nat} (h : Mem5 w u d) (j v : Nat) : Mem5 w (u.setCell ⟨w.heap.size, j, none⟩ (.int .u64 v)) (fun i => if i = j then v else d i) :=
  ⟨h.1.set j v, h.2.1.other (by simp) _, h.2.2.setCell (Nat.le_refl _) _⟩
theorem Mem5.congr {w u : World} {d e : Nat → Nat} (h : Mem5 w u d) (he : ∀ i, i < 5 → d i = e i) : Mem5 w u e := ⟨h.1.congr he, h.2⟩
set_option maxHeartbeats 2000000 in
theorem carried_any (d : Nat → Nat) (w : World) (hd : ∀ i, d i < 1152921504606846976) :
    Calls Try.prog 50 #[.agg (lmA d)] w fun e w' => e = .returned (.agg (lmA (carS d))) ∧ Below w.heap.size w w' := by
  have HD := Lib.hid hd
  clear hd
  go_enter Try.func50, Try.ntmps50
  go_upto_region 0 with (fail)
  apply wp_region_lit
  refine wpList_box_to rfl 56 _ rfl (lmA d) rfl w.heap.size rfl ?_
  refine wpList_alloc_to rfl 56 rfl (lmA fun _ => 0) (w.heap.size + 1) (by simp) alloc5 ?_
  have HM := Lib.hid (mem5_new w d)
  generalize (w.alloc (.cells (lmA d) 56)).alloc (.cells (lmA fun _ => 0) 56) = w1 at HM ⊢
  go_wp2_with (fail)
  go_loopw [3, 4] (fun c i wx => ∃ j : Nat, Hid (j ≤ 5) ∧ i = .int .i64 j ∧ c = .int .u64 (cc d j : Nat) ∧ Hid (Mem5 w wx (mid d j))) (fun _ i _ => 5 - (intOf i).toNat)
  case atStart => exact ⟨0, Nat.zero_le _, rfl, rfl, HM.out.congr fun i _ => mid_zero d i⟩
  case round =>
    clear HM
    obtain ⟨j, hj, rfl, rfl, HM⟩ := hrel
    by_cases hlt : j < 5
    · have jl : ((j : Int) < 5) = True := eq_true (by omega)
      have jl' : (j : Int) < 5 := by omega
      have xc := HM.out.1.at_ j (d j) hlt (mid_at _ _)
      have xf := World.rowIs.frozen HM.out.1 j
      have HJ := Lib.hid hlt
      have l1 := HD.out j
      have l2 := cc_lt HD.out j
      have HC : Hid ((d j + cc d j) / 67108864 = cc d (j + 1)) := rfl
      have HS := Lib.hid (mid_succ d j)
      generalize cc d j = c at l2 HC HS ⊢
      generalize d j = x at xc l1 HC HS
      have m1 := mask26 (x + c) (by omega)
      clear hlt
      go_wp2_with (fail)
      rw [show ((x : Int) + (c : Int)) = ((x + c : Nat) : Int) by omega, m1]
      refine ⟨⟨j + 1, HJ.out, by go_num, ?_, ?_⟩, Lw.meas 5 j HJ.out⟩
      · rw [← HC.out]; rfl
      · exact ((HM.out.set j (x + c)).set j ((x + c) % 67108864)).congr fun i _ => HS.out i
    · have jl : ((j : Int) < 5) = False := eq_false (by omega)
      obtain rfl : j = 5 := by have := hj.out; omega
      rw [show ((5 : Nat) : Int) = 5 from rfl]
      clear hlt jl hj
      have xc := HM.out.1.at_ 0 (mid d 5 0) (by decide) rfl
      have xf := World.rowIs.frozen HM.out.1 0
      have l1 : mid d 5 0 < 67108864 := by unfold mid; rw [if_pos (by decide)]; exact Nat.mod_lt _ (by decide)
      have l2 := cc_lt HD.out 5
      have HE := Lib.hid (mid_end d)
      generalize cc d 5 = c at l2 HE ⊢
      generalize hx : mid d 5 0 = x at xc l1 HE
      have HX := Lib.hid hx
      clear hx
      go_upto_region 9 with (fail)
      rw [show (x : Int) + 5 * (c : Int) = ((x + 5 * c : Nat) : Int) by omega]
      have HM2 : Hid (Mem5 w (wr.setCell ⟨w.heap.size, 0, none⟩ (.int .u64 ((x + 5 * c : Nat) : Int))) (carS d)) := (HM.out.set 0 (x + 5 * c)).congr fun i hi => HE.out i hi
      clear xc xf HM
      generalize wr.setCell ⟨w.heap.size, 0, none⟩ (.int .u64 ((x + 5 * c : Nat) : Int)) = w3 at HM2 ⊢
      have HN := Lib.hid HM2.out.1.heap
      have HO := Lib.hid HM2.out.2.1.heap
      generalize hA : lmA (carS d) = A at HN
      apply wp_region_lit
      refine wpList_load_row rfl 56 _ rfl w.heap.size (by kernel_rfl) 56 A (0, 0) _ HN.out Try.underlying56 rfl (by rw [← hA]; kernel_rfl) ?_
      refine wpList_store_row rfl 56 _ _ rfl (w.heap.size + 1) A (by kernel_rfl) (by kernel_rfl) 56 _ HO.out (by rw [← hA]; kernel_rfl) (by rw [← hA, lmA_size, lmA_size]) (by rw [← hA]; exact lmA_one _) ?_
      simp only [Act.put, List.setIfInBounds_toArray, List.set_cons_zero, List.set_cons_succ]
      go_wp2_with (fail)
      refine bodyPost_ret (v := .agg A) ?_ rfl ?_
      · exact results_cell_row (fn := Try.f50) Try.results50 _ _ (w.heap.size + 1) 56 _ (0, 0) _ rfl (setRow_heap _ _ _ _ _ _ HO.out) Try.underlying56 rfl (by rw [← hA]; kernel_rfl)
      · exact ⟨by rw [hA], below_setRow HM2.out.2.2 (by omega) _⟩
end Go.Proofs.Pol
