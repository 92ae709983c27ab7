/-
  The developers' aes: a round's keys added to the state.
-/
import Derived.Test.YtljhenjbjondkaaJoav
import Derived.Laws.CopyOwn
import Derived.Test.YtljhenjbjondkaaJoaf
namespace Go.Proofs.Ae
open Go.RowKit
open Go.Proofs.Aes
open Go.Proofs.Im (wpList_box_to words_heap words_one run_index_row)
open Go.Proofs.Sha (wordCells wordCells_get wordCells_size rowIs_of wpList_alloc_to)
/-- A state as a value: four words. -/
def stL (X : Nat → Nat) : List Nat := [X 0, X 1, X 2, X 3]
def stA (X : Nat → Nat) : Array Value := wordCells .u32 (stL X)
theorem lt4 {P : Nat → Prop} (h0 : P 0) (h1 : P 1) (h2 : P 2) (h3 : P 3) (i : Nat) (hi : i < 4) : P i := by
  match i, hi with
  | 0, _ => exact h0
  | 1, _ => exact h1
  | 2, _ => exact h2
  | 3, _ => exact h3
theorem stA_get (X : Nat → Nat) (i : Nat) (hi : i < 4) : (stA X)[i]? = some (.int .u32 (X i : Nat)) := lt4 (P := fun i => (stA X)[i]? = some (.int .u32 (X i : Nat))) rfl rfl rfl rfl i hi
theorem stA_congr {X Y : Nat → Nat} (h : ∀ i, i < 4 → X i = Y i) : stA X = stA Y := by
  unfold stA stL; rw [h 0 (by decide), h 1 (by decide), h 2 (by decide), h 3 (by decide)]
theorem stA_one (X : Nat → Nat) : (stA X).all (·.oneCell') = true := words_one _ _
/-- A state in memory. -/
def RS (w : World) (g : Nat) (X : Nat → Nat) : Prop := w.rowIs g 103 4 (fun i => .int .u32 (X i : Nat))
theorem RS.set {w : World} {g : Nat} {X : Nat → Nat} (h : RS w g X) (j v : Nat) : RS (w.setCell ⟨g, j, none⟩ (.int .u32 v)) g (fun i => if i = j then v else X i) :=
  World.rowIs.congr (World.rowIs.set h j (.int .u32 v)) fun i _ => by simp only []; split <;> rfl
theorem RS.congr {w : World} {g : Nat} {X Y : Nat → Nat} (h : RS w g X) (e : ∀ i, i < 4 → X i = Y i) : RS w g Y := World.rowIs.congr h fun i hi => by rw [e i hi]
theorem RS.drew {w : World} {g : Nat} {X : Nat → Nat} (h : RS w g X) : RS w.drew g X := World.rowIs.drew h
theorem RS.drewN {w : World} {g : Nat} {X : Nat → Nat} (h : RS w g X) (q : Nat) : RS (w.drewN q) g X := h
theorem RS.heap {w : World} {g : Nat} {X : Nat → Nat} (h : RS w g X) : w.heap[g]? = some (.cells (stA X) 103 (0, 0)) := words_heap h (stL X) rfl (lt4 rfl rfl rfl rfl)
theorem RS.new (w : World) (X : Nat → Nat) : RS (w.alloc (.cells (stA X) 103)) w.heap.size X := rowIs_of w (stA X) 103 4 _ rfl (stA_get X)
theorem RS.at_ {w : World} {g : Nat} {X : Nat → Nat} (h : RS w g X) (i v : Nat) (hi : i < 4) (e : X i = v) : w.cell? ⟨g, i, none⟩ = some (.int .u32 (v : Nat)) := by rw [World.rowIs.cell h hi, e]
theorem RS.other {w : World} {g : Nat} {X : Nat → Nat} (h : RS w g X) {a : Addr} (ha : g ≠ a.block) (v : Value) : RS (w.setCell a v) g X := World.rowIs.setOther h ha v
theorem alloc4 (w : World) : (Instr.alloc 103 true (.tuple #[])).run Try.prog w = .ok (.pointer (some ⟨w.heap.size, 0, none⟩)) (w.alloc (.cells (stA fun _ => 0) 103)) := by kernel_rfl
theorem below_drewN {B : Nat} {w u : World} (h : Below B w u) (q : Nat) : Below B w (u.drewN q) := ⟨h.os, h.tape, h.output, h.size, h.block⟩
/-- A call's boxed state, and its result's place. -/
def Mem2 (w u : World) (X : Nat → Nat) : Prop := RS u w.heap.size X ∧ RS u (w.heap.size + 1) (fun _ => 0) ∧ Below w.heap.size w u
theorem mem2_new (w : World) (X : Nat → Nat) : Mem2 w ((w.alloc (.cells (stA X) 103)).alloc (.cells (stA fun _ => 0) 103)) X := by
  have h := RS.new (w.alloc (.cells (stA X) 103)) (fun _ => 0)
  rw [show (w.alloc (.cells (stA X) 103)).heap.size = w.heap.size + 1 by simp] at h
  exact ⟨World.rowIs.alloc (RS.new w X) _, h, ((Below.refl _ _).alloc (Nat.le_refl _) _).alloc (by simp) _⟩
theorem Mem2.set {w u : World} {X : Nat → Nat} (h : Mem2 w u X) (j v : Nat) : Mem2 w (u.setCell ⟨w.heap.size, j, none⟩ (.int .u32 v)) (fun i => if i = j then v else X i) :=
  ⟨h.1.set j v, h.2.1.other (by simp) _, h.2.2.setCell (Nat.le_refl _) _⟩
theorem Mem2.drew {w u : World} {X : Nat → Nat} (h : Mem2 w u X) : Mem2 w u.drew X := ⟨h.1.drew, h.2.1.drew, h.2.2.drew⟩
theorem Mem2.drewN {w u : World} {X : Nat → Nat} (h : Mem2 w u X) (q : Nat) : Mem2 w (u.drewN q) X := ⟨h.1.drewN q, h.2.1.drewN q, below_drewN h.2.2 q⟩
theorem Mem2.congr {w u : World} {X Y : Nat → Nat} (h : Mem2 w u X) (e : ∀ i, i < 4 → X i = Y i) : Mem2 w u Y := ⟨h.1.congr e, h.2⟩
theorem meas (K j : Nat) (h : j < K) : K - (intOf (.int .i64 ((j : Int) + 1))).toNat < K - (intOf (.int .i64 (j : Int))).toNat := by
  show K - ((j : Int) + 1).toNat < K - (j : Int).toNat
  omega
/-- The first j words are the new ones. -/
def upTo (X Y : Nat → Nat) (j : Nat) : Nat → Nat := fun i => if i < j then Y i else X i
theorem upTo_zero (X Y : Nat → Nat) (i : Nat) : X i = upTo X Y 0 i := by unfold upTo; rw [if_neg (by omega)]
theorem upTo_at (X Y : Nat → Nat) (j : Nat) : upTo X Y j j = X j := by unfold upTo; rw [if_neg (by omega)]
theorem upTo_succ (X Y : Nat → Nat) (j i : Nat) : (if i = j then Y j else upTo X Y j i) = upTo X Y (j + 1) i := by
  unfold upTo
  by_cases h : i = j
  · subst h; rw [if_pos rfl, if_pos (Nat.lt_succ_self _)]
  · rw [if_neg h]
    by_cases h2 : i < j
    · rw [if_pos h2, if_pos (by omega)]
    · rw [if_neg h2, if_neg (by omega)]
theorem upTo_all (X Y : Nat → Nat) (i : Nat) (hi : i < 4) : upTo X Y 4 i = Y i := by unfold upTo; rw [if_pos hi]
/-- A round's keys added. -/
def keyN (K X : Nat → Nat) (r : Nat) : Nat → Nat := fun i => X i ^^^ K (4 * r + i)
set_option maxRecDepth 20000 in
set_option maxHeartbeats 2000000 in
theorem withKeys_any (X K : Nat → Nat) (g n r : Nat) (w : World) (h : Ciph w g K n) (hr : r ≤ 14) (hX : ∀ i, X i < 4294967296) (hK : ∀ i, K i < 4294967296) :
    Calls Try.prog 69 #[.pointer (some ⟨g, 0, none⟩), .agg (stA X), .int .i64 r] w fun e w' => e = .returned (.agg (stA (keyN K X r))) ∧ Below w.heap.size w w' := by
  have HC := Lib.hid h
  have HR := Lib.hid hr
  have HX := Lib.hid hX
  have HK := Lib.hid hK
  clear h hX hK hr
  go_enter Try.func69, Try.ntmps69
  go_upto_region 0 with (fail)
  apply wp_region_lit
  refine wpList_box_to rfl 103 _ rfl (stA X) rfl w.heap.size rfl ?_
  refine wpList_alloc_to rfl 103 rfl (stA fun _ => 0) (w.heap.size + 1) (by simp) alloc4 ?_
  have HM := Lib.hid (mem2_new w X)
  generalize (w.alloc (.cells (stA X) 103)).alloc (.cells (stA fun _ => 0) 103) = w1 at HM ⊢
  go_wp2_with (fail)
  go_loopw [8] (fun i wx => ∃ j : Nat, Hid (j ≤ 4) ∧ i = .int .i64 j ∧ Hid (Mem2 w wx (upTo X (keyN K X r) j))) (fun i _ => 4 - (intOf i).toNat)
  case atStart => exact ⟨0, Nat.zero_le 4, rfl, HM.out.congr fun i _ => upTo_zero _ _ i⟩
  case round =>
    clear HM
    obtain ⟨j, hj, rfl, HM⟩ := hrel
    by_cases hlt : j < 4
    · have jl : ((j : Int) < 4) = True := eq_true (by omega)
      have jl' : (j : Int) < 4 := by omega
      have xc := HM.out.1.at_ j (X j) hlt (upTo_at _ _ _)
      have xf := World.rowIs.frozen HM.out.1 j
      have kc := (HC.out.below HM.out.2.2 HC.out.lt).key (4 * r + j) (by have := HR.out; omega)
      have i0 : 4 * (r : Int) + (j : Int) < 60 := by have := HR.out; omega
      have x0 : IntKind.i64.wrap (4 * (r : Int)) = 4 * (r : Int) := IntWalk.i64_in _ (by have := HR.out; omega)
      have x1 : IntKind.i64.wrap (4 * (r : Int) + (j : Int)) = 4 * (r : Int) + (j : Int) := IntWalk.i64_in _ (by have := HR.out; omega)
      have i1 : (0 : Int) ≤ 4 * (r : Int) + (j : Int) := by omega
      have t1 : (4 * (r : Int) + (j : Int)).toNat = 4 * r + j := by omega
      have ox := u32_xor_nat (X j) (K (4 * r + j)) (HX.out _) (HK.out _)
      have HJ := Lib.hid hlt
      clear hlt
      go_wp2_with (fail)
      refine wp_region_still_tail 14 (by kernel_rfl) (by kernel_rfl) ?_
      simp only [List.take_succ_cons, List.take_zero, List.drop_succ_cons, List.drop_zero]
      repeat still_step
      try refine wpStill_nil ?_
      change wpList _ _ _ _ _ wr.drew
      go_wp2_with (fail)
      exact ⟨⟨j + 1, HJ.out, by go_num, (HM.out.set j (keyN K X r j)).drew.congr fun i _ => upTo_succ _ _ j i⟩, meas 4 j HJ.out⟩
    · have jl : ((j : Int) < 4) = False := eq_false (by omega)
      obtain rfl : j = 4 := by have := hj.out; omega
      have HM : Hid (Mem2 w wr (keyN K X r)) := HM.out.congr fun i hi => upTo_all _ _ i hi
      have HN := Lib.hid HM.out.1.heap
      have HO := Lib.hid HM.out.2.1.heap
      rw [show ((4 : Nat) : Int) = 4 from rfl]
      clear hlt jl hj
      go_upto_region 6 with (fail)
      apply wp_region_lit
      refine wpList_load_row rfl 103 _ rfl w.heap.size rfl 103 (stA (keyN K X r)) (0, 0) _ HN.out Try.underlying103 rfl (by kernel_rfl) ?_
      refine wpList_store_row rfl 103 _ _ rfl (w.heap.size + 1) (stA (keyN K X r)) rfl rfl 103 _ HO.out (by kernel_rfl) rfl (stA_one _) ?_
      go_wp2_with (fail)
      refine bodyPost_ret (v := .agg (stA (keyN K X r))) ?_ rfl ?_
      · exact results_cell_row (fn := Try.f69) Try.results69 _ _ (w.heap.size + 1) 103 _ (0, 0) _ rfl (setRow_heap _ _ _ _ _ _ HO.out) Try.underlying103 rfl (by kernel_rfl)
      · exact ⟨rfl, below_setRow HM.out.2.2 (by omega) _⟩
end Go.Proofs.Ae
/-
  The developers' aes: the state's columns mixed.
-/
namespace Go.Proofs.Ae
open Go.RowKit
open Go.Proofs.Aes
open Go.Proofs.Im (wpList_box_to words_heap words_one run_index_row)
open Go.Proofs.Sha (wordCells wordCells_get wordCells_size rowIs_of wpList_alloc_to)
theorem xor32_lt {a b : Nat} (ha : a < 4294967296) (hb : b < 4294967296) : a ^^^ b < 4294967296 := Nat.xor_lt_two_pow (n := 32) ha hb
def mixW (X : Nat → Nat) : Nat → Nat := fun i => mixN (X i)
/-- A word turned to the left. -/
def r8 (x : Nat) : Nat := (x * 256 % 4294967296) ||| (x / 16777216)
def r16 (x : Nat) : Nat := (x * 65536 % 4294967296) ||| (x / 65536)
def r24 (x : Nat) : Nat := (x * 16777216 % 4294967296) ||| (x / 256)
theorem or32_lt {a b : Nat} (ha : a < 4294967296) (hb : b < 4294967296) : a ||| b < 4294967296 := Nat.or_lt_two_pow (n := 32) ha hb
theorem r8_lt (x : Nat) (h : x < 4294967296) : r8 x < 4294967296 := or32_lt (Nat.mod_lt _ (by decide)) (by omega)
theorem r16_lt (x : Nat) (h : x < 4294967296) : r16 x < 4294967296 := or32_lt (Nat.mod_lt _ (by decide)) (by omega)
theorem r24_lt (x : Nat) (h : x < 4294967296) : r24 x < 4294967296 := or32_lt (Nat.mod_lt _ (by decide)) (by omega)
theorem rol_8 (x : Nat) (w : World) (hx : x < 4294967296) : Calls Try.prog 66 #[.int .u32 x, .int .i64 8] w fun e w' => e = .returned (.int .u32 (r8 x : Nat)) ∧ w' = w := rotl_8 x w hx
theorem rol_16 (x : Nat) (w : World) (hx : x < 4294967296) : Calls Try.prog 66 #[.int .u32 x, .int .i64 16] w fun e w' => e = .returned (.int .u32 (r16 x : Nat)) ∧ w' = w := rotl_16 x w hx
theorem rol_24 (x : Nat) (w : World) (hx : x < 4294967296) : Calls Try.prog 66 #[.int .u32 x, .int .i64 24] w fun e w' => e = .returned (.int .u32 (r24 x : Nat)) ∧ w' = w := rotl_24 x w hx
theorem mixN_eq (x : Nat) : mixN x = dblN (x ^^^ r8 x) ^^^ r8 x ^^^ r16 x ^^^ r24 x := rfl
set_option maxHeartbeats 2000000 in
theorem mixed_any (X : Nat → Nat) (w : World) (hX : ∀ i, X i < 4294967296) :
    Calls Try.prog 70 #[.agg (stA X)] w fun e w' => e = .returned (.agg (stA (mixW X))) ∧ Below w.heap.size w w' := by
  have HX := Lib.hid hX
  clear hX
  go_enter Try.func70, Try.ntmps70
  go_upto_region 0 with (fail)
  apply wp_region_lit
  refine wpList_box_to rfl 103 _ rfl (stA X) rfl w.heap.size rfl ?_
  refine wpList_alloc_to rfl 103 rfl (stA fun _ => 0) (w.heap.size + 1) (by simp) alloc4 ?_
  have HM := Lib.hid (mem2_new w X)
  generalize (w.alloc (.cells (stA X) 103)).alloc (.cells (stA fun _ => 0) 103) = w1 at HM ⊢
  have HN := Lib.hid HM.out.1.heap
  go_upto_region 1 with (fail)
  apply wp_region_lit
  refine wpList_load_row rfl 103 _ rfl w.heap.size rfl 103 (stA X) (0, 0) _ HN.out Try.underlying103 rfl (by kernel_rfl) ?_
  clear HN
  go_wp2_with (fail)
  go_loopw [7] (fun i wx => ∃ j : Nat, Hid (j ≤ 4) ∧ i = .int .i64 j ∧ Hid (Mem2 w wx (upTo X (mixW X) j))) (fun i _ => 4 - (intOf i).toNat)
  case atStart => exact ⟨0, Nat.zero_le 4, rfl, HM.out.congr fun i _ => upTo_zero _ _ i⟩
  case round =>
    clear HM
    obtain ⟨j, hj, rfl, HM⟩ := hrel
    by_cases hlt : j < 4
    · have jl : ((j : Int) < 4) = True := eq_true (by omega)
      have jl' : (j : Int) < 4 := by omega
      have xc := HM.out.1.at_ j (X j) hlt (upTo_at _ _ _)
      have xf := World.rowIs.frozen HM.out.1 j
      have hix := fun W => run_index_row (P := Try.prog) W 103 81 4 (stA X) .i64 j (.int .u32 (X j : Nat)) Try.underlying103 (by kernel_rfl) _ Try.underlying81 rfl hlt (stA_get X j hlt)
      have HJ := Lib.hid hlt
      have HL := Lib.hid (HX.out j)
      clear hlt
      have H8 := Lib.hid (r8_lt _ HL.out)
      have o1 := u32_xor_nat (X j) (r8 (X j)) HL.out H8.out
      have HD := Lib.hid (xor32_lt HL.out H8.out)
      have o2 := u32_xor_nat (dblN (X j ^^^ r8 (X j))) (r8 (X j)) (dblN_lt _) H8.out
      have o3 := u32_xor_nat (dblN (X j ^^^ r8 (X j)) ^^^ r8 (X j)) (r16 (X j)) (xor32_lt (dblN_lt _) H8.out) (r16_lt _ HL.out)
      have o4 := u32_xor_nat (dblN (X j ^^^ r8 (X j)) ^^^ r8 (X j) ^^^ r16 (X j)) (r24 (X j)) (xor32_lt (xor32_lt (dblN_lt _) H8.out) (r16_lt _ HL.out)) (r24_lt _ HL.out)
      go_wp2_with (first
        | (go_at_call_of 66 (Value.int IntKind.i64 8); refine (rol_8 (X j) _ HL.out).mono ?_; rintro e u ⟨rfl, rfl⟩)
        | (go_at_call_of 66 (Value.int IntKind.i64 16); refine (rol_16 (X j) _ HL.out).mono ?_; rintro e u ⟨rfl, rfl⟩)
        | (go_at_call_of 66 (Value.int IntKind.i64 24); refine (rol_24 (X j) _ HL.out).mono ?_; rintro e u ⟨rfl, rfl⟩)
        | (go_at_call 68; refine (doubled_any _ _ HD.out).mono ?_; rintro e u ⟨rfl, rfl⟩))
      exact ⟨⟨j + 1, HJ.out, by go_num, (HM.out.set j (mixW X j)).congr fun i _ => upTo_succ _ _ j i⟩, meas 4 j HJ.out⟩
    · have jl : ((j : Int) < 4) = False := eq_false (by omega)
      obtain rfl : j = 4 := by have := hj.out; omega
      have HM : Hid (Mem2 w wr (mixW X)) := HM.out.congr fun i hi => upTo_all _ _ i hi
      have HN := Lib.hid HM.out.1.heap
      have HO := Lib.hid HM.out.2.1.heap
      rw [show ((4 : Nat) : Int) = 4 from rfl]
      clear hlt jl hj
      go_upto_region 7 with (fail)
      apply wp_region_lit
      refine wpList_load_row rfl 103 _ rfl w.heap.size rfl 103 (stA (mixW X)) (0, 0) _ HN.out Try.underlying103 rfl (by kernel_rfl) ?_
      refine wpList_store_row rfl 103 _ _ rfl (w.heap.size + 1) (stA (mixW X)) rfl rfl 103 _ HO.out (by kernel_rfl) rfl (stA_one _) ?_
      go_wp2_with (fail)
      refine bodyPost_ret (v := .agg (stA (mixW X))) ?_ rfl ?_
      · exact results_cell_row (fn := Try.f70) Try.results70 _ _ (w.heap.size + 1) 103 _ (0, 0) _ rfl (setRow_heap _ _ _ _ _ _ HO.out) Try.underlying103 rfl (by kernel_rfl)
      · exact ⟨rfl, below_setRow HM.out.2.2 (by omega) _⟩
end Go.Proofs.Ae
/-
  The developers' aes: the state substituted and shifted.
-/
namespace Go.Proofs.Ae
open Go.RowKit
open Go.Proofs.Aes
open Go.Proofs.Im (wpList_box_to words_heap words_one run_index_row wp_region_quiet_tail)
open Go.Proofs.Sha (wordCells wordCells_get wordCells_size rowIs_of wpList_alloc_to)
def subW (X : Nat → Nat) : Nat → Nat := fun i => colN (X i) (X ((i + 1) % 4)) (X ((i + 2) % 4)) (X ((i + 3) % 4))
set_option maxHeartbeats 2000000 in
theorem shifted_any (X K : Nat → Nat) (g n : Nat) (w : World) (h : Ciph w g K n) (hX : ∀ i, X i < 4294967296) :
    Calls Try.prog 71 #[.pointer (some ⟨g, 0, none⟩), .agg (stA X)] w fun e w' => e = .returned (.agg (stA (subW X))) ∧ Below w.heap.size w w' := by
  have HC := Lib.hid h
  have HX := Lib.hid hX
  clear h hX
  go_enter Try.func71, Try.ntmps71
  go_upto_region 0 with (fail)
  apply wp_region_lit
  refine wpList_box_to rfl 103 _ rfl (stA X) rfl w.heap.size rfl ?_
  refine wpList_alloc_to rfl 103 rfl (stA fun _ => 0) (w.heap.size + 1) (by simp) alloc4 ?_
  have HM := Lib.hid (mem2_new w X)
  generalize (w.alloc (.cells (stA X) 103)).alloc (.cells (stA fun _ => 0) 103) = w1 at HM ⊢
  have HO := Lib.hid HM.out.2.1.heap
  have HC1 := Lib.hid (HC.out.below HM.out.2.2 HC.out.lt)
  have c0 := HM.out.1.at_ 0 (X 0) (by decide) rfl
  have c1 := HM.out.1.at_ 1 (X 1) (by decide) rfl
  have c2 := HM.out.1.at_ 2 (X 2) (by decide) rfl
  have c3 := HM.out.1.at_ 3 (X 3) (by decide) rfl
  go_upto_region 1 with (fail)
  refine wp_region_quiet_tail 41 (by kernel_rfl) (by kernel_rfl) ?_
  simp only [List.take_succ_cons, List.take_zero, List.drop_succ_cons, List.drop_zero, Act.put, List.setIfInBounds_toArray, List.set_cons_zero, List.set_cons_succ]
  repeat (go_big_quiet_step ((go_at_call 67; exact Calls.quiet_of (column_any _ _ _ _ g K n _ (HC1.out.drewN _) (HX.out _) (HX.out _) (HX.out _) (HX.out _)))))
  refine wpQuiet_nil ?_
  intro nq
  have HM := Lib.hid (HM.out.drewN nq)
  have HO := Lib.hid HM.out.2.1.heap
  clear c0 c1 c2 c3 HC1
  generalize w1.drewN nq = w2 at HM HO ⊢
  refine wpList_store_row rfl 103 _ _ rfl (w.heap.size + 1) (stA (subW X)) rfl rfl 103 _ HO.out (by kernel_rfl) rfl (stA_one _) ?_
  go_wp2_with (fail)
  refine bodyPost_ret (v := .agg (stA (subW X))) ?_ rfl ?_
  · exact results_cell_row (fn := Try.f71) Try.results71 _ _ (w.heap.size + 1) 103 _ (0, 0) _ rfl (setRow_heap _ _ _ _ _ _ HO.out) Try.underlying103 rfl (by kernel_rfl)
  · exact ⟨rfl, below_setRow HM.out.2.2 (by omega) _⟩
end Go.Proofs.Ae
