/-
  The document's own answer: ChaCha20's quarter of a round.
-/
import Derived.Test.YtljhenjbjondkaaGreatJoaf
import Derived.Test.YtljhenjbjondkaaGreatJoaa
import Derived.Test.YtljhenjbjondkaaGreatJoab
import Derived.Deep.OwnRows
import Derived.Deep.DeepCutAuto
import Derived.StillTailTactics
import Derived.WalkSmall
import Derived.Laws.Tables
import Derived.Laws.CopyOwn
import Derived.Deep.WholeRow
namespace Go.Proofs.Cha
open Go.RowKit
open Go.Proofs.Im (wp_region_quiet_tail)
open Go.Proofs.Im (wpList_box_to)
open Go.Proofs.Sha (rowIs_of wpList_alloc_to)
/-- Sixteen words, one of them another one. -/
def put (X : Nat → Nat) (i v : Nat) : Nat → Nat := fun t => if t = i then v else X t
def add32 (x y : Nat) : Nat := (x + y) % 4294967296
def q1 (X : Nat → Nat) (a b : Nat) : Nat → Nat := put X a (add32 (X a) (X b))
def q2 (X : Nat → Nat) (d a k : Nat) : Nat → Nat := put X d (rol k (X d ^^^ X a))
def quart (X : Nat → Nat) (a b c d : Nat) : Nat → Nat :=
  let Y := q2 (q1 (q2 (q1 X a b) d a 16) c d) b c 12
  q2 (q1 (q2 (q1 Y a b) d a 8) c d) b c 7
theorem cells_one {c : Array Value} {n : Nat} {f : Nat → Value} (hn : c.size = n) (hc : ∀ i, i < n → c[i]? = some (f i)) (hf : ∀ i, (f i).oneCell' = true) : c.all (·.oneCell') = true := by
  rw [Array.all_eq_true]
  intro i hi
  have := hc i (by omega)
  rw [Array.getElem?_eq_getElem hi] at this
  rw [Option.some.inj this]; exact hf i
def Lt (X : Nat → Nat) : Prop := ∀ t, X t < 4294967296
theorem put_lt {X : Nat → Nat} (h : Lt X) {v : Nat} (hv : v < 4294967296) (i : Nat) : Lt (put X i v) := fun t => by unfold put; split; exact hv; exact h t
theorem q1_lt {X : Nat → Nat} (h : Lt X) (a b : Nat) : Lt (q1 X a b) := put_lt h (Nat.mod_lt _ (by decide)) a
theorem q2_lt {X : Nat → Nat} (h : Lt X) (d a k : Nat) : Lt (q2 X d a k) := put_lt h (rol_lt _ _ (xor32_lt (h _) (h _))) d
/-- A row of sixteen words. -/
def RW (w : World) (g : Nat) (X : Nat → Nat) : Prop := w.rowIs g 98 16 (fun i => .int .u32 (X i : Nat))
theorem RW.set {w : World} {g : Nat} {X : Nat → Nat} (h : RW w g X) (j v : Nat) : RW (w.setCell ⟨g, j, none⟩ (.int .u32 v)) g (put X j v) :=
  World.rowIs.congr (World.rowIs.set h j (.int .u32 v)) fun i _ => by simp only [put]; split <;> rfl
theorem RW.drewN {w : World} {g : Nat} {X : Nat → Nat} (h : RW w g X) (q : Nat) : RW (w.drewN q) g X := h
theorem below_drewN {B : Nat} {w u : World} (h : Below B w u) (q : Nat) : Below B w (u.drewN q) := ⟨h.os, h.tape, h.output, h.size, h.block⟩
def Z16 : Array Value := (List.replicate 16 (Value.int .u32 0)).toArray
theorem alloc16 (w : World) : (Instr.alloc 98 true (.tuple #[])).run Tryz.prog w = .ok (.pointer (some ⟨w.heap.size, 0, none⟩)) (w.alloc (.cells Z16 98)) := by kernel_rfl
set_option maxHeartbeats 4000000 in
set_option maxRecDepth 10000 in
theorem quarter_any (C : Array Value) (X : Nat → Nat) (a b c d : Nat) (w : World) (hC : C.size = 16) (hX : ∀ i, i < 16 → C[i]? = some (.int .u32 (X i : Nat))) (hL : Lt X) (ha : a < 4) (hb1 : 4 ≤ b) (hb : b < 8) (hc1 : 8 ≤ c) (hc : c < 12) (hd1 : 12 ≤ d) (hd : d < 16) :
    Calls Tryz.prog 84 #[.agg C, .int .i64 a, .int .i64 b, .int .i64 c, .int .i64 d] w fun e w' => ∃ C', e = .returned (.agg C') ∧ C'.size = 16 ∧ (∀ i, i < 16 → C'[i]? = some (.int .u32 (quart X a b c d i : Nat))) ∧ Below w.heap.size w w' := by
  have HC := Lib.hid hC
  have HX := Lib.hid hX
  have HL := Lib.hid hL
  clear hX hL
  go_enter Tryz.func84, Tryz.ntmps84
  go_upto_region 0 with (fail)
  apply wp_region_lit
  refine wpList_box_to rfl 98 _ rfl C (by kernel_rfl) w.heap.size rfl ?_
  refine wpList_alloc_to rfl 98 rfl Z16 (w.alloc (.cells C 98)).heap.size rfl alloc16 ?_
  simp only [Act.put, List.setIfInBounds_toArray, List.set_cons_zero, List.set_cons_succ]
  have HR0 : Hid (RW ((w.alloc (.cells C 98)).alloc (.cells Z16 98)) w.heap.size X) := World.rowIs.alloc (rowIs_of w C 98 16 _ HC.out HX.out) _
  have HB0 : Hid (Below w.heap.size w ((w.alloc (.cells C 98)).alloc (.cells Z16 98))) := ((Below.refl _ _).alloc (Nat.le_refl _) _).alloc (by simp) _
  have HZ0 : Hid (((w.alloc (.cells C 98)).alloc (.cells Z16 98)).heap[(w.alloc (.cells C 98)).heap.size]? = some (.cells Z16 98 (0, 0))) := heap_alloc_new _ _
  have HG : Hid ((w.alloc (.cells C 98)).heap.size = w.heap.size + 1) := by show (w.alloc _).heap.size = _; simp
  generalize (w.alloc (.cells C 98)).alloc (.cells Z16 98) = w1 at HR0 HB0 HZ0 ⊢
  generalize (w.alloc (.cells C 98)).heap.size = gr at HZ0 HG ⊢
  clear HC HX
  go_wp2_with (fail)
  have la : (a : Int) < 16 := by omega
  have lb : (b : Int) < 16 := by omega
  have lc : (c : Int) < 16 := by omega
  have ld : (d : Int) < 16 := by omega
  have c1 : w1.cell? ⟨w.heap.size, a, none⟩ = some (.int .u32 (X a : Nat)) := World.rowIs.cell HR0.out (i := a) (by omega)
  have c2 : w1.cell? ⟨w.heap.size, b, none⟩ = some (.int .u32 (X b : Nat)) := World.rowIs.cell HR0.out (i := b) (by omega)
  have f1 := World.rowIs.frozen HR0.out a
  have o1 : IntKind.u32.wrap (((X a : Nat) : Int) + ((X b : Nat) : Int)) = ((add32 (X a) (X b) : Nat) : Int) := by show _ % 4294967296 = _; unfold add32; omega
  refine wp_region_quiet_tail 9 (by kernel_rfl) (by kernel_rfl) ?_
  simp only [List.take_succ_cons, List.take_zero, List.drop_succ_cons, List.drop_zero]
  repeat (go_big_quiet_step (fail))
  refine wpQuiet_nil ?_
  intro nq
  have c3 : (w1.drewN nq).cell? ⟨w.heap.size, a, none⟩ = some (.int .u32 (X a : Nat)) := c1
  have f3 : (w1.drewN nq).frozen? ⟨w.heap.size, a, none⟩ = false := f1
  have HR0d : Hid (RW (w1.drewN nq) w.heap.size X) := HR0.out.drewN nq
  have HB0d : Hid (Below w.heap.size w (w1.drewN nq)) := below_drewN HB0.out nq
  have HZ0d : Hid ((w1.drewN nq).heap[gr]? = some (.cells Z16 98 (0, 0))) := HZ0.out
  clear c1 c2 f1
  generalize w1.drewN nq = v1 at c3 f3 HR0d HB0d HZ0d ⊢
  go_upto_region 2 with (fail)
  have HR1 : Hid (RW (v1.setCell ⟨w.heap.size, a, none⟩ (.int .u32 (add32 (X a) (X b) : Nat))) w.heap.size (q1 X a b)) := by
    have h := HR0d.out.set a (add32 (X a) (X b))
    exact h
  have HB1 : Hid (Below w.heap.size w (v1.setCell ⟨w.heap.size, a, none⟩ (.int .u32 (add32 (X a) (X b) : Nat)))) := HB0d.out.setCell (Nat.le_refl _) _
  have HZ1 : Hid ((v1.setCell ⟨w.heap.size, a, none⟩ (.int .u32 (add32 (X a) (X b) : Nat))).heap[gr]? = some (.cells Z16 98 (0, 0))) := (Below.heap_setCell _ _ _ gr (by have := HG.out; simp; omega)).trans HZ0d.out
  have HL1 : Hid (Lt (q1 X a b)) := q1_lt HL.out a b
  clear c3 f3 HR0 HB0 HZ0 HR0d HB0d HZ0d o1
  generalize v1.setCell ⟨w.heap.size, a, none⟩ (.int .u32 (add32 (X a) (X b) : Nat)) = w2 at HR1 HB1 HZ1 ⊢
  generalize hE1 : q1 X a b = X1 at HR1 HL1
  have HE1 := Lib.hid hE1
  clear hE1
  have c1 : w2.cell? ⟨w.heap.size, d, none⟩ = some (.int .u32 (X1 d : Nat)) := World.rowIs.cell HR1.out (i := d) (by omega)
  have c2 : w2.cell? ⟨w.heap.size, a, none⟩ = some (.int .u32 (X1 a : Nat)) := World.rowIs.cell HR1.out (i := a) (by omega)
  have f1 := World.rowIs.frozen HR1.out d
  have o1 := u32_xor_nat (X1 d) (X1 a) (HL1.out d) (HL1.out a)
  have HY := Lib.hid (xor32_lt (HL1.out d) (HL1.out a))
  generalize hYe : X1 d ^^^ X1 a = Y at o1 HY
  have HYe := Lib.hid hYe
  clear hYe
  refine wp_region_quiet_tail 10 (by kernel_rfl) (by kernel_rfl) ?_
  simp only [List.take_succ_cons, List.take_zero, List.drop_succ_cons, List.drop_zero]
  repeat (go_big_quiet_step ((go_at_call 105; exact Calls.quiet_of (left_16 Y _ HY.out))))
  refine wpQuiet_nil ?_
  intro nq
  have c3 : (w2.drewN nq).cell? ⟨w.heap.size, d, none⟩ = some (.int .u32 (X1 d : Nat)) := c1
  have f3 : (w2.drewN nq).frozen? ⟨w.heap.size, d, none⟩ = false := f1
  have HR1d : Hid (RW (w2.drewN nq) w.heap.size X1) := HR1.out.drewN nq
  have HB1d : Hid (Below w.heap.size w (w2.drewN nq)) := below_drewN HB1.out nq
  have HZ1d : Hid ((w2.drewN nq).heap[gr]? = some (.cells Z16 98 (0, 0))) := HZ1.out
  clear c1 c2 f1
  generalize w2.drewN nq = v2 at c3 f3 HR1d HB1d HZ1d ⊢
  go_upto_region 3 with (fail)
  have HR2 : Hid (RW (v2.setCell ⟨w.heap.size, d, none⟩ (.int .u32 (rol 16 Y : Nat))) w.heap.size (q2 X1 d a 16)) := by
    have h := HR1d.out.set d (rol 16 Y)
    rw [← HYe.out] at h ⊢; exact h
  have HB2 : Hid (Below w.heap.size w (v2.setCell ⟨w.heap.size, d, none⟩ (.int .u32 (rol 16 Y : Nat)))) := HB1d.out.setCell (Nat.le_refl _) _
  have HZ2 : Hid ((v2.setCell ⟨w.heap.size, d, none⟩ (.int .u32 (rol 16 Y : Nat))).heap[gr]? = some (.cells Z16 98 (0, 0))) := (Below.heap_setCell _ _ _ gr (by have := HG.out; simp; omega)).trans HZ1d.out
  have HL2 : Hid (Lt (q2 X1 d a 16)) := q2_lt HL1.out d a 16
  clear c3 f3 HR1 HB1 HZ1 HR1d HB1d HZ1d o1
  generalize v2.setCell ⟨w.heap.size, d, none⟩ (.int .u32 (rol 16 Y : Nat)) = w3 at HR2 HB2 HZ2 ⊢
  generalize hE2 : q2 X1 d a 16 = X2 at HR2 HL2
  have HE2 := Lib.hid hE2
  clear hE2
  have c1 : w3.cell? ⟨w.heap.size, c, none⟩ = some (.int .u32 (X2 c : Nat)) := World.rowIs.cell HR2.out (i := c) (by omega)
  have c2 : w3.cell? ⟨w.heap.size, d, none⟩ = some (.int .u32 (X2 d : Nat)) := World.rowIs.cell HR2.out (i := d) (by omega)
  have f1 := World.rowIs.frozen HR2.out c
  have o1 : IntKind.u32.wrap (((X2 c : Nat) : Int) + ((X2 d : Nat) : Int)) = ((add32 (X2 c) (X2 d) : Nat) : Int) := by show _ % 4294967296 = _; unfold add32; omega
  refine wp_region_quiet_tail 9 (by kernel_rfl) (by kernel_rfl) ?_
  simp only [List.take_succ_cons, List.take_zero, List.drop_succ_cons, List.drop_zero]
  repeat (go_big_quiet_step (fail))
  refine wpQuiet_nil ?_
  intro nq
  have c3 : (w3.drewN nq).cell? ⟨w.heap.size, c, none⟩ = some (.int .u32 (X2 c : Nat)) := c1
  have f3 : (w3.drewN nq).frozen? ⟨w.heap.size, c, none⟩ = false := f1
  have HR2d : Hid (RW (w3.drewN nq) w.heap.size X2) := HR2.out.drewN nq
  have HB2d : Hid (Below w.heap.size w (w3.drewN nq)) := below_drewN HB2.out nq
  have HZ2d : Hid ((w3.drewN nq).heap[gr]? = some (.cells Z16 98 (0, 0))) := HZ2.out
  clear c1 c2 f1
  generalize w3.drewN nq = v3 at c3 f3 HR2d HB2d HZ2d ⊢
  go_upto_region 4 with (fail)
  have HR3 : Hid (RW (v3.setCell ⟨w.heap.size, c, none⟩ (.int .u32 (add32 (X2 c) (X2 d) : Nat))) w.heap.size (q1 X2 c d)) := by
    have h := HR2d.out.set c (add32 (X2 c) (X2 d))
    exact h
  have HB3 : Hid (Below w.heap.size w (v3.setCell ⟨w.heap.size, c, none⟩ (.int .u32 (add32 (X2 c) (X2 d) : Nat)))) := HB2d.out.setCell (Nat.le_refl _) _
  have HZ3 : Hid ((v3.setCell ⟨w.heap.size, c, none⟩ (.int .u32 (add32 (X2 c) (X2 d) : Nat))).heap[gr]? = some (.cells Z16 98 (0, 0))) := (Below.heap_setCell _ _ _ gr (by have := HG.out; simp; omega)).trans HZ2d.out
  have HL3 : Hid (Lt (q1 X2 c d)) := q1_lt HL2.out c d
  clear c3 f3 HR2 HB2 HZ2 HR2d HB2d HZ2d o1
  generalize v3.setCell ⟨w.heap.size, c, none⟩ (.int .u32 (add32 (X2 c) (X2 d) : Nat)) = w4 at HR3 HB3 HZ3 ⊢
  generalize hE3 : q1 X2 c d = X3 at HR3 HL3
  have HE3 := Lib.hid hE3
  clear hE3
  have c1 : w4.cell? ⟨w.heap.size, b, none⟩ = some (.int .u32 (X3 b : Nat)) := World.rowIs.cell HR3.out (i := b) (by omega)
  have c2 : w4.cell? ⟨w.heap.size, c, none⟩ = some (.int .u32 (X3 c : Nat)) := World.rowIs.cell HR3.out (i := c) (by omega)
  have f1 := World.rowIs.frozen HR3.out b
  have o1 := u32_xor_nat (X3 b) (X3 c) (HL3.out b) (HL3.out c)
  have HY := Lib.hid (xor32_lt (HL3.out b) (HL3.out c))
  generalize hYe : X3 b ^^^ X3 c = Y at o1 HY
  have HYe := Lib.hid hYe
  clear hYe
  refine wp_region_quiet_tail 10 (by kernel_rfl) (by kernel_rfl) ?_
  simp only [List.take_succ_cons, List.take_zero, List.drop_succ_cons, List.drop_zero]
  repeat (go_big_quiet_step ((go_at_call 105; exact Calls.quiet_of (left_12 Y _ HY.out))))
  refine wpQuiet_nil ?_
  intro nq
  have c3 : (w4.drewN nq).cell? ⟨w.heap.size, b, none⟩ = some (.int .u32 (X3 b : Nat)) := c1
  have f3 : (w4.drewN nq).frozen? ⟨w.heap.size, b, none⟩ = false := f1
  have HR3d : Hid (RW (w4.drewN nq) w.heap.size X3) := HR3.out.drewN nq
  have HB3d : Hid (Below w.heap.size w (w4.drewN nq)) := below_drewN HB3.out nq
  have HZ3d : Hid ((w4.drewN nq).heap[gr]? = some (.cells Z16 98 (0, 0))) := HZ3.out
  clear c1 c2 f1
  generalize w4.drewN nq = v4 at c3 f3 HR3d HB3d HZ3d ⊢
  go_upto_region 5 with (fail)
  have HR4 : Hid (RW (v4.setCell ⟨w.heap.size, b, none⟩ (.int .u32 (rol 12 Y : Nat))) w.heap.size (q2 X3 b c 12)) := by
    have h := HR3d.out.set b (rol 12 Y)
    rw [← HYe.out] at h ⊢; exact h
  have HB4 : Hid (Below w.heap.size w (v4.setCell ⟨w.heap.size, b, none⟩ (.int .u32 (rol 12 Y : Nat)))) := HB3d.out.setCell (Nat.le_refl _) _
  have HZ4 : Hid ((v4.setCell ⟨w.heap.size, b, none⟩ (.int .u32 (rol 12 Y : Nat))).heap[gr]? = some (.cells Z16 98 (0, 0))) := (Below.heap_setCell _ _ _ gr (by have := HG.out; simp; omega)).trans HZ3d.out
  have HL4 : Hid (Lt (q2 X3 b c 12)) := q2_lt HL3.out b c 12
  clear c3 f3 HR3 HB3 HZ3 HR3d HB3d HZ3d o1
  generalize v4.setCell ⟨w.heap.size, b, none⟩ (.int .u32 (rol 12 Y : Nat)) = w5 at HR4 HB4 HZ4 ⊢
  generalize hE4 : q2 X3 b c 12 = X4 at HR4 HL4
  have HE4 := Lib.hid hE4
  clear hE4
  have c1 : w5.cell? ⟨w.heap.size, a, none⟩ = some (.int .u32 (X4 a : Nat)) := World.rowIs.cell HR4.out (i := a) (by omega)
  have c2 : w5.cell? ⟨w.heap.size, b, none⟩ = some (.int .u32 (X4 b : Nat)) := World.rowIs.cell HR4.out (i := b) (by omega)
  have f1 := World.rowIs.frozen HR4.out a
  have o1 : IntKind.u32.wrap (((X4 a : Nat) : Int) + ((X4 b : Nat) : Int)) = ((add32 (X4 a) (X4 b) : Nat) : Int) := by show _ % 4294967296 = _; unfold add32; omega
  refine wp_region_quiet_tail 9 (by kernel_rfl) (by kernel_rfl) ?_
  simp only [List.take_succ_cons, List.take_zero, List.drop_succ_cons, List.drop_zero]
  repeat (go_big_quiet_step (fail))
  refine wpQuiet_nil ?_
  intro nq
  have c3 : (w5.drewN nq).cell? ⟨w.heap.size, a, none⟩ = some (.int .u32 (X4 a : Nat)) := c1
  have f3 : (w5.drewN nq).frozen? ⟨w.heap.size, a, none⟩ = false := f1
  have HR4d : Hid (RW (w5.drewN nq) w.heap.size X4) := HR4.out.drewN nq
  have HB4d : Hid (Below w.heap.size w (w5.drewN nq)) := below_drewN HB4.out nq
  have HZ4d : Hid ((w5.drewN nq).heap[gr]? = some (.cells Z16 98 (0, 0))) := HZ4.out
  clear c1 c2 f1
  generalize w5.drewN nq = v5 at c3 f3 HR4d HB4d HZ4d ⊢
  go_upto_region 6 with (fail)
  have HR5 : Hid (RW (v5.setCell ⟨w.heap.size, a, none⟩ (.int .u32 (add32 (X4 a) (X4 b) : Nat))) w.heap.size (q1 X4 a b)) := by
    have h := HR4d.out.set a (add32 (X4 a) (X4 b))
    exact h
  have HB5 : Hid (Below w.heap.size w (v5.setCell ⟨w.heap.size, a, none⟩ (.int .u32 (add32 (X4 a) (X4 b) : Nat)))) := HB4d.out.setCell (Nat.le_refl _) _
  have HZ5 : Hid ((v5.setCell ⟨w.heap.size, a, none⟩ (.int .u32 (add32 (X4 a) (X4 b) : Nat))).heap[gr]? = some (.cells Z16 98 (0, 0))) := (Below.heap_setCell _ _ _ gr (by have := HG.out; simp; omega)).trans HZ4d.out
  have HL5 : Hid (Lt (q1 X4 a b)) := q1_lt HL4.out a b
  clear c3 f3 HR4 HB4 HZ4 HR4d HB4d HZ4d o1
  generalize v5.setCell ⟨w.heap.size, a, none⟩ (.int .u32 (add32 (X4 a) (X4 b) : Nat)) = w6 at HR5 HB5 HZ5 ⊢
  generalize hE5 : q1 X4 a b = X5 at HR5 HL5
  have HE5 := Lib.hid hE5
  clear hE5
  have c1 : w6.cell? ⟨w.heap.size, d, none⟩ = some (.int .u32 (X5 d : Nat)) := World.rowIs.cell HR5.out (i := d) (by omega)
  have c2 : w6.cell? ⟨w.heap.size, a, none⟩ = some (.int .u32 (X5 a : Nat)) := World.rowIs.cell HR5.out (i := a) (by omega)
  have f1 := World.rowIs.frozen HR5.out d
  have o1 := u32_xor_nat (X5 d) (X5 a) (HL5.out d) (HL5.out a)
  have HY := Lib.hid (xor32_lt (HL5.out d) (HL5.out a))
  generalize hYe : X5 d ^^^ X5 a = Y at o1 HY
  have HYe := Lib.hid hYe
  clear hYe
  refine wp_region_quiet_tail 10 (by kernel_rfl) (by kernel_rfl) ?_
  simp only [List.take_succ_cons, List.take_zero, List.drop_succ_cons, List.drop_zero]
  repeat (go_big_quiet_step ((go_at_call 105; exact Calls.quiet_of (left_8 Y _ HY.out))))
  refine wpQuiet_nil ?_
  intro nq
  have c3 : (w6.drewN nq).cell? ⟨w.heap.size, d, none⟩ = some (.int .u32 (X5 d : Nat)) := c1
  have f3 : (w6.drewN nq).frozen? ⟨w.heap.size, d, none⟩ = false := f1
  have HR5d : Hid (RW (w6.drewN nq) w.heap.size X5) := HR5.out.drewN nq
  have HB5d : Hid (Below w.heap.size w (w6.drewN nq)) := below_drewN HB5.out nq
  have HZ5d : Hid ((w6.drewN nq).heap[gr]? = some (.cells Z16 98 (0, 0))) := HZ5.out
  clear c1 c2 f1
  generalize w6.drewN nq = v6 at c3 f3 HR5d HB5d HZ5d ⊢
  go_upto_region 7 with (fail)
  have HR6 : Hid (RW (v6.setCell ⟨w.heap.size, d, none⟩ (.int .u32 (rol 8 Y : Nat))) w.heap.size (q2 X5 d a 8)) := by
    have h := HR5d.out.set d (rol 8 Y)
    rw [← HYe.out] at h ⊢; exact h
  have HB6 : Hid (Below w.heap.size w (v6.setCell ⟨w.heap.size, d, none⟩ (.int .u32 (rol 8 Y : Nat)))) := HB5d.out.setCell (Nat.le_refl _) _
  have HZ6 : Hid ((v6.setCell ⟨w.heap.size, d, none⟩ (.int .u32 (rol 8 Y : Nat))).heap[gr]? = some (.cells Z16 98 (0, 0))) := (Below.heap_setCell _ _ _ gr (by have := HG.out; simp; omega)).trans HZ5d.out
  have HL6 : Hid (Lt (q2 X5 d a 8)) := q2_lt HL5.out d a 8
  clear c3 f3 HR5 HB5 HZ5 HR5d HB5d HZ5d o1
  generalize v6.setCell ⟨w.heap.size, d, none⟩ (.int .u32 (rol 8 Y : Nat)) = w7 at HR6 HB6 HZ6 ⊢
  generalize hE6 : q2 X5 d a 8 = X6 at HR6 HL6
  have HE6 := Lib.hid hE6
  clear hE6
  have c1 : w7.cell? ⟨w.heap.size, c, none⟩ = some (.int .u32 (X6 c : Nat)) := World.rowIs.cell HR6.out (i := c) (by omega)
  have c2 : w7.cell? ⟨w.heap.size, d, none⟩ = some (.int .u32 (X6 d : Nat)) := World.rowIs.cell HR6.out (i := d) (by omega)
  have f1 := World.rowIs.frozen HR6.out c
  have o1 : IntKind.u32.wrap (((X6 c : Nat) : Int) + ((X6 d : Nat) : Int)) = ((add32 (X6 c) (X6 d) : Nat) : Int) := by show _ % 4294967296 = _; unfold add32; omega
  refine wp_region_quiet_tail 9 (by kernel_rfl) (by kernel_rfl) ?_
  simp only [List.take_succ_cons, List.take_zero, List.drop_succ_cons, List.drop_zero]
  repeat (go_big_quiet_step (fail))
  refine wpQuiet_nil ?_
  intro nq
  have c3 : (w7.drewN nq).cell? ⟨w.heap.size, c, none⟩ = some (.int .u32 (X6 c : Nat)) := c1
  have f3 : (w7.drewN nq).frozen? ⟨w.heap.size, c, none⟩ = false := f1
  have HR6d : Hid (RW (w7.drewN nq) w.heap.size X6) := HR6.out.drewN nq
  have HB6d : Hid (Below w.heap.size w (w7.drewN nq)) := below_drewN HB6.out nq
  have HZ6d : Hid ((w7.drewN nq).heap[gr]? = some (.cells Z16 98 (0, 0))) := HZ6.out
  clear c1 c2 f1
  generalize w7.drewN nq = v7 at c3 f3 HR6d HB6d HZ6d ⊢
  go_upto_region 8 with (fail)
  have HR7 : Hid (RW (v7.setCell ⟨w.heap.size, c, none⟩ (.int .u32 (add32 (X6 c) (X6 d) : Nat))) w.heap.size (q1 X6 c d)) := by
    have h := HR6d.out.set c (add32 (X6 c) (X6 d))
    exact h
  have HB7 : Hid (Below w.heap.size w (v7.setCell ⟨w.heap.size, c, none⟩ (.int .u32 (add32 (X6 c) (X6 d) : Nat)))) := HB6d.out.setCell (Nat.le_refl _) _
  have HZ7 : Hid ((v7.setCell ⟨w.heap.size, c, none⟩ (.int .u32 (add32 (X6 c) (X6 d) : Nat))).heap[gr]? = some (.cells Z16 98 (0, 0))) := (Below.heap_setCell _ _ _ gr (by have := HG.out; simp; omega)).trans HZ6d.out
  have HL7 : Hid (Lt (q1 X6 c d)) := q1_lt HL6.out c d
  clear c3 f3 HR6 HB6 HZ6 HR6d HB6d HZ6d o1
  generalize v7.setCell ⟨w.heap.size, c, none⟩ (.int .u32 (add32 (X6 c) (X6 d) : Nat)) = w8 at HR7 HB7 HZ7 ⊢
  generalize hE7 : q1 X6 c d = X7 at HR7 HL7
  have HE7 := Lib.hid hE7
  clear hE7
  have c1 : w8.cell? ⟨w.heap.size, b, none⟩ = some (.int .u32 (X7 b : Nat)) := World.rowIs.cell HR7.out (i := b) (by omega)
  have c2 : w8.cell? ⟨w.heap.size, c, none⟩ = some (.int .u32 (X7 c : Nat)) := World.rowIs.cell HR7.out (i := c) (by omega)
  have f1 := World.rowIs.frozen HR7.out b
  have o1 := u32_xor_nat (X7 b) (X7 c) (HL7.out b) (HL7.out c)
  have HY := Lib.hid (xor32_lt (HL7.out b) (HL7.out c))
  generalize hYe : X7 b ^^^ X7 c = Y at o1 HY
  have HYe := Lib.hid hYe
  clear hYe
  refine wp_region_quiet_tail 10 (by kernel_rfl) (by kernel_rfl) ?_
  simp only [List.take_succ_cons, List.take_zero, List.drop_succ_cons, List.drop_zero]
  repeat (go_big_quiet_step ((go_at_call 105; exact Calls.quiet_of (left_7 Y _ HY.out))))
  refine wpQuiet_nil ?_
  intro nq
  have c3 : (w8.drewN nq).cell? ⟨w.heap.size, b, none⟩ = some (.int .u32 (X7 b : Nat)) := c1
  have f3 : (w8.drewN nq).frozen? ⟨w.heap.size, b, none⟩ = false := f1
  have HR7d : Hid (RW (w8.drewN nq) w.heap.size X7) := HR7.out.drewN nq
  have HB7d : Hid (Below w.heap.size w (w8.drewN nq)) := below_drewN HB7.out nq
  have HZ7d : Hid ((w8.drewN nq).heap[gr]? = some (.cells Z16 98 (0, 0))) := HZ7.out
  clear c1 c2 f1
  generalize w8.drewN nq = v8 at c3 f3 HR7d HB7d HZ7d ⊢
  go_upto_region 9 with (fail)
  have HR8 : Hid (RW (v8.setCell ⟨w.heap.size, b, none⟩ (.int .u32 (rol 7 Y : Nat))) w.heap.size (q2 X7 b c 7)) := by
    have h := HR7d.out.set b (rol 7 Y)
    rw [← HYe.out] at h ⊢; exact h
  have HB8 : Hid (Below w.heap.size w (v8.setCell ⟨w.heap.size, b, none⟩ (.int .u32 (rol 7 Y : Nat)))) := HB7d.out.setCell (Nat.le_refl _) _
  have HZ8 : Hid ((v8.setCell ⟨w.heap.size, b, none⟩ (.int .u32 (rol 7 Y : Nat))).heap[gr]? = some (.cells Z16 98 (0, 0))) := (Below.heap_setCell _ _ _ gr (by have := HG.out; simp; omega)).trans HZ7d.out
  have HL8 : Hid (Lt (q2 X7 b c 7)) := q2_lt HL7.out b c 7
  clear c3 f3 HR7 HB7 HZ7 HR7d HB7d HZ7d o1
  generalize v8.setCell ⟨w.heap.size, b, none⟩ (.int .u32 (rol 7 Y : Nat)) = w9 at HR8 HB8 HZ8 ⊢
  generalize hE8 : q2 X7 b c 7 = X8 at HR8 HL8
  have HE8 := Lib.hid hE8
  clear hE8
  obtain ⟨C', hC', hCs, hCc⟩ := HR8.out
  have HO := Lib.hid HZ8.out
  have HCs := Lib.hid hCs
  have HCc := Lib.hid hCc
  have HC' := Lib.hid hC'
  clear hC' hCs hCc HZ8
  apply wp_region_lit
  refine wpList_load_row rfl 98 _ rfl w.heap.size (by kernel_rfl) 98 C' (0, 0) _ HC'.out Tryz.underlying98 rfl (by rw [HCs.out]; kernel_rfl) ?_
  refine wpList_store_row rfl 98 _ _ rfl gr C' (by kernel_rfl) (by kernel_rfl) 98 _ HO.out (by rw [HCs.out]; kernel_rfl) (by rw [HCs.out]; rfl) (cells_one HCs.out HCc.out fun _ => rfl) ?_
  go_wp2_with (fail)
  refine bodyPost_ret (v := .agg C') ?_ rfl ?_
  · exact results_cell_row (fn := Tryz.f84) Tryz.results84 _ _ gr 98 _ (0, 0) _ rfl (setRow_heap _ _ _ _ _ _ HO.out) Tryz.underlying98 rfl (by rw [HCs.out]; kernel_rfl)
  · refine ⟨C', rfl, HCs.out, fun i hi => ?_, below_setRow HB8.out (by have := HG.out; omega) _⟩
    rw [HCc.out i hi, ← HE8.out, ← HE7.out, ← HE6.out, ← HE5.out, ← HE4.out, ← HE3.out, ← HE2.out, ← HE1.out]
    rfl
end Go.Proofs.Cha
