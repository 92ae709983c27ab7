/-
  The developers' chacha: a state as a value and in memory; a state behind the rounds.
-/
import Derived.Test.YtljhenjbjondkaaJobp
namespace Go.Proofs.Cd
open Go.RowKit
open Go.Proofs.Cha
open Go.Proofs.Im (wpList_box_to words_heap words_one run_index_row)
open Go.Proofs.Sha (wordCells wordCells_get wordCells_size rowIs_of wpList_alloc_to)
/-- A state as a value: sixteen words. -/
def cL (X : Nat → Nat) : List Nat := [X 0, X 1, X 2, X 3, X 4, X 5, X 6, X 7, X 8, X 9, X 10, X 11, X 12, X 13, X 14, X 15]
def cA (X : Nat → Nat) : Array Value := wordCells .u32 (cL X)
theorem cL_get (X : Nat → Nat) (i : Nat) (hi : i < 16) : X i = (cL X).getD i 0 := by
  match i, hi with
  | 0, _ => rfl
  | 1, _ => rfl
  | 2, _ => rfl
  | 3, _ => rfl
  | 4, _ => rfl
  | 5, _ => rfl
  | 6, _ => rfl
  | 7, _ => rfl
  | 8, _ => rfl
  | 9, _ => rfl
  | 10, _ => rfl
  | 11, _ => rfl
  | 12, _ => rfl
  | 13, _ => rfl
  | 14, _ => rfl
  | 15, _ => rfl
  | n + 16, h => exact absurd h (by omega)
theorem cA_size (X : Nat → Nat) : (cA X).size = 16 := by unfold cA; rw [wordCells_size]; rfl
theorem cA_get (X : Nat → Nat) (i : Nat) (hi : i < 16) : (cA X)[i]? = some (.int .u32 (X i : Nat)) := by unfold cA; rw [wordCells_get .u32 (cL X) i hi, ← cL_get X i hi]
theorem cA_congr {X Y : Nat → Nat} (h : ∀ i, i < 16 → X i = Y i) : cA X = cA Y := by
  have e : cL X = cL Y := by
    unfold cL; rw [h 0 (by decide), h 1 (by decide), h 2 (by decide), h 3 (by decide), h 4 (by decide), h 5 (by decide), h 6 (by decide), h 7 (by decide), h 8 (by decide), h 9 (by decide), h 10 (by decide), h 11 (by decide), h 12 (by decide), h 13 (by decide), h 14 (by decide), h 15 (by decide)]
  unfold cA; rw [e]
theorem cA_one (X : Nat → Nat) : (cA X).all (·.oneCell') = true := words_one _ _
/-- A state in memory. -/
def RC (w : World) (g : Nat) (X : Nat → Nat) : Prop := w.rowIs g 83 16 (fun i => .int .u32 (X i : Nat))
theorem RC.set {w : World} {g : Nat} {X : Nat → Nat} (h : RC w g X) (j v : Nat) : RC (w.setCell ⟨g, j, none⟩ (.int .u32 v)) g (put X j v) :=
  World.rowIs.congr (World.rowIs.set h j (.int .u32 v)) fun i _ => by simp only [put]; split <;> rfl
theorem RC.congr {w : World} {g : Nat} {X Y : Nat → Nat} (h : RC w g X) (e : ∀ i, i < 16 → X i = Y i) : RC w g Y := World.rowIs.congr h fun i hi => by rw [e i hi]
theorem RC.drew {w : World} {g : Nat} {X : Nat → Nat} (h : RC w g X) : RC w.drew g X := World.rowIs.drew h
theorem RC.drewN {w : World} {g : Nat} {X : Nat → Nat} (h : RC w g X) (q : Nat) : RC (w.drewN q) g X := h
theorem RC.on {u v : World} {g : Nat} {X : Nat → Nat} (r : RC u g X) (hb : Below u.heap.size u v) : RC v g X := World.rowIs.of_block r (hb.block g (World.rowIs.lt r))
theorem RC.heap {w : World} {g : Nat} {X : Nat → Nat} (h : RC w g X) : w.heap[g]? = some (.cells (cA X) 83 (0, 0)) := words_heap h (cL X) rfl (cL_get X)
theorem RC.new (w : World) (X : Nat → Nat) : RC (w.alloc (.cells (cA X) 83)) w.heap.size X := rowIs_of w (cA X) 83 16 _ (cA_size X) (cA_get X)
theorem RC.other {w : World} {g : Nat} {X : Nat → Nat} (h : RC w g X) {a : Addr} (ha : g ≠ a.block) (v : Value) : RC (w.setCell a v) g X := World.rowIs.setOther h ha v
theorem RC.setRow {w : World} {g : Nat} {X : Nat → Nat} (h : RC w g X) (Y : Nat → Nat) : RC (w.setRow g (cA Y)) g Y := ⟨cA Y, setRow_heap _ _ _ _ _ _ h.heap, cA_size Y, cA_get Y⟩
theorem alloc16c (w : World) : (Instr.alloc 83 true (.tuple #[])).run Try.prog w = .ok (.pointer (some ⟨w.heap.size, 0, none⟩)) (w.alloc (.cells (cA fun _ => 0) 83)) := by kernel_rfl
/-- A call's boxed state, and its result's place. -/
def Mem2 (w u : World) (X : Nat → Nat) : Prop := RC u w.heap.size X ∧ RC u (w.heap.size + 1) (fun _ => 0) ∧ Below w.heap.size w u
theorem mem2_new (w : World) (X : Nat → Nat) : Mem2 w ((w.alloc (.cells (cA X) 83)).alloc (.cells (cA fun _ => 0) 83)) X := by
  have h := RC.new (w.alloc (.cells (cA X) 83)) (fun _ => 0)
  rw [show (w.alloc (.cells (cA X) 83)).heap.size = w.heap.size + 1 by simp] at h
  exact ⟨World.rowIs.alloc (RC.new w X) _, h, ((Below.refl _ _).alloc (Nat.le_refl _) _).alloc (by simp) _⟩
theorem Mem2.set {w u : World} {X : Nat → Nat} (h : Mem2 w u X) (j v : Nat) : Mem2 w (u.setCell ⟨w.heap.size, j, none⟩ (.int .u32 v)) (put X j v) :=
  ⟨h.1.set j v, h.2.1.other (by simp) _, h.2.2.setCell (Nat.le_refl _) _⟩
/-- Four words of the boxed state are those behind a quarter of a round. -/
theorem Mem2.four {w u : World} {X : Nat → Nat} (h : Mem2 w u X) (a b c d : Nat) (h1 : a ≠ b) (h2 : a ≠ c) (h3 : a ≠ d) (h4 : b ≠ c) (h5 : b ≠ d) (h6 : c ≠ d) :
    Mem2 w ((((u.setCell ⟨w.heap.size, a, none⟩ (.int .u32 (qA (X a) (X b) (X c) (X d) : Nat))).setCell ⟨w.heap.size, b, none⟩ (.int .u32 (qB (X a) (X b) (X c) (X d) : Nat))).setCell ⟨w.heap.size, c, none⟩ (.int .u32 (qC (X a) (X b) (X c) (X d) : Nat))).setCell ⟨w.heap.size, d, none⟩ (.int .u32 (qD (X a) (X b) (X c) (X d) : Nat))) (quart X a b c d) := by
  rw [← quart_four X a b c d h1 h2 h3 h4 h5 h6]
  exact (((h.set a _).set b _).set c _).set d _
theorem round_is (X : Nat → Nat) : quart (quart (quart (quart (quart (quart (quart (quart X 0 4 8 12) 1 5 9 13) 2 6 10 14) 3 7 11 15) 0 5 10 15) 1 6 11 12) 2 7 8 13) 3 4 9 14 = diaR (colR X 4) 4 := rfl
set_option maxHeartbeats 4000000 in
set_option maxRecDepth 10000 in
theorem mixed_any (X : Nat → Nat) (w : World) (hX : Lt X) :
    Calls Try.prog 76 #[.agg (cA X)] w fun e w' => e = .returned (.agg (cA (rndR X 10))) ∧ Below w.heap.size w w' := by
  have HX := Lib.hid hX
  clear hX
  go_enter Try.func76, Try.ntmps76
  go_upto_region 0 with (fail)
  apply wp_region_lit
  refine wpList_box_to rfl 83 _ rfl (cA X) rfl w.heap.size rfl ?_
  refine wpList_alloc_to rfl 83 rfl (cA fun _ => 0) (w.heap.size + 1) (by simp) alloc16c ?_
  have HM := Lib.hid (mem2_new w X)
  generalize (w.alloc (.cells (cA X) 83)).alloc (.cells (cA fun _ => 0) 83) = w1 at HM ⊢
  simp only [Act.put, List.setIfInBounds_toArray, List.set_cons_zero, List.set_cons_succ]
  go_wp2_with (fail)
  go_loopw [3] (fun v wx => ∃ r : Nat, Hid (r ≤ 10) ∧ v = .int .i64 r ∧ Hid (Mem2 w wx (rndR X r))) (fun v _ => 10 - (intOf v).toNat)
  case atStart => exact ⟨0, Nat.zero_le _, rfl, HM⟩
  case round =>
    clear HM
    obtain ⟨r, hr, rfl, HM⟩ := hrel
    by_cases hlt : r < 10
    · have rl : ((r : Int) < 10) = True := eq_true (by omega)
      have HR := Lib.hid hlt
      have HRl : Hid (Lt (rndR X r)) := rndR_lt HX.out r
      have HNx : Hid (diaR (colR (rndR X r) 4) 4 = rndR X (r + 1)) := rfl
      clear hlt
      generalize rndR X r = R0 at HM HNx HRl
      rw [← round_is] at HNx
      have ca : wr.cell? ⟨w.heap.size, 0, none⟩ = some (.int .u32 (R0 0 : Nat)) := World.rowIs.cell HM.out.1 (i := 0) (by decide)
      have fa := World.rowIs.frozen HM.out.1 0
      have cb : wr.cell? ⟨w.heap.size, 4, none⟩ = some (.int .u32 (R0 4 : Nat)) := World.rowIs.cell HM.out.1 (i := 4) (by decide)
      have fb := World.rowIs.frozen HM.out.1 4
      have cc : wr.cell? ⟨w.heap.size, 8, none⟩ = some (.int .u32 (R0 8 : Nat)) := World.rowIs.cell HM.out.1 (i := 8) (by decide)
      have fc := World.rowIs.frozen HM.out.1 8
      have cd : wr.cell? ⟨w.heap.size, 12, none⟩ = some (.int .u32 (R0 12 : Nat)) := World.rowIs.cell HM.out.1 (i := 12) (by decide)
      have fd := World.rowIs.frozen HM.out.1 12
      have HF := Lib.hid (HM.out.four 0 4 8 12 (by decide) (by decide) (by decide) (by decide) (by decide) (by decide))
      have HCt := Lib.hid (fun W => quarter_any (R0 0) (R0 4) (R0 8) (R0 12) W (HRl.out _) (HRl.out _))
      have HRl : Hid (Lt (quart R0 0 4 8 12)) := quart_lt HRl.out _ _ _ _
      generalize quart R0 0 4 8 12 = R1 at HF HNx HRl
      generalize R0 0 = va at ca HF HCt
      generalize R0 4 = vb at cb HF HCt
      generalize R0 8 = vc at cc HF HCt
      generalize R0 12 = vd at cd HF HCt
      generalize qA va vb vc vd = zA at HF HCt
      generalize qB va vb vc vd = zB at HF HCt
      generalize qC va vb vc vd = zC at HF HCt
      generalize qD va vb vc vd = zD at HF HCt
      go_upto_region 4 with (go_at_call 79; refine (HCt.out _).mono ?_; rintro e wr ⟨rfl, rfl⟩)
      clear ca cb cc cd fa fb fc fd HM HCt
      have HM := HF
      clear HF
      generalize (((wr.setCell ⟨w.heap.size, 0, none⟩ (.int .u32 (zA : Nat))).setCell ⟨w.heap.size, 4, none⟩ (.int .u32 (zB : Nat))).setCell ⟨w.heap.size, 8, none⟩ (.int .u32 (zC : Nat))).setCell ⟨w.heap.size, 12, none⟩ (.int .u32 (zD : Nat)) = u1 at HM ⊢
      have ca : u1.cell? ⟨w.heap.size, 1, none⟩ = some (.int .u32 (R1 1 : Nat)) := World.rowIs.cell HM.out.1 (i := 1) (by decide)
      have fa := World.rowIs.frozen HM.out.1 1
      have cb : u1.cell? ⟨w.heap.size, 5, none⟩ = some (.int .u32 (R1 5 : Nat)) := World.rowIs.cell HM.out.1 (i := 5) (by decide)
      have fb := World.rowIs.frozen HM.out.1 5
      have cc : u1.cell? ⟨w.heap.size, 9, none⟩ = some (.int .u32 (R1 9 : Nat)) := World.rowIs.cell HM.out.1 (i := 9) (by decide)
      have fc := World.rowIs.frozen HM.out.1 9
      have cd : u1.cell? ⟨w.heap.size, 13, none⟩ = some (.int .u32 (R1 13 : Nat)) := World.rowIs.cell HM.out.1 (i := 13) (by decide)
      have fd := World.rowIs.frozen HM.out.1 13
      have HF := Lib.hid (HM.out.four 1 5 9 13 (by decide) (by decide) (by decide) (by decide) (by decide) (by decide))
      have HCt := Lib.hid (fun W => quarter_any (R1 1) (R1 5) (R1 9) (R1 13) W (HRl.out _) (HRl.out _))
      have HRl : Hid (Lt (quart R1 1 5 9 13)) := quart_lt HRl.out _ _ _ _
      generalize quart R1 1 5 9 13 = R2 at HF HNx HRl
      generalize R1 1 = va at ca HF HCt
      generalize R1 5 = vb at cb HF HCt
      generalize R1 9 = vc at cc HF HCt
      generalize R1 13 = vd at cd HF HCt
      generalize qA va vb vc vd = zA at HF HCt
      generalize qB va vb vc vd = zB at HF HCt
      generalize qC va vb vc vd = zC at HF HCt
      generalize qD va vb vc vd = zD at HF HCt
      go_upto_region 5 with (go_at_call 79; refine (HCt.out _).mono ?_; rintro e u1 ⟨rfl, rfl⟩)
      clear ca cb cc cd fa fb fc fd HM HCt
      have HM := HF
      clear HF
      generalize (((u1.setCell ⟨w.heap.size, 1, none⟩ (.int .u32 (zA : Nat))).setCell ⟨w.heap.size, 5, none⟩ (.int .u32 (zB : Nat))).setCell ⟨w.heap.size, 9, none⟩ (.int .u32 (zC : Nat))).setCell ⟨w.heap.size, 13, none⟩ (.int .u32 (zD : Nat)) = u2 at HM ⊢
      have ca : u2.cell? ⟨w.heap.size, 2, none⟩ = some (.int .u32 (R2 2 : Nat)) := World.rowIs.cell HM.out.1 (i := 2) (by decide)
      have fa := World.rowIs.frozen HM.out.1 2
      have cb : u2.cell? ⟨w.heap.size, 6, none⟩ = some (.int .u32 (R2 6 : Nat)) := World.rowIs.cell HM.out.1 (i := 6) (by decide)
      have fb := World.rowIs.frozen HM.out.1 6
      have cc : u2.cell? ⟨w.heap.size, 10, none⟩ = some (.int .u32 (R2 10 : Nat)) := World.rowIs.cell HM.out.1 (i := 10) (by decide)
      have fc := World.rowIs.frozen HM.out.1 10
      have cd : u2.cell? ⟨w.heap.size, 14, none⟩ = some (.int .u32 (R2 14 : Nat)) := World.rowIs.cell HM.out.1 (i := 14) (by decide)
      have fd := World.rowIs.frozen HM.out.1 14
      have HF := Lib.hid (HM.out.four 2 6 10 14 (by decide) (by decide) (by decide) (by decide) (by decide) (by decide))
      have HCt := Lib.hid (fun W => quarter_any (R2 2) (R2 6) (R2 10) (R2 14) W (HRl.out _) (HRl.out _))
      have HRl : Hid (Lt (quart R2 2 6 10 14)) := quart_lt HRl.out _ _ _ _
      generalize quart R2 2 6 10 14 = R3 at HF HNx HRl
      generalize R2 2 = va at ca HF HCt
      generalize R2 6 = vb at cb HF HCt
      generalize R2 10 = vc at cc HF HCt
      generalize R2 14 = vd at cd HF HCt
      generalize qA va vb vc vd = zA at HF HCt
      generalize qB va vb vc vd = zB at HF HCt
      generalize qC va vb vc vd = zC at HF HCt
      generalize qD va vb vc vd = zD at HF HCt
      go_upto_region 6 with (go_at_call 79; refine (HCt.out _).mono ?_; rintro e u2 ⟨rfl, rfl⟩)
      clear ca cb cc cd fa fb fc fd HM HCt
      have HM := HF
      clear HF
      generalize (((u2.setCell ⟨w.heap.size, 2, none⟩ (.int .u32 (zA : Nat))).setCell ⟨w.heap.size, 6, none⟩ (.int .u32 (zB : Nat))).setCell ⟨w.heap.size, 10, none⟩ (.int .u32 (zC : Nat))).setCell ⟨w.heap.size, 14, none⟩ (.int .u32 (zD : Nat)) = u3 at HM ⊢
      have ca : u3.cell? ⟨w.heap.size, 3, none⟩ = some (.int .u32 (R3 3 : Nat)) := World.rowIs.cell HM.out.1 (i := 3) (by decide)
      have fa := World.rowIs.frozen HM.out.1 3
      have cb : u3.cell? ⟨w.heap.size, 7, none⟩ = some (.int .u32 (R3 7 : Nat)) := World.rowIs.cell HM.out.1 (i := 7) (by decide)
      have fb := World.rowIs.frozen HM.out.1 7
      have cc : u3.cell? ⟨w.heap.size, 11, none⟩ = some (.int .u32 (R3 11 : Nat)) := World.rowIs.cell HM.out.1 (i := 11) (by decide)
      have fc := World.rowIs.frozen HM.out.1 11
      have cd : u3.cell? ⟨w.heap.size, 15, none⟩ = some (.int .u32 (R3 15 : Nat)) := World.rowIs.cell HM.out.1 (i := 15) (by decide)
      have fd := World.rowIs.frozen HM.out.1 15
      have HF := Lib.hid (HM.out.four 3 7 11 15 (by decide) (by decide) (by decide) (by decide) (by decide) (by decide))
      have HCt := Lib.hid (fun W => quarter_any (R3 3) (R3 7) (R3 11) (R3 15) W (HRl.out _) (HRl.out _))
      have HRl : Hid (Lt (quart R3 3 7 11 15)) := quart_lt HRl.out _ _ _ _
      generalize quart R3 3 7 11 15 = R4 at HF HNx HRl
      generalize R3 3 = va at ca HF HCt
      generalize R3 7 = vb at cb HF HCt
      generalize R3 11 = vc at cc HF HCt
      generalize R3 15 = vd at cd HF HCt
      generalize qA va vb vc vd = zA at HF HCt
      generalize qB va vb vc vd = zB at HF HCt
      generalize qC va vb vc vd = zC at HF HCt
      generalize qD va vb vc vd = zD at HF HCt
      go_upto_region 7 with (go_at_call 79; refine (HCt.out _).mono ?_; rintro e u3 ⟨rfl, rfl⟩)
      clear ca cb cc cd fa fb fc fd HM HCt
      have HM := HF
      clear HF
      generalize (((u3.setCell ⟨w.heap.size, 3, none⟩ (.int .u32 (zA : Nat))).setCell ⟨w.heap.size, 7, none⟩ (.int .u32 (zB : Nat))).setCell ⟨w.heap.size, 11, none⟩ (.int .u32 (zC : Nat))).setCell ⟨w.heap.size, 15, none⟩ (.int .u32 (zD : Nat)) = u4 at HM ⊢
      have ca : u4.cell? ⟨w.heap.size, 0, none⟩ = some (.int .u32 (R4 0 : Nat)) := World.rowIs.cell HM.out.1 (i := 0) (by decide)
      have fa := World.rowIs.frozen HM.out.1 0
      have cb : u4.cell? ⟨w.heap.size, 5, none⟩ = some (.int .u32 (R4 5 : Nat)) := World.rowIs.cell HM.out.1 (i := 5) (by decide)
      have fb := World.rowIs.frozen HM.out.1 5
      have cc : u4.cell? ⟨w.heap.size, 10, none⟩ = some (.int .u32 (R4 10 : Nat)) := World.rowIs.cell HM.out.1 (i := 10) (by decide)
      have fc := World.rowIs.frozen HM.out.1 10
      have cd : u4.cell? ⟨w.heap.size, 15, none⟩ = some (.int .u32 (R4 15 : Nat)) := World.rowIs.cell HM.out.1 (i := 15) (by decide)
      have fd := World.rowIs.frozen HM.out.1 15
      have HF := Lib.hid (HM.out.four 0 5 10 15 (by decide) (by decide) (by decide) (by decide) (by decide) (by decide))
      have HCt := Lib.hid (fun W => quarter_any (R4 0) (R4 5) (R4 10) (R4 15) W (HRl.out _) (HRl.out _))
      have HRl : Hid (Lt (quart R4 0 5 10 15)) := quart_lt HRl.out _ _ _ _
      generalize quart R4 0 5 10 15 = R5 at HF HNx HRl
      generalize R4 0 = va at ca HF HCt
      generalize R4 5 = vb at cb HF HCt
      generalize R4 10 = vc at cc HF HCt
      generalize R4 15 = vd at cd HF HCt
      generalize qA va vb vc vd = zA at HF HCt
      generalize qB va vb vc vd = zB at HF HCt
      generalize qC va vb vc vd = zC at HF HCt
      generalize qD va vb vc vd = zD at HF HCt
      go_upto_region 8 with (go_at_call 79; refine (HCt.out _).mono ?_; rintro e u4 ⟨rfl, rfl⟩)
      clear ca cb cc cd fa fb fc fd HM HCt
      have HM := HF
      clear HF
      generalize (((u4.setCell ⟨w.heap.size, 0, none⟩ (.int .u32 (zA : Nat))).setCell ⟨w.heap.size, 5, none⟩ (.int .u32 (zB : Nat))).setCell ⟨w.heap.size, 10, none⟩ (.int .u32 (zC : Nat))).setCell ⟨w.heap.size, 15, none⟩ (.int .u32 (zD : Nat)) = u5 at HM ⊢
      have ca : u5.cell? ⟨w.heap.size, 1, none⟩ = some (.int .u32 (R5 1 : Nat)) := World.rowIs.cell HM.out.1 (i := 1) (by decide)
      have fa := World.rowIs.frozen HM.out.1 1
      have cb : u5.cell? ⟨w.heap.size, 6, none⟩ = some (.int .u32 (R5 6 : Nat)) := World.rowIs.cell HM.out.1 (i := 6) (by decide)
      have fb := World.rowIs.frozen HM.out.1 6
      have cc : u5.cell? ⟨w.heap.size, 11, none⟩ = some (.int .u32 (R5 11 : Nat)) := World.rowIs.cell HM.out.1 (i := 11) (by decide)
      have fc := World.rowIs.frozen HM.out.1 11
      have cd : u5.cell? ⟨w.heap.size, 12, none⟩ = some (.int .u32 (R5 12 : Nat)) := World.rowIs.cell HM.out.1 (i := 12) (by decide)
      have fd := World.rowIs.frozen HM.out.1 12
      have HF := Lib.hid (HM.out.four 1 6 11 12 (by decide) (by decide) (by decide) (by decide) (by decide) (by decide))
      have HCt := Lib.hid (fun W => quarter_any (R5 1) (R5 6) (R5 11) (R5 12) W (HRl.out _) (HRl.out _))
      have HRl : Hid (Lt (quart R5 1 6 11 12)) := quart_lt HRl.out _ _ _ _
      generalize quart R5 1 6 11 12 = R6 at HF HNx HRl
      generalize R5 1 = va at ca HF HCt
      generalize R5 6 = vb at cb HF HCt
      generalize R5 11 = vc at cc HF HCt
      generalize R5 12 = vd at cd HF HCt
      generalize qA va vb vc vd = zA at HF HCt
      generalize qB va vb vc vd = zB at HF HCt
      generalize qC va vb vc vd = zC at HF HCt
      generalize qD va vb vc vd = zD at HF HCt
      go_upto_region 9 with (go_at_call 79; refine (HCt.out _).mono ?_; rintro e u5 ⟨rfl, rfl⟩)
      clear ca cb cc cd fa fb fc fd HM HCt
      have HM := HF
      clear HF
      generalize (((u5.setCell ⟨w.heap.size, 1, none⟩ (.int .u32 (zA : Nat))).setCell ⟨w.heap.size, 6, none⟩ (.int .u32 (zB : Nat))).setCell ⟨w.heap.size, 11, none⟩ (.int .u32 (zC : Nat))).setCell ⟨w.heap.size, 12, none⟩ (.int .u32 (zD : Nat)) = u6 at HM ⊢
      have ca : u6.cell? ⟨w.heap.size, 2, none⟩ = some (.int .u32 (R6 2 : Nat)) := World.rowIs.cell HM.out.1 (i := 2) (by decide)
      have fa := World.rowIs.frozen HM.out.1 2
      have cb : u6.cell? ⟨w.heap.size, 7, none⟩ = some (.int .u32 (R6 7 : Nat)) := World.rowIs.cell HM.out.1 (i := 7) (by decide)
      have fb := World.rowIs.frozen HM.out.1 7
      have cc : u6.cell? ⟨w.heap.size, 8, none⟩ = some (.int .u32 (R6 8 : Nat)) := World.rowIs.cell HM.out.1 (i := 8) (by decide)
      have fc := World.rowIs.frozen HM.out.1 8
      have cd : u6.cell? ⟨w.heap.size, 13, none⟩ = some (.int .u32 (R6 13 : Nat)) := World.rowIs.cell HM.out.1 (i := 13) (by decide)
      have fd := World.rowIs.frozen HM.out.1 13
      have HF := Lib.hid (HM.out.four 2 7 8 13 (by decide) (by decide) (by decide) (by decide) (by decide) (by decide))
      have HCt := Lib.hid (fun W => quarter_any (R6 2) (R6 7) (R6 8) (R6 13) W (HRl.out _) (HRl.out _))
      have HRl : Hid (Lt (quart R6 2 7 8 13)) := quart_lt HRl.out _ _ _ _
      generalize quart R6 2 7 8 13 = R7 at HF HNx HRl
      generalize R6 2 = va at ca HF HCt
      generalize R6 7 = vb at cb HF HCt
      generalize R6 8 = vc at cc HF HCt
      generalize R6 13 = vd at cd HF HCt
      generalize qA va vb vc vd = zA at HF HCt
      generalize qB va vb vc vd = zB at HF HCt
      generalize qC va vb vc vd = zC at HF HCt
      generalize qD va vb vc vd = zD at HF HCt
      go_upto_region 10 with (go_at_call 79; refine (HCt.out _).mono ?_; rintro e u6 ⟨rfl, rfl⟩)
      clear ca cb cc cd fa fb fc fd HM HCt
      have HM := HF
      clear HF
      generalize (((u6.setCell ⟨w.heap.size, 2, none⟩ (.int .u32 (zA : Nat))).setCell ⟨w.heap.size, 7, none⟩ (.int .u32 (zB : Nat))).setCell ⟨w.heap.size, 8, none⟩ (.int .u32 (zC : Nat))).setCell ⟨w.heap.size, 13, none⟩ (.int .u32 (zD : Nat)) = u7 at HM ⊢
      have ca : u7.cell? ⟨w.heap.size, 3, none⟩ = some (.int .u32 (R7 3 : Nat)) := World.rowIs.cell HM.out.1 (i := 3) (by decide)
      have fa := World.rowIs.frozen HM.out.1 3
      have cb : u7.cell? ⟨w.heap.size, 4, none⟩ = some (.int .u32 (R7 4 : Nat)) := World.rowIs.cell HM.out.1 (i := 4) (by decide)
      have fb := World.rowIs.frozen HM.out.1 4
      have cc : u7.cell? ⟨w.heap.size, 9, none⟩ = some (.int .u32 (R7 9 : Nat)) := World.rowIs.cell HM.out.1 (i := 9) (by decide)
      have fc := World.rowIs.frozen HM.out.1 9
      have cd : u7.cell? ⟨w.heap.size, 14, none⟩ = some (.int .u32 (R7 14 : Nat)) := World.rowIs.cell HM.out.1 (i := 14) (by decide)
      have fd := World.rowIs.frozen HM.out.1 14
      have HF := Lib.hid (HM.out.four 3 4 9 14 (by decide) (by decide) (by decide) (by decide) (by decide) (by decide))
      have HCt := Lib.hid (fun W => quarter_any (R7 3) (R7 4) (R7 9) (R7 14) W (HRl.out _) (HRl.out _))
      have HRl : Hid (Lt (quart R7 3 4 9 14)) := quart_lt HRl.out _ _ _ _
      generalize quart R7 3 4 9 14 = R8 at HF HNx HRl
      generalize R7 3 = va at ca HF HCt
      generalize R7 4 = vb at cb HF HCt
      generalize R7 9 = vc at cc HF HCt
      generalize R7 14 = vd at cd HF HCt
      generalize qA va vb vc vd = zA at HF HCt
      generalize qB va vb vc vd = zB at HF HCt
      generalize qC va vb vc vd = zC at HF HCt
      generalize qD va vb vc vd = zD at HF HCt
      go_upto_region 11 with (go_at_call 79; refine (HCt.out _).mono ?_; rintro e u7 ⟨rfl, rfl⟩)
      clear ca cb cc cd fa fb fc fd HM HCt
      have HM := HF
      clear HF
      generalize (((u7.setCell ⟨w.heap.size, 3, none⟩ (.int .u32 (zA : Nat))).setCell ⟨w.heap.size, 4, none⟩ (.int .u32 (zB : Nat))).setCell ⟨w.heap.size, 9, none⟩ (.int .u32 (zC : Nat))).setCell ⟨w.heap.size, 14, none⟩ (.int .u32 (zD : Nat)) = u8 at HM ⊢
      have rb : (r : Int) < 10 := by have := HR.out; omega
      clear rl
      go_wp2_with (fail)
      exact ⟨⟨r + 1, HR.out, by go_num, by rw [← HNx.out]; exact HM⟩, Lw.meas 10 r HR.out⟩
    · have rl : ((r : Int) < 10) = False := eq_false (by omega)
      obtain rfl : r = 10 := by have := hr.out; omega
      have HN := Lib.hid HM.out.1.heap
      have HO := Lib.hid HM.out.2.1.heap
      rw [show ((10 : Nat) : Int) = 10 from rfl]
      generalize hRe : rndR X 10 = R at HM HN
      have HRe := Lib.hid hRe
      clear hRe
      clear hlt rl hr
      go_upto_region 12 with (fail)
      apply wp_region_lit
      refine wpList_load_row rfl 83 _ rfl w.heap.size rfl 83 (cA R) (0, 0) _ HN.out Try.underlying83 rfl (by kernel_rfl) ?_
      refine wpList_store_row rfl 83 _ _ rfl (w.heap.size + 1) (cA R) rfl rfl 83 _ HO.out (by kernel_rfl) rfl (cA_one _) ?_
      go_wp2_with (fail)
      refine bodyPost_ret (v := .agg (cA R)) ?_ rfl ?_
      · exact results_cell_row (fn := Try.f76) Try.results76 _ _ (w.heap.size + 1) 83 _ (0, 0) _ rfl (setRow_heap _ _ _ _ _ _ HO.out) Try.underlying83 rfl (by kernel_rfl)
      · exact ⟨by rw [HRe.out], below_setRow HM.out.2.2 (by omega) _⟩
end Go.Proofs.Cd
