/-
  The developers' chacha: a state's block.
-/
import Derived.Test.YtljhenjbjondkaaJobr
namespace Go.Proofs.Cd
open Go.RowKit
open Go.Proofs.Cha
open Go.Proofs.Aes (byt byt_lt get_byt)
open Go.Proofs.Im (wpList_box_to words_heap words_one run_index_row)
open Go.Proofs.Sha (wordCells wordCells_get wordCells_size rowIs_of wpList_alloc_to)
/-- A block as a value: sixty-four bytes. -/
def mL (f : Nat → Nat) : List Nat := (List.range 64).map f
def mA (f : Nat → Nat) : Array Value := wordCells .u8 (mL f)
theorem mL_get (f : Nat → Nat) (i : Nat) (hi : i < 64) : f i = (mL f).getD i 0 := by
  unfold mL; rw [List.getD_eq_getElem?_getD, List.getElem?_map, List.getElem?_range hi]; rfl
theorem mL_size (f : Nat → Nat) : (mL f).length = 64 := by unfold mL; simp
theorem mA_size (f : Nat → Nat) : (mA f).size = 64 := by unfold mA; rw [wordCells_size, mL_size]
theorem mA_get (f : Nat → Nat) (i : Nat) (hi : i < 64) : (mA f)[i]? = some (.int .u8 (f i : Nat)) := by unfold mA; rw [wordCells_get .u8 (mL f) i (by rw [mL_size]; exact hi), ← mL_get f i hi]
theorem mA_one (f : Nat → Nat) : (mA f).all (·.oneCell') = true := words_one _ _
theorem mA_congr {f h : Nat → Nat} (e : ∀ i, i < 64 → f i = h i) : mA f = mA h := by
  have : mL f = mL h := by unfold mL; exact List.map_congr_left fun i hi => e i (List.mem_range.1 hi)
  unfold mA; rw [this]
/-- A block in memory. -/
def RM (w : World) (g : Nat) (f : Nat → Nat) : Prop := w.rowIs g 80 64 (fun i => .int .u8 (f i : Nat))
theorem RM.set {w : World} {g : Nat} {f : Nat → Nat} (h : RM w g f) (j v : Nat) : RM (w.setCell ⟨g, j, none⟩ (.int .u8 v)) g (put f j v) :=
  World.rowIs.congr (World.rowIs.set h j (.int .u8 v)) fun i _ => by simp only [put]; split <;> rfl
theorem RM.congr {w : World} {g : Nat} {f h : Nat → Nat} (r : RM w g f) (e : ∀ i, i < 64 → f i = h i) : RM w g h := World.rowIs.congr r fun i hi => by rw [e i hi]
theorem RM.drewN {w : World} {g : Nat} {f : Nat → Nat} (h : RM w g f) (q : Nat) : RM (w.drewN q) g f := h
theorem RM.on {u v : World} {g : Nat} {f : Nat → Nat} (r : RM u g f) (hb : Below u.heap.size u v) : RM v g f := World.rowIs.of_block r (hb.block g (World.rowIs.lt r))
theorem RM.heap {w : World} {g : Nat} {f : Nat → Nat} (h : RM w g f) : w.heap[g]? = some (.cells (mA f) 80 (0, 0)) := words_heap h (mL f) (mL_size f) (mL_get f)
theorem RM.new (w : World) (f : Nat → Nat) : RM (w.alloc (.cells (mA f) 80)) w.heap.size f := rowIs_of w (mA f) 80 64 _ (mA_size f) (mA_get f)
theorem RM.other {w : World} {g : Nat} {f : Nat → Nat} (h : RM w g f) {a : Addr} (ha : g ≠ a.block) (v : Value) : RM (w.setCell a v) g f := World.rowIs.setOther h ha v
theorem RM.setRow {w : World} {g : Nat} {f : Nat → Nat} (h : RM w g f) (k : Nat → Nat) : RM (w.setRow g (mA k)) g k := ⟨mA k, setRow_heap _ _ _ _ _ _ h.heap, mA_size k, mA_get k⟩
theorem alloc64 (w : World) : (Instr.alloc 80 true (.tuple #[])).run Try.prog w = .ok (.pointer (some ⟨w.heap.size, 0, none⟩)) (w.alloc (.cells (mA fun _ => 0) 80)) := by kernel_rfl
/-- A call's boxed state, its result's place, its block. -/
def Blk3 (w u : World) (X f : Nat → Nat) : Prop := RC u w.heap.size X ∧ RM u (w.heap.size + 1) (fun _ => 0) ∧ RM u (w.heap.size + 2) f ∧ Below w.heap.size w u
theorem blk3_new (w : World) (X : Nat → Nat) : Blk3 w (((w.alloc (.cells (cA X) 83)).alloc (.cells (mA fun _ => 0) 80)).alloc (.cells (mA fun _ => 0) 80)) X (fun _ => 0) := by
  have h := RM.new (w.alloc (.cells (cA X) 83)) (fun _ => 0)
  have h2 := RM.new ((w.alloc (.cells (cA X) 83)).alloc (.cells (mA fun _ => 0) 80)) (fun _ => 0)
  rw [show (w.alloc (.cells (cA X) 83)).heap.size = w.heap.size + 1 by simp] at h
  rw [show ((w.alloc (.cells (cA X) 83)).alloc (.cells (mA fun _ => 0) 80)).heap.size = w.heap.size + 2 by simp] at h2
  exact ⟨World.rowIs.alloc (World.rowIs.alloc (RC.new w X) _) _, World.rowIs.alloc h _, h2, (((Below.refl _ _).alloc (Nat.le_refl _) _).alloc (by simp) _).alloc (by simp; omega) _⟩
theorem Blk3.set {w u : World} {X f : Nat → Nat} (h : Blk3 w u X f) (j v : Nat) : Blk3 w (u.setCell ⟨w.heap.size + 2, j, none⟩ (.int .u8 v)) X (put f j v) :=
  ⟨h.1.other (by simp) _, h.2.1.other (by simp) _, h.2.2.1.set j v, h.2.2.2.setCell (by simp) _⟩
theorem Blk3.congr {w u : World} {X f k : Nat → Nat} (h : Blk3 w u X f) (e : ∀ i, i < 64 → f i = k i) : Blk3 w u X k := ⟨h.1, h.2.1, h.2.2.1.congr e, h.2.2.2⟩
theorem Blk3.on {w u v : World} {X f : Nat → Nat} (h : Blk3 w u X f) (hb : Below u.heap.size u v) : Blk3 w v X f := ⟨h.1.on hb, h.2.1.on hb, h.2.2.1.on hb, Lw.go_on h.2.2.2 hb⟩
/-- The bytes so far. -/
def outC (X : Nat → Nat) (n t : Nat) : Nat := if t < n then chaB X t else 0
theorem outC_four (X : Nat → Nat) (i z t : Nat) (hz : z = add32 (rndR X 10 i) (X i)) :
    put (put (put (put (outC X (4 * i)) (4 * i) (z % 256)) (4 * i + 1) (z / 256 % 256)) (4 * i + 2) (z / 65536 % 256)) (4 * i + 3) (z / 16777216 % 256) t = outC X (4 * (i + 1)) t := by
  have hz' : z = add32 (X i) (rndR X 10 i) := by rw [hz]; unfold add32; rw [Nat.add_comm]
  have e : ∀ j, j < 4 → chaB X (4 * i + j) = z / 256 ^ j % 256 := fun j hj => by
    unfold chaB; rw [show (4 * i + j) / 4 = i by omega, show (4 * i + j) % 4 = j by omega, hz']
  have e0 := e 0 (by decide); have e1 := e 1 (by decide); have e2 := e 2 (by decide); have e3 := e 3 (by decide)
  rw [Nat.pow_zero, Nat.div_one, Nat.add_zero] at e0
  rw [Nat.pow_one] at e1
  rw [show (256 : Nat) ^ 2 = 65536 from rfl] at e2
  rw [show (256 : Nat) ^ 3 = 16777216 from rfl] at e3
  unfold put outC
  by_cases h3 : t = 4 * i + 3
  · subst h3; rw [if_pos rfl, if_pos (by omega), e3]
  · rw [if_neg h3]
    by_cases h2 : t = 4 * i + 2
    · subst h2; rw [if_pos rfl, if_pos (by omega), e2]
    · rw [if_neg h2]
      by_cases h1 : t = 4 * i + 1
      · subst h1; rw [if_pos rfl, if_pos (by omega), e1]
      · rw [if_neg h1]
        by_cases h0 : t = 4 * i
        · subst h0; rw [if_pos rfl, if_pos (by omega), e0]
        · rw [if_neg h0]
          by_cases hl : t < 4 * i
          · rw [if_pos hl, if_pos (by omega)]
          · rw [if_neg hl, if_neg (by omega)]
set_option maxHeartbeats 4000000 in
set_option maxRecDepth 10000 in
theorem block_any (X : Nat → Nat) (w : World) (hX : Lt X) :
    Calls Try.prog 54 #[.agg (cA X)] w fun e w' => e = .returned (.agg (mA (chaB X))) ∧ Below w.heap.size w w' := by
  have HX := Lib.hid hX
  clear hX
  go_enter Try.func54, Try.ntmps54
  go_upto_region 0 with (fail)
  apply wp_region_lit
  refine wpList_box_to rfl 83 _ rfl (cA X) rfl w.heap.size rfl ?_
  refine wpList_alloc_to rfl 80 rfl (mA fun _ => 0) (w.heap.size + 1) (by simp) alloc64 ?_
  simp only [Act.put, List.setIfInBounds_toArray, List.set_cons_zero, List.set_cons_succ]
  go_upto_region 1 with (fail)
  apply wp_region_lit
  refine wpList_alloc_to rfl 80 rfl (mA fun _ => 0) (w.heap.size + 2) (by simp) alloc64 ?_
  have HM := Lib.hid (blk3_new w X)
  generalize ((w.alloc (.cells (cA X) 83)).alloc (.cells (mA fun _ => 0) 80)).alloc (.cells (mA fun _ => 0) 80) = w1 at HM ⊢
  simp only [Act.put, List.setIfInBounds_toArray, List.set_cons_zero, List.set_cons_succ]
  have HN := Lib.hid HM.out.1.heap
  go_upto_region 2 with (fail)
  apply wp_region_lit
  refine wpList_load_row rfl 83 _ rfl w.heap.size rfl 83 (cA X) (0, 0) _ HN.out Try.underlying83 rfl (by kernel_rfl) ?_
  clear HN
  refine Lw.wpList_callTo (some 7) rfl rfl 76 _ _ rfl (fun _ _ => by kernel_rfl) #[.agg (cA X)] (by kernel_rfl) ?_
  refine (mixed_any X _ HX.out).mono ?_
  rintro e u ⟨rfl, hb⟩
  refine ⟨_, rfl, ?_⟩
  have HM := Lib.hid (HM.out.on hb)
  clear hb
  have HZ : Hid (∀ i z t, z = add32 (rndR X 10 i) (X i) → put (put (put (put (outC X (4 * i)) (4 * i) (z % 256)) (4 * i + 1) (z / 256 % 256)) (4 * i + 2) (z / 65536 % 256)) (4 * i + 3) (z / 16777216 % 256) t = outC X (4 * (i + 1)) t) := outC_four X
  have HRl : Hid (Lt (rndR X 10)) := rndR_lt HX.out 10
  generalize rndR X 10 = R at HZ HRl ⊢
  simp only [Act.put, List.setIfInBounds_toArray, List.set_cons_zero, List.set_cons_succ]
  go_wp2_with (fail)
  go_loopw [8] (fun v wx => ∃ j : Nat, Hid (j ≤ 16) ∧ v = .int .i64 j ∧ Hid (Blk3 w wx X (outC X (4 * j)))) (fun v _ => 16 - (intOf v).toNat)
  case atStart => exact ⟨0, Nat.zero_le _, rfl, HM.out.congr fun t _ => by unfold outC; rw [if_neg (by omega)]⟩
  case round =>
    clear HM
    obtain ⟨j, hj, rfl, HM⟩ := hrel
    by_cases hlt : j < 16
    · have jl : ((j : Int) < 16) = True := eq_true (by omega)
      have jl' : (j : Int) < 16 := by omega
      have HJ := Lib.hid hlt
      have hix := fun W => run_index_row (P := Try.prog) W 83 81 16 (cA R) .i64 j (.int .u32 (R j : Nat)) Try.underlying83 (by kernel_rfl) _ Try.underlying81 rfl hlt (cA_get R j hlt)
      have xc := World.rowIs.cell HM.out.1 (i := j) hlt
      have s1 := add32_int (R j) (X j)
      obtain ⟨z, hz⟩ : ∃ z, z = add32 (R j) (X j) := ⟨_, rfl⟩
      rw [← hz] at s1
      have HZl : Hid (z < 4294967296) := by rw [hz]; exact add32_lt _ _
      have HO := Lib.hid (fun t => HZ.out j z t hz)
      clear hz
      generalize R j = r at hix s1
      generalize X j = x at xc s1
      have b0 : (z : Int) % 256 = ((z % 256 : Nat) : Int) := by omega
      have b1 : (z : Int) / 256 % 256 = ((z / 256 % 256 : Nat) : Int) := by omega
      have b2 : (z : Int) / 65536 % 256 = ((z / 65536 % 256 : Nat) : Int) := by omega
      have b3 : (z : Int) / 16777216 % 256 = ((z / 16777216 % 256 : Nat) : Int) := by omega
      have HV : Hid (Blk3 w ((((wr.setCell ⟨w.heap.size + 2, 4 * j, none⟩ (.int .u8 (z % 256 : Nat))).setCell ⟨w.heap.size + 2, 4 * j + 1, none⟩ (.int .u8 (z / 256 % 256 : Nat))).setCell ⟨w.heap.size + 2, 4 * j + 2, none⟩ (.int .u8 (z / 65536 % 256 : Nat))).setCell ⟨w.heap.size + 2, 4 * j + 3, none⟩ (.int .u8 (z / 16777216 % 256 : Nat))) X (outC X (4 * (j + 1)))) :=
        ((((HM.out.set (4 * j) _).set (4 * j + 1) _).set (4 * j + 2) _).set (4 * j + 3) _).congr fun t _ => HO.out t
      have B3 : Hid ((z : Int) / 16777216 = ((z / 16777216 % 256 : Nat) : Int)) := by show _ = _; have := HZl.out; omega
      generalize z % 256 = z0 at b0 HV
      generalize z / 256 % 256 = z1 at b1 HV
      generalize z / 65536 % 256 = z2 at b2 HV
      generalize z / 16777216 % 256 = z3 at b3 B3 HV
      have c0 := World.rowIs.cell HM.out.2.2.1 (i := 4 * j) (by omega)
      have c1 := World.rowIs.cell HM.out.2.2.1 (i := 4 * j + 1) (by omega)
      have c2 := World.rowIs.cell HM.out.2.2.1 (i := 4 * j + 2) (by omega)
      have c3 := World.rowIs.cell HM.out.2.2.1 (i := 4 * j + 3) (by omega)
      have f0 := World.rowIs.frozen HM.out.2.2.1 (4 * j)
      have f1 := World.rowIs.frozen HM.out.2.2.1 (4 * j + 1)
      have f2 := World.rowIs.frozen HM.out.2.2.1 (4 * j + 2)
      have f3 := World.rowIs.frozen HM.out.2.2.1 (4 * j + 3)
      generalize outC X (4 * j) (4 * j) = o0 at c0
      generalize outC X (4 * j) (4 * j + 1) = o1 at c1
      generalize outC X (4 * j) (4 * j + 2) = o2 at c2
      generalize outC X (4 * j) (4 * j + 3) = o3 at c3
      have l0 : 4 * (j : Int) < 64 := by omega
      have l1 : 4 * (j : Int) + 1 < 64 := by omega
      have l2 : 4 * (j : Int) + 2 < 64 := by omega
      have l3 : 4 * (j : Int) + 3 < 64 := by omega
      clear hlt
      go_wp2_with (fail)
      rw [B3.out]
      exact ⟨⟨j + 1, HJ.out, by go_num, HV⟩, Lw.meas 16 j HJ.out⟩
    · have jl : ((j : Int) < 16) = False := eq_false (by omega)
      obtain rfl : j = 16 := by have := hj.out; omega
      rw [show ((16 : Nat) : Int) = 16 from rfl]
      clear hlt jl hj
      have HM : Hid (Blk3 w wr X (chaB X)) := HM.out.congr fun t ht => by unfold outC; rw [if_pos (by omega)]
      have HI := Lib.hid HM.out.2.2.1.heap
      have HO := Lib.hid HM.out.2.1.heap
      generalize hRe : chaB X = Y at HM HI
      have HRe := Lib.hid hRe
      clear hRe
      go_upto_region 8 with (fail)
      apply wp_region_lit
      refine wpList_load_row rfl 80 _ rfl (w.heap.size + 2) rfl 80 (mA Y) (0, 0) _ HI.out Try.underlying80 rfl (by kernel_rfl) ?_
      refine wpList_store_row rfl 80 _ _ rfl (w.heap.size + 1) (mA Y) rfl rfl 80 _ HO.out (by kernel_rfl) rfl (mA_one _) ?_
      go_wp2_with (fail)
      refine bodyPost_ret (v := .agg (mA Y)) ?_ rfl ?_
      · exact results_cell_row (fn := Try.f54) Try.results54 _ _ (w.heap.size + 1) 80 _ (0, 0) _ rfl (setRow_heap _ _ _ _ _ _ HO.out) Try.underlying80 rfl (by kernel_rfl)
      · exact ⟨by rw [HRe.out], below_setRow HM.out.2.2.2 (by omega) _⟩
end Go.Proofs.Cd
