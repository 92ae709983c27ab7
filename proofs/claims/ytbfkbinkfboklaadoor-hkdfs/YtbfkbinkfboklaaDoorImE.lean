/-
  Contracts of the developers' sha: one block of SHA-256.
-/
import Derived.Test.YtbfkbinkfboklaaDoorImC
import Derived.Test.YtbfkbinkfboklaaDoorSha5B
namespace Go.Proofs.Im
open Go.RowKit Go.Proofs.Sha
/-- The program's table of words, as its package lays it. -/
def Tab (w : World) : Prop := ∀ i, i < 80 → w.cell? ⟨0, i, none⟩ = some (.int .u64 (Sha5.kTab.getD i 0 : Nat))
theorem Tab.pos {w : World} (h : Tab w) : 0 < w.heap.size := block_lt_of_cell (h 0 (by decide))
theorem Tab.below {w u : World} {B : Nat} (h : Tab w) (hb : Below B w u) (hB : 0 < B) : Tab u := fun i hi => by
  rw [hb.cell (p := ⟨0, i, none⟩) hB]; exact h i hi
theorem lt64s {P : Nat → Bool} (h : (List.range 64).all P = true) (i : Nat) (hi : i < 64) : P i = true := List.all_eq_true.1 h i (List.mem_range.2 hi)
theorem kTab_high (i : Nat) (hi : i < 64) : Sha5.kTab.getD i 0 / 4294967296 = kTab.getD i 0 := by
  have := lt64s (P := fun i => decide (Sha5.kTab.getD i 0 / 4294967296 = kTab.getD i 0)) (by decide) i hi
  simpa using this
theorem kTab_lt (i : Nat) (hi : i < 64) : kTab.getD i 0 < 4294967296 := by
  have := lt64s (P := fun i => decide (kTab.getD i 0 < 4294967296)) (by decide) i hi
  simpa using this
theorem hOf_get (k : IntKind) (a b c d e f g h : Nat) (i : Nat) (hi : i < 8) : (#[.int k a, .int k b, .int k c, .int k d, .int k e, .int k f, .int k g, .int k h] : Array Value)[i]? = some (.int k (hOf a b c d e f g h i : Nat)) :=
  Sha.lt8 (P := fun i => (#[.int k a, .int k b, .int k c, .int k d, .int k e, .int k f, .int k g, .int k h] : Array Value)[i]? = some (.int k (hOf a b c d e f g h i : Nat))) rfl rfl rfl rfl rfl rfl rfl rfl i hi
/-- What mix256 holds: its boxed state, its result. -/
def MemE (w wr : World) (H : Nat → Nat) : Prop :=
  w.heap.size + 3 ≤ wr.heap.size ∧ wr.rowIs w.heap.size 68 8 (fun i => .int .u64 (H i : Nat)) ∧ wr.rowIs (w.heap.size + 2) 68 8 (fun _ => .int .u64 0) ∧ Below w.heap.size w wr
theorem MemE.drewN {w wr : World} {H : Nat → Nat} (h : MemE w wr H) (q : Nat) : MemE w (wr.drewN q) H :=
  ⟨by simpa using h.1, rowIs_drewN h.2.1 q, rowIs_drewN h.2.2.1 q, below_drewN h.2.2.2 q⟩
theorem MemE.drew {w wr : World} {H : Nat → Nat} (h : MemE w wr H) : MemE w wr.drew H := ⟨h.1, h.2.1.drew, h.2.2.1.drew, h.2.2.2.drew⟩
theorem MemE.hc {w wr : World} {H : Nat → Nat} (h : MemE w wr H) (t : Nat) (ht : t < 8) : wr.cell? ⟨w.heap.size, t, none⟩ = some (.int .u64 (H t : Nat)) := h.2.1.cell ht
theorem MemE.hf {w wr : World} {H : Nat → Nat} (h : MemE w wr H) (t : Nat) : wr.frozen? ⟨w.heap.size, t, none⟩ = false := h.2.1.frozen t
theorem MemE.below {w wr u : World} {H : Nat → Nat} (h : MemE w wr H) (hb : Below wr.heap.size wr u) : MemE w u H :=
  ⟨Nat.le_trans h.1 hb.size, h.2.1.of_block (hb.block _ h.2.1.lt), h.2.2.1.of_block (hb.block _ h.2.2.1.lt), h.2.2.2.trans (hb.mono (by have := h.1; omega))⟩
theorem MemE.set {w wr : World} {H : Nat → Nat} (h : MemE w wr H) (j v : Nat) : MemE w (wr.setCell ⟨w.heap.size, j, none⟩ (.int .u64 v)) (fun i => if i = j then v else H i) := by
  obtain ⟨h1, h2, h3, h6⟩ := h
  refine ⟨by simpa using h1, (h2.set j _).congr fun i _ => ?_, h3.setOther (by simp only []; omega) _, h6.setCell (by simp only []; omega) _⟩
  simp only []
  split <;> rfl
theorem MemE.tab {w wr : World} {H : Nat → Nat} (h : MemE w wr H) (ht : Tab w) : Tab wr := ht.below h.2.2.2 ht.pos
theorem memE_start (w : World) (B : Array Value) (h0 h1 h2 h3 h4 h5 h6 h7 : Nat) :
    MemE w (((w.alloc (.cells #[.int .u64 h0, .int .u64 h1, .int .u64 h2, .int .u64 h3, .int .u64 h4, .int .u64 h5, .int .u64 h6, .int .u64 h7] 68)).alloc (.cells B 71)).alloc (.cells #[.int .u64 0, .int .u64 0, .int .u64 0, .int .u64 0, .int .u64 0, .int .u64 0, .int .u64 0, .int .u64 0] 68)) (hOf h0 h1 h2 h3 h4 h5 h6 h7) := by
  have r0 := rowIs_of w #[.int .u64 h0, .int .u64 h1, .int .u64 h2, .int .u64 h3, .int .u64 h4, .int .u64 h5, .int .u64 h6, .int .u64 h7] 68 8 (fun i => .int .u64 (hOf h0 h1 h2 h3 h4 h5 h6 h7 i : Nat)) rfl (hOf_get .u64 _ _ _ _ _ _ _ _)
  generalize hA : w.alloc (.cells #[.int .u64 h0, .int .u64 h1, .int .u64 h2, .int .u64 h3, .int .u64 h4, .int .u64 h5, .int .u64 h6, .int .u64 h7] 68) = A at r0 ⊢
  have sA : A.heap.size = w.heap.size + 1 := by rw [← hA]; simp
  have bA : Below w.heap.size w A := by rw [← hA]; exact (Below.refl _ _).alloc (Nat.le_refl _) _
  have r0 := r0.alloc (.cells B 71)
  have bB : Below w.heap.size w (A.alloc (.cells B 71)) := bA.alloc (by omega) _
  have sB : (A.alloc (.cells B 71)).heap.size = w.heap.size + 2 := by simp [sA]
  generalize A.alloc (.cells B 71) = C at r0 bB sB ⊢
  have r1 := rowIs_of C #[.int .u64 0, .int .u64 0, .int .u64 0, .int .u64 0, .int .u64 0, .int .u64 0, .int .u64 0, .int .u64 0] 68 8 (fun _ => .int .u64 0) rfl (Sha.lt8 rfl rfl rfl rfl rfl rfl rfl rfl)
  rw [sB] at r1
  exact ⟨by simp [sB], r0.alloc _, r1, bB.alloc (by omega) _⟩
theorem memE_buf (w : World) (B : Array Value) (c0 c2 : Array Value) (t : TypeId) : (((w.alloc (.cells c0 t)).alloc (.cells B 71)).alloc (.cells c2 t)).heap[w.heap.size + 1]? = some (.cells B 71 (0, 0)) := by
  have h := heap_alloc2_old (w.alloc (.cells c0 t)) (.cells B 71) (.cells c2 t)
  rwa [show (w.alloc (.cells c0 t)).heap.size = w.heap.size + 1 by simp] at h
/-- A block's answer. -/
def Mix8 (s : ByteArray) (v : List Nat) (w : World) (e : Ending) (w' : World) : Prop :=
  ∃ x0 x1 x2 x3 x4 x5 x6 x7 : Nat, blk s v = [x0, x1, x2, x3, x4, x5, x6, x7] ∧ Lt32 x0 x1 x2 x3 x4 x5 x6 x7 ∧ e = .returned (.agg #[.int .u64 x0, .int .u64 x1, .int .u64 x2, .int .u64 x3, .int .u64 x4, .int .u64 x5, .int .u64 x6, .int .u64 x7]) ∧ Below w.heap.size w w'
set_option maxHeartbeats 2000000 in
set_option maxRecDepth 100000 in
theorem mix256_any (s : ByteArray) (b : Nat → Nat) (B : Array Value) (h0 h1 h2 h3 h4 h5 h6 h7 : Nat) (w : World) (hB : B.size = 128) (hBc : ∀ i, i < 128 → B[i]? = some (.int .u8 (b i : Nat))) (hb : ∀ i, b i < 256) (hs : ∀ i, i < 64 → b i = byt s i)
    (hl : Lt32 h0 h1 h2 h3 h4 h5 h6 h7) (hT : Tab w) :
    Calls Tryd.prog 54 #[.agg #[.int .u64 h0, .int .u64 h1, .int .u64 h2, .int .u64 h3, .int .u64 h4, .int .u64 h5, .int .u64 h6, .int .u64 h7], .agg B] w (Mix8 s [h0, h1, h2, h3, h4, h5, h6, h7] w) := by
  have HS := Lib.hid hs
  have HBy := Lib.hid hb
  have HBs := Lib.hid hB
  have HBc := Lib.hid hBc
  have HLt := Lib.hid hl
  have HT := Lib.hid hT
  have HM := memE_start w B h0 h1 h2 h3 h4 h5 h6 h7
  have HBf := Lib.hid (memE_buf w B #[.int .u64 h0, .int .u64 h1, .int .u64 h2, .int .u64 h3, .int .u64 h4, .int .u64 h5, .int .u64 h6, .int .u64 h7] #[.int .u64 0, .int .u64 0, .int .u64 0, .int .u64 0, .int .u64 0, .int .u64 0, .int .u64 0, .int .u64 0] 68)
  obtain ⟨la, lb, lc, ld, le, lf, lg, lm⟩ := hl
  have v0 : (h0 : Int) % 4294967296 = h0 := by omega
  have v1 : (h1 : Int) % 4294967296 = h1 := by omega
  have v2 : (h2 : Int) % 4294967296 = h2 := by omega
  have v3 : (h3 : Int) % 4294967296 = h3 := by omega
  have v4 : (h4 : Int) % 4294967296 = h4 := by omega
  have v5 : (h5 : Int) % 4294967296 = h5 := by omega
  have v6 : (h6 : Int) % 4294967296 = h6 := by omega
  have v7 : (h7 : Int) % 4294967296 = h7 := by omega
  clear hs hb hB hBc hT la lb lc ld le lf lg lm
  go_enter Tryd.func54, Tryd.ntmps54
  go_upto_region 0 with (fail)
  apply wp_region_lit
  refine wpList_box_to rfl 68 _ rfl _ rfl w.heap.size rfl ?_
  refine wpList_box_to rfl 71 _ rfl B rfl (w.heap.size + 1) (by simp) ?_
  go_upto_region 1 with (fail)
  generalize ((w.alloc (.cells #[.int .u64 h0, .int .u64 h1, .int .u64 h2, .int .u64 h3, .int .u64 h4, .int .u64 h5, .int .u64 h6, .int .u64 h7] 68)).alloc (.cells B 71)).alloc (.cells #[.int .u64 0, .int .u64 0, .int .u64 0, .int .u64 0, .int .u64 0, .int .u64 0, .int .u64 0, .int .u64 0] 68) = w1 at HM HBf ⊢
  have g0 : w1.cell? ⟨w.heap.size, 0, none⟩ = some (.int .u64 (h0 : Nat)) := HM.hc 0 (by omega)
  have g1 : w1.cell? ⟨w.heap.size, 1, none⟩ = some (.int .u64 (h1 : Nat)) := HM.hc 1 (by omega)
  have g2 : w1.cell? ⟨w.heap.size, 2, none⟩ = some (.int .u64 (h2 : Nat)) := HM.hc 2 (by omega)
  have g3 : w1.cell? ⟨w.heap.size, 3, none⟩ = some (.int .u64 (h3 : Nat)) := HM.hc 3 (by omega)
  go_quiet (fail)
  clear g0 g1 g2 g3
  have HM := HM.drewN nq
  have HBf : Hid ((w1.drewN nq).heap[w.heap.size + 1]? = some (.cells B 71 (0, 0))) := by have := HBf.out; simpa [Hid] using this
  generalize w1.drewN nq = w2 at HM HBf ⊢
  have g4 : w2.cell? ⟨w.heap.size, 4, none⟩ = some (.int .u64 (h4 : Nat)) := HM.hc 4 (by omega)
  have g5 : w2.cell? ⟨w.heap.size, 5, none⟩ = some (.int .u64 (h5 : Nat)) := HM.hc 5 (by omega)
  have g6 : w2.cell? ⟨w.heap.size, 6, none⟩ = some (.int .u64 (h6 : Nat)) := HM.hc 6 (by omega)
  have g7 : w2.cell? ⟨w.heap.size, 7, none⟩ = some (.int .u64 (h7 : Nat)) := HM.hc 7 (by omega)
  go_wp2_with (fail)
  go_quiet (fail)
  clear g4 g5 g6 g7
  have HM := HM.drewN nq
  have HBf : Hid ((w2.drewN nq).heap[w.heap.size + 1]? = some (.cells B 71 (0, 0))) := by have := HBf.out; simpa [Hid] using this
  generalize w2.drewN nq = w3 at HM HBf ⊢
  go_upto_region 3 with (fail)
  apply wp_region_lit
  refine wpList_load_row rfl 71 _ rfl (w.heap.size + 1) rfl 71 B (0, 0) _ HBf.out Tryd.underlying71 rfl (by rw [HBs.out]; kernel_rfl) ?_
  go_wp2_with (go_at_call 56; refine (sched256_any s b B _ HBs.out HBc.out HBy.out HS.out).mono ?_; rintro e u ⟨rfl, hbu⟩)
  have HM := HM.below hbu
  clear hbu HBf HBs HBc HBy HS v0 v1 v2 v3 v4 v5 v6 v7
  go_loopw [5, 6, 7, 8, 9, 10, 11, 12, 45] (fun ra rb rc rd re rf rg rm i wx => ∃ (j a b c d e f g m : Nat), j ≤ 64 ∧ i = .int .i64 j ∧ ra = .int .u32 (a : Nat) ∧ rb = .int .u32 (b : Nat) ∧ rc = .int .u32 (c : Nat) ∧ rd = .int .u32 (d : Nat) ∧ re = .int .u32 (e : Nat) ∧ rf = .int .u32 (f : Nat) ∧ rg = .int .u32 (g : Nat) ∧ rm = .int .u32 (m : Nat) ∧ Hid (rnds (schL s 48) [h0, h1, h2, h3, h4, h5, h6, h7] j = [a, b, c, d, e, f, g, m]) ∧ Hid (Lt32 a b c d e f g m) ∧ MemE w wx (hOf h0 h1 h2 h3 h4 h5 h6 h7)) (fun _ _ _ _ _ _ _ _ i _ => 64 - (intOf i).toNat)
  case atStart => exact ⟨0, h0, h1, h2, h3, h4, h5, h6, h7, by omega, rfl, rfl, rfl, rfl, rfl, rfl, rfl, rfl, rfl, rfl, HLt, HM⟩
  case round =>
    clear HM
    obtain ⟨j, a, b, c, d, e, f, g, m, hj, rfl, rfl, rfl, rfl, rfl, rfl, rfl, rfl, rfl, HR, HL8, HM⟩ := hrel
    by_cases hlt : j < 64
    · have jb' : (j : Int) < 64 := by omega
      have jb2 : (j : Int) < 80 := by omega
      have hix := fun W => run_index_row (P := Tryd.prog) W 76 63 64 (wordCells .u32 (schL s 48)) .i64 j (.int .u32 (sch s j : Nat)) Tryd.underlying76 (by kernel_rfl) _ Tryd.underlying63 rfl hlt (wordCells_get .u32 _ j (by rw [schL_length]; omega))
      have tk := HM.tab HT.out j (by omega)
      go_wp2_with (fail)
      go_quiet ((go_at_call 57; exact Calls.quiet_of_same (turn32_any _ _ _ (by decide) HL8.out.2.2.2.2.1)))
      clear tk hix
      have HM := HM.drewN nq
      generalize wr.drewN nq = w2 at HM ⊢
      go_wp2_with (go_at_call 57; refine (turn32_any _ _ _ (by decide) HL8.out.1).mono ?_; rintro x u ⟨rfl, rfl⟩)
      obtain ⟨la, lb, lc, ld, le, lf, lg, lm⟩ := HL8.out
      have hk : ((Sha5.kTab[j]?.getD 0 : Nat) : Int) / 4294967296 = ((kTab.getD j 0 : Nat) : Int) := by
        have := kTab_high j hlt
        rw [List.getD_eq_getElem?_getD] at this
        omega
      rw [show (if IntKind.u32.signed = true then (-1 : Int) else IntKind.u32.max) = IntKind.u32.max from rfl, us1_bits e le, us0_bits a la, ch_bits e f g le lf lg, maj_bits a b c la lb lc, hk]
      have t1 : (((m : Int) + (us1 e : Nat) + (ch e f g : Nat) + (kTab.getD j 0 : Nat) + (sch s j : Nat)) % 4294967296 + (((us0 a : Nat) : Int) + (maj a b c : Nat)) % 4294967296) % 4294967296 = ((((m + us1 e + ch e f g + kTab.getD j 0 + sch s j) % 4294967296 + (us0 a + maj a b c) % 4294967296) % 4294967296 : Nat) : Int) := by
        generalize us1 e = x1; generalize ch e f g = x2; generalize kTab.getD j 0 = x3; generalize sch s j = x4; generalize us0 a = x5; generalize maj a b c = x6; omega
      have t2 : ((d : Int) + ((m : Int) + (us1 e : Nat) + (ch e f g : Nat) + (kTab.getD j 0 : Nat) + (sch s j : Nat)) % 4294967296) % 4294967296 = (((d + (m + us1 e + ch e f g + kTab.getD j 0 + sch s j) % 4294967296) % 4294967296 : Nat) : Int) := by
        generalize us1 e = x1; generalize ch e f g = x2; generalize kTab.getD j 0 = x3; generalize sch s j = x4; omega
      rw [t1, t2]
      have hr : rnds (schL s 48) [h0, h1, h2, h3, h4, h5, h6, h7] (j + 1) = [((m + us1 e + ch e f g + kTab.getD j 0 + sch s j) % 4294967296 + (us0 a + maj a b c) % 4294967296) % 4294967296, a, b, c, (d + (m + us1 e + ch e f g + kTab.getD j 0 + sch s j) % 4294967296) % 4294967296, e, f, g] := by
        show rnd (kTab.getD j 0) ((schL s 48).getD j 0) (rnds (schL s 48) [h0, h1, h2, h3, h4, h5, h6, h7] j) = _
        rw [HR.out]; rfl
      exact ⟨⟨j + 1, _, a, b, c, _, e, f, g, by omega, by go_num, rfl, rfl, rfl, rfl, rfl, rfl, rfl, rfl, hr, ⟨Nat.mod_lt _ (by decide), la, lb, lc, Nat.mod_lt _ (by decide), le, lf, lg⟩, HM⟩, by simp [intOf]; omega⟩
    · obtain rfl : j = 64 := by omega
      rw [show ((64 : Nat) : Int) = 64 from rfl]
      clear hlt hj
      go_wp2_with (fail)
      go_loopw [118] (fun i wx => ∃ (j : Nat) (H : Nat → Nat), j ≤ 8 ∧ i = .int .i64 j ∧ Hid (∀ t, t < j → H t = (hOf h0 h1 h2 h3 h4 h5 h6 h7 t + hOf a b c d e f g m t) % 4294967296) ∧ Hid (∀ t, j ≤ t → H t = hOf h0 h1 h2 h3 h4 h5 h6 h7 t) ∧ MemE w wx H) (fun i _ => 8 - (intOf i).toNat)
      case atStart => exact ⟨0, hOf h0 h1 h2 h3 h4 h5 h6 h7, by omega, rfl, fun t ht => absurd ht (Nat.not_lt_zero t), fun _ _ => rfl, HM⟩
      case round =>
        clear HM
        obtain ⟨j, H, hj, rfl, HD, HU, HM⟩ := hrel
        by_cases hlt : j < 8
        · have jb' : (j : Int) < 8 := by omega
          have c1 := HM.hc j hlt
          have hf := HM.hf j
          have hix := fun W => run_index_row (P := Tryd.prog) W 64 63 8 #[.int .u32 (a : Nat), .int .u32 (b : Nat), .int .u32 (c : Nat), .int .u32 (d : Nat), .int .u32 (e : Nat), .int .u32 (f : Nat), .int .u32 (g : Nat), .int .u32 (m : Nat)] .i64 j _ Tryd.underlying64 (by kernel_rfl) _ Tryd.underlying63 rfl hlt (hOf_get .u32 a b c d e f g m j hlt)
          go_wp2_with (fail)
          have hv : (((H j : Nat) : Int) + (hOf a b c d e f g m j : Nat)) % 4294967296 = (((hOf h0 h1 h2 h3 h4 h5 h6 h7 j + hOf a b c d e f g m j) % 4294967296 : Nat) : Int) := by
            rw [HU.out j (Nat.le_refl _)]; omega
          rw [hv]
          refine ⟨⟨j + 1, fun i => if i = j then (hOf h0 h1 h2 h3 h4 h5 h6 h7 j + hOf a b c d e f g m j) % 4294967296 else H i, by omega, by go_num, fun t ht => ?_, fun t ht => ?_, HM.set j _⟩, by simp [intOf]; omega⟩
          · show (if t = j then _ else H t) = _
            split
            · next e => rw [e]
            · exact HD.out t (by omega)
          · show (if t = j then _ else H t) = _
            rw [if_neg (by omega)]; exact HU.out t (by omega)
        · obtain rfl : j = 8 := by omega
          rw [show ((8 : Nat) : Int) = 8 from rfl]
          have e : ∀ t, t < 8 → H t = (hOf h0 h1 h2 h3 h4 h5 h6 h7 t + hOf a b c d e f g m t) % 4294967296 := HD.out
          obtain ⟨m1, m2, m3, m4⟩ := HM
          have HN := Lib.hid (rowIs_heap m2 #[.int .u64 (H 0 : Nat), .int .u64 (H 1 : Nat), .int .u64 (H 2 : Nat), .int .u64 (H 3 : Nat), .int .u64 (H 4 : Nat), .int .u64 (H 5 : Nat), .int .u64 (H 6 : Nat), .int .u64 (H 7 : Nat)] rfl (Sha.lt8 rfl rfl rfl rfl rfl rfl rfl rfl))
          obtain ⟨c1, o1, o2, _⟩ := m3
          have HO := Lib.hid o1
          have HO2 := Lib.hid o2
          have HBl := Lib.hid m4
          have HE := Lib.hid e
          clear o1 o2 m1 m2 m4 e hlt hj
          go_upto_region 15 with (fail)
          apply wp_region_lit
          refine wpList_load_row rfl 68 _ rfl w.heap.size rfl 68 _ (0, 0) _ HN.out Tryd.underlying68 rfl (by kernel_rfl) ?_
          refine wpList_store_row rfl 68 _ _ rfl (w.heap.size + 2) _ rfl rfl 68 c1 HO.out (by kernel_rfl) HO2.out (words_one .u64 [H 0, H 1, H 2, H 3, H 4, H 5, H 6, H 7]) ?_
          go_wp2_with (fail)
          refine bodyPost_ret (v := .agg #[.int .u64 (H 0 : Nat), .int .u64 (H 1 : Nat), .int .u64 (H 2 : Nat), .int .u64 (H 3 : Nat), .int .u64 (H 4 : Nat), .int .u64 (H 5 : Nat), .int .u64 (H 6 : Nat), .int .u64 (H 7 : Nat)]) ?_ rfl ?_
          · exact results_cell_row (fn := Tryd.f54) Tryd.results54 _ _ (w.heap.size + 2) 68 _ (0, 0) _ rfl (setRow_heap _ _ _ _ _ _ HO.out) Tryd.underlying68 rfl (by kernel_rfl)
          · have e := HE.out
            refine ⟨H 0, H 1, H 2, H 3, H 4, H 5, H 6, H 7, ?_, ?_, rfl, below_setRow HBl.out (by omega) _⟩
            · unfold blk
              rw [HR.out, e 0 (by omega), e 1 (by omega), e 2 (by omega), e 3 (by omega), e 4 (by omega), e 5 (by omega), e 6 (by omega), e 7 (by omega)]
              rfl
            · rw [e 0 (by omega), e 1 (by omega), e 2 (by omega), e 3 (by omega), e 4 (by omega), e 5 (by omega), e 6 (by omega), e 7 (by omega)]
              exact ⟨Nat.mod_lt _ (by decide), Nat.mod_lt _ (by decide), Nat.mod_lt _ (by decide), Nat.mod_lt _ (by decide), Nat.mod_lt _ (by decide), Nat.mod_lt _ (by decide), Nat.mod_lt _ (by decide), Nat.mod_lt _ (by decide)⟩
end Go.Proofs.Im
