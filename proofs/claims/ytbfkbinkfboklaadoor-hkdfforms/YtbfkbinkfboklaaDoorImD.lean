/-
  Contracts of the developers' sha: the schedule of SHA-384.
-/
import Derived.Test.YtbfkbinkfboklaaDoorImA
import Derived.Test.YtbfkbinkfboklaaDoorImB
import Derived.Test.YtbfkbinkfboklaaDoorImL
import Derived.Test.YtbfkbinkfboklaaDoorSha5B
import Derived.Test.YtbfkbinkfboklaaDoorImC
import Derived.Deep.QuietTactic
import Derived.BigQuiet
import Derived.StillTailTactics
import Derived.Deep.DeepCutAuto
import Derived.Laws.CopyOwn
namespace Go.Proofs.Im5
open Go.RowKit Go.Proofs.Sha5 Go.Proofs.Im
open Go.Proofs.Sha (wordCells wordCells_get wordCells_size rowIs_of wpList_alloc_to)
/-- What schedule384 holds while it works: its boxed argument, its result, the schedule. -/
def MemD (w wr : World) (b W : Nat → Nat) : Prop :=
  wr.heap.size = w.heap.size + 3 ∧ wr.rowIs w.heap.size 71 128 (fun i => .int .u8 (b i : Nat)) ∧ wr.rowIs (w.heap.size + 1) 78 80 (fun _ => .int .u64 ((0 : Nat) : Int)) ∧
  wr.rowIs (w.heap.size + 2) 78 80 (fun i => .int .u64 (W i : Nat)) ∧ Below w.heap.size w wr
theorem MemD.set {w wr : World} {b W : Nat → Nat} (h : MemD w wr b W) (j v : Nat) : MemD w (wr.setCell ⟨w.heap.size + 2, j, none⟩ (.int .u64 v)) b (fun i => if i = j then v else W i) := by
  obtain ⟨h1, h2, h3, h5, h6⟩ := h
  refine ⟨by simpa using h1, h2.setOther (by simp only []; omega) _, h3.setOther (by simp only []; omega) _, (h5.set j _).congr fun i _ => ?_, h6.setCell (by simp only []; omega) _⟩
  simp only []
  split <;> rfl
theorem MemD.drew {w wr : World} {b W : Nat → Nat} (h : MemD w wr b W) : MemD w wr.drew b W := ⟨h.1, h.2.1.drew, h.2.2.1.drew, h.2.2.2.1.drew, h.2.2.2.2.drew⟩
theorem MemD.drewN {w wr : World} {b W : Nat → Nat} (h : MemD w wr b W) (q : Nat) : MemD w (wr.drewN q) b W :=
  ⟨by simpa using h.1, rowIs_drewN h.2.1 q, rowIs_drewN h.2.2.1 q, rowIs_drewN h.2.2.2.1 q, below_drewN h.2.2.2.2 q⟩
theorem MemD.bc {w wr : World} {b W : Nat → Nat} (h : MemD w wr b W) (t : Nat) (ht : t < 128) : wr.cell? ⟨w.heap.size, t, none⟩ = some (.int .u8 (b t : Nat)) := h.2.1.cell ht
theorem MemD.wc {w wr : World} {b W : Nat → Nat} (h : MemD w wr b W) (t : Nat) (ht : t < 80) : wr.cell? ⟨w.heap.size + 2, t, none⟩ = some (.int .u64 (W t : Nat)) := h.2.2.2.1.cell ht
theorem MemD.wf {w wr : World} {b W : Nat → Nat} (h : MemD w wr b W) (t : Nat) : wr.frozen? ⟨w.heap.size + 2, t, none⟩ = false := h.2.2.2.1.frozen t
theorem z80_row (w : World) : (w.alloc (.cells Z80 78)).rowIs w.heap.size 78 80 (fun _ => .int .u64 ((0 : Nat) : Int)) :=
  rowIs_of w Z80 78 80 _ rfl (fun i hi => by
    rw [show Z80 = wordCells .u64 (List.replicate 80 0) from rfl, wordCells_get .u64 _ i (by simpa using hi)]
    rw [show (List.replicate 80 0).getD i 0 = 0 by rw [List.getD_eq_getElem?_getD, List.getElem?_replicate]; split <;> rfl])
theorem memD_start (w : World) (B : Array Value) (b : Nat → Nat) (hB : B.size = 128) (hBc : ∀ i, i < 128 → B[i]? = some (.int .u8 (b i : Nat))) :
    MemD w (((w.alloc (.cells B 71)).alloc (.cells Z80 78)).alloc (.cells Z80 78)) b (fun _ => 0) := by
  have r0 := rowIs_of w B 71 128 (fun i => .int .u8 (b i : Nat)) hB hBc
  have bA : Below w.heap.size w (w.alloc (.cells B 71)) := (Below.refl _ _).alloc (Nat.le_refl _) _
  have sA : (w.alloc (.cells B 71)).heap.size = w.heap.size + 1 := by simp
  generalize w.alloc (.cells B 71) = A at r0 bA sA ⊢
  have r1 := z80_row A
  have r0 := r0.alloc (.cells Z80 78)
  have bB : Below w.heap.size w (A.alloc (.cells Z80 78)) := bA.alloc (by omega) _
  have sB : (A.alloc (.cells Z80 78)).heap.size = w.heap.size + 2 := by simp [sA]
  generalize A.alloc (.cells Z80 78) = C at r0 r1 bB sB ⊢
  have r2 := z80_row C
  rw [sA] at r1
  rw [sB] at r2
  exact ⟨by simp [sB], r0.alloc _, r1.alloc _, r2, bB.alloc (by omega) _⟩
theorem beN8w (s : ByteArray) (b : Nat → Nat) (j : Nat) (h : ∀ i, i < 128 → b i = byt s i) (hj : j < 16) (k : Nat) (hk : k ≤ 8) : beN (fun i => b (8 * j + i)) k = wpart s j k := by
  induction k with
  | zero => rfl
  | succ k ih =>
    show beN (fun i => b (8 * j + i)) k * 256 + b (8 * j + k) = wpart s j k * 256 + byt s (8 * j + k)
    rw [ih (by omega), h _ (by omega)]
theorem beN8 (s : ByteArray) (b : Nat → Nat) (j : Nat) (h : ∀ i, i < 128 → b i = byt s i) (hj : j < 16) : beN (fun i => b (8 * j + i)) 8 = word s j := beN8w s b j h hj 8 (Nat.le_refl _)
set_option maxHeartbeats 1000000 in
set_option maxRecDepth 100000 in
theorem sched384_any (s : ByteArray) (b : Nat → Nat) (B : Array Value) (w : World) (hB : B.size = 128) (hBc : ∀ i, i < 128 → B[i]? = some (.int .u8 (b i : Nat))) (hb : ∀ i, b i < 256) (hs : ∀ i, i < 128 → b i = byt s i) :
    Calls Tryd.prog 58 #[.agg B] w fun e w' => e = .returned (.agg (wordCells .u64 (schL s 64))) ∧ Below w.heap.size w w' := by
  have HS := Lib.hid hs
  have HB := Lib.hid hb
  have H0 := Lib.hid (memD_start w B b hB hBc)
  clear hs hb hB hBc
  go_enter Tryd.func58, Tryd.ntmps58
  go_upto_region 0 with (fail)
  apply wp_region_lit
  refine wpList_box_to rfl 71 _ rfl B rfl w.heap.size rfl ?_
  refine wpList_alloc_to rfl 78 rfl Z80 (w.heap.size + 1) (by simp) alloc80 ?_
  go_upto_region 1 with (fail)
  apply wp_region_lit
  refine wpList_alloc_to rfl 78 rfl Z80 (w.heap.size + 2) (by simp) alloc80 ?_
  go_wp2_with (fail)
  go_loopw [8] (fun i wr => ∃ (j : Nat) (W : Nat → Nat), j ≤ 16 ∧ i = .int .i64 j ∧ Hid (∀ t, t < j → W t = word s t) ∧ Hid (∀ t, W t < 18446744073709551616) ∧ MemD w wr b W) (fun i _ => 16 - (intOf i).toNat)
  case atStart =>
    refine ⟨0, fun _ => 0, by omega, rfl, fun t ht => absurd ht (Nat.not_lt_zero t), fun t => Nat.zero_lt_of_lt (show 1 < 18446744073709551616 by decide), H0.out⟩
  case round =>
    obtain ⟨j, W, hj, rfl, HW, HL, HM⟩ := hrel
    by_cases hlt : j < 16
    · have jb' : (j : Int) < 80 := by omega
      have cj := HM.wc j (by omega)
      have hf := HM.wf j
      have hsl := slice128 wr w.heap.size 0 (8 * j) 8 (8 * (j : Int)) (8 * (j : Int) + 8) (by omega) (by omega) (by omega) (by omega)
      rw [Nat.zero_add] at hsl
      go_wp2_with (go_at_call 60; refine (getWord_any (fun i => b (8 * j + i)) w.heap.size (8 * j) 8 _ _ (by omega) (fun i => HB.out _) (fun i hi => HM.bc _ (by omega))).mono ?_; rintro e u ⟨rfl, rfl⟩)
      rw [beN8 s b j HS.out hlt]
      refine ⟨⟨j + 1, fun i => if i = j then word s j else W i, by omega, by go_num, fun t ht => ?_, fun t => ?_, HM.set j (word s j)⟩, by simp [intOf]; omega⟩
      · show (if t = j then word s j else W t) = word s t
        split
        · next e => rw [e]
        · exact HW.out t (by omega)
      · show (if t = j then word s j else W t) < 18446744073709551616
        split
        · exact word_lt s j
        · exact HL.out t
    · have HW2 : Hid (∀ t, t < 16 → W t = sch s t) := fun t ht => by rw [HW.out t (by omega), sch_word s t ht]
      clear HW hj
      go_wp2_with (fail)
      clear hlt
      go_loopw [5] (fun i wx => ∃ (j : Nat) (W : Nat → Nat), 16 ≤ j ∧ j ≤ 80 ∧ i = .int .i64 j ∧ Hid (∀ t, t < j → W t = sch s t) ∧ Hid (∀ t, W t < 18446744073709551616) ∧ MemD w wx b W) (fun i _ => 80 - (intOf i).toNat)
      case atStart => exact ⟨16, W, by omega, by omega, rfl, HW2, HL, HM⟩
      case round =>
        clear HW2 HL HM
        obtain ⟨j, W, hj16, hj, rfl, HW, HL, HM⟩ := hrel
        by_cases hlt : j < 80
        · have c15 := HM.wc (j - 15) (by omega)
          have c2 := HM.wc (j - 2) (by omega)
          have jb' : (j : Int) < 80 := by omega
          have z15 : (0 : Int) ≤ (j : Int) - 15 := by omega
          have z2 : (0 : Int) ≤ (j : Int) - 2 := by omega
          have z16 : (0 : Int) ≤ (j : Int) - 16 := by omega
          have z7 : (0 : Int) ≤ (j : Int) - 7 := by omega
          have q15 : (15 : Int) ≤ (j : Int) := by omega
          have q2 : (2 : Int) ≤ (j : Int) := by omega
          have q16 : (16 : Int) ≤ (j : Int) := by omega
          have q7 : (7 : Int) ≤ (j : Int) := by omega
          have b15 : (j : Int) - 15 < 80 := by omega
          have b2 : (j : Int) - 2 < 80 := by omega
          have b16 : (j : Int) - 16 < 80 := by omega
          have b7 : (j : Int) - 7 < 80 := by omega
          have y15 : ((j : Int) - 15).toNat = j - 15 := by omega
          have y2 : ((j : Int) - 2).toNat = j - 2 := by omega
          have y16 : ((j : Int) - 16).toNat = j - 16 := by omega
          have y7 : ((j : Int) - 7).toNat = j - 7 := by omega
          have x15 : IntKind.i64.wrap ((j : Int) - 15) = (j : Int) - 15 := IntWalk.i64_in _ (by omega)
          have x2 : IntKind.i64.wrap ((j : Int) - 2) = (j : Int) - 2 := IntWalk.i64_in _ (by omega)
          have x16 : IntKind.i64.wrap ((j : Int) - 16) = (j : Int) - 16 := IntWalk.i64_in _ (by omega)
          have x7 : IntKind.i64.wrap ((j : Int) - 7) = (j : Int) - 7 := IntWalk.i64_in _ (by omega)
          go_wp2_with (fail)
          go_quiet (fail)
          clear c15 c2
          have HM := HM.drewN nq
          generalize wr.drewN nq = w2 at HM ⊢
          have c16 := HM.wc (j - 16) (by clear x15 x2 x16 x7; omega)
          have c7 := HM.wc (j - 7) (by clear x15 x2 x16 x7; omega)
          have cj := HM.wc j (by clear x15 x2 x16 x7; omega)
          have hf := HM.wf j
          have jn : j < 80 := hlt
          go_wp2_with (fail)
          refine wp_region_still_tail 29 (by kernel_rfl) (by kernel_rfl) ?_
          simp only [List.take_succ_cons, List.take_zero, List.drop_succ_cons, List.drop_zero]
          repeat (first | still_step | still_call (turn64_any _ _ _ (by decide) (HL.out _)))
          try refine wpStill_nil ?_
          change wpList _ _ _ _ _ w2.drew
          clear x15 x2 x16 x7
          go_wp2_with (fail)
          have hm := (HM.set j (sch s j)).drew
          rw [ls0_bits _ (HL.out _), ls1_bits _ (HL.out _)]
          have hv : IntKind.u64.wrap (IntKind.u64.wrap (IntKind.u64.wrap (((W (j - 16) : Nat) : Int) + (ls0 (W (j - 15)) : Nat)) + (W (j - 7) : Nat)) + (ls1 (W (j - 2)) : Nat)) = (sch s j : Nat) := by
            simp only [IntKind.wrap_u64]
            rw [sch_next s j hj16 jn, ← HW.out (j - 16) (by omega), ← HW.out (j - 15) (by omega), ← HW.out (j - 7) (by omega), ← HW.out (j - 2) (by omega)]
            generalize ls0 (W (j - 15)) = p; generalize ls1 (W (j - 2)) = q; omega
          rw [hv]
          refine ⟨⟨j + 1, fun i => if i = j then sch s j else W i, by omega, by omega, by go_num, fun t ht => ?_, fun t => ?_, hm⟩, by simp [intOf]; omega⟩
          · show (if t = j then sch s j else W t) = sch s t
            split
            · next e => rw [e]
            · exact HW.out t (by omega)
          · show (if t = j then sch s j else W t) < 18446744073709551616
            split
            · exact sch_lt s j jn
            · exact HL.out t
        · have HW2 : Hid (∀ t, t < 80 → W t = sch s t) := fun t ht => HW.out t (by omega)
          clear HW hj16
          obtain ⟨m1, m2, m3, m4, m5⟩ := HM
          have n1 := words_heap m4 (schL s 64) (by rw [schL_length]) HW2.out
          obtain ⟨c1, o1, o2, _⟩ := m3
          have sz : (wordCells .u64 (schL s 64)).size = 80 := by rw [wordCells_size, schL_length]
          have HN := Lib.hid n1
          have HO := Lib.hid o1
          have HS1 := Lib.hid sz
          have HS2 := Lib.hid o2
          have HBl := Lib.hid m5
          clear n1 o1 sz o2 m1 m2 m4 m5 HS HB H0 HL HW2
          obtain rfl : j = 80 := by omega
          rw [show ((80 : Nat) : Int) = 80 from rfl]
          clear hlt hj
          go_upto_region 12 with (fail)
          apply wp_region_lit
          refine wpList_load_row rfl 78 _ rfl (w.heap.size + 2) rfl 78 (wordCells .u64 (schL s 64)) (0, 0) _ HN.out Tryd.underlying78 rfl (by rw [HS1.out]; kernel_rfl) ?_
          refine wpList_store_row rfl 78 _ _ rfl (w.heap.size + 1) (wordCells .u64 (schL s 64)) rfl rfl 78 c1 HO.out (by rw [HS1.out]; kernel_rfl) (by rw [HS1.out, HS2.out]) (words_one _ _) ?_
          go_wp2_with (fail)
          refine bodyPost_ret (v := .agg (wordCells .u64 (schL s 64))) ?_ rfl ?_
          · exact results_cell_row (fn := Tryd.f58) Tryd.results58 _ _ (w.heap.size + 1) 78 _ (0, 0) _ rfl (setRow_heap _ _ _ _ _ _ HO.out) Tryd.underlying78 rfl (by rw [HS1.out]; kernel_rfl)
          · exact ⟨rfl, below_setRow HBl.out (by omega) _⟩
end Go.Proofs.Im5
