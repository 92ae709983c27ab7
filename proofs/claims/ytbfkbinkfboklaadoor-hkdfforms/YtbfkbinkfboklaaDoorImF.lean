/-
  Contracts of the developers' sha: one block of SHA-384.
-/
import Derived.Test.YtbfkbinkfboklaaDoorImD
import Derived.Test.YtbfkbinkfboklaaDoorImE
namespace Go.Proofs.Im5
open Go.RowKit Go.Proofs.Sha5 Go.Proofs.Im
open Go.Proofs.Sha (wordCells wordCells_get wordCells_size rowIs_of wpList_alloc_to)
/-- A block's answer. -/
def Mix8 (s : ByteArray) (v : List Nat) (w : World) (e : Ending) (w' : World) : Prop :=
  ∃ x0 x1 x2 x3 x4 x5 x6 x7 : Nat, blk s v = [x0, x1, x2, x3, x4, x5, x6, x7] ∧ Lt64 x0 x1 x2 x3 x4 x5 x6 x7 ∧ e = .returned (.agg #[.int .u64 x0, .int .u64 x1, .int .u64 x2, .int .u64 x3, .int .u64 x4, .int .u64 x5, .int .u64 x6, .int .u64 x7]) ∧ Below w.heap.size w w'
set_option maxHeartbeats 2000000 in
set_option maxRecDepth 100000 in
theorem mix384_any (s : ByteArray) (b : Nat → Nat) (B : Array Value) (h0 h1 h2 h3 h4 h5 h6 h7 : Nat) (w : World) (hB : B.size = 128) (hBc : ∀ i, i < 128 → B[i]? = some (.int .u8 (b i : Nat))) (hb : ∀ i, b i < 256) (hs : ∀ i, i < 128 → b i = byt s i)
    (hl : Lt64 h0 h1 h2 h3 h4 h5 h6 h7) (hT : Tab w) :
    Calls Tryd.prog 55 #[.agg #[.int .u64 h0, .int .u64 h1, .int .u64 h2, .int .u64 h3, .int .u64 h4, .int .u64 h5, .int .u64 h6, .int .u64 h7], .agg B] w (Mix8 s [h0, h1, h2, h3, h4, h5, h6, h7] w) := by
  have HS := Lib.hid hs
  have HBy := Lib.hid hb
  have HBs := Lib.hid hB
  have HBc := Lib.hid hBc
  have HLt := Lib.hid hl
  have HT := Lib.hid hT
  have HM := Im.memE_start w B h0 h1 h2 h3 h4 h5 h6 h7
  have HBf := Lib.hid (Im.memE_buf w B #[.int .u64 h0, .int .u64 h1, .int .u64 h2, .int .u64 h3, .int .u64 h4, .int .u64 h5, .int .u64 h6, .int .u64 h7] #[.int .u64 0, .int .u64 0, .int .u64 0, .int .u64 0, .int .u64 0, .int .u64 0, .int .u64 0, .int .u64 0] 68)
  obtain ⟨la, lb, lc, ld, le, lf, lg, lm⟩ := hl
  clear hs hb hB hBc hT la lb lc ld le lf lg lm
  go_enter Tryd.func55, Tryd.ntmps55
  go_upto_region 0 with (fail)
  apply wp_region_lit
  refine wpList_box_to rfl 68 _ rfl _ rfl w.heap.size rfl ?_
  refine wpList_box_to rfl 71 _ rfl B rfl (w.heap.size + 1) (by simp) ?_
  go_upto_region 1 with (fail)
  generalize ((w.alloc (.cells #[.int .u64 h0, .int .u64 h1, .int .u64 h2, .int .u64 h3, .int .u64 h4, .int .u64 h5, .int .u64 h6, .int .u64 h7] 68)).alloc (.cells B 71)).alloc (.cells #[.int .u64 0, .int .u64 0, .int .u64 0, .int .u64 0, .int .u64 0, .int .u64 0, .int .u64 0, .int .u64 0] 68) = w1 at HM HBf ⊢
  have g0 : w1.cell? ⟨w.heap.size, 0, none⟩ = some (.int .u64 (h0 : Nat)) := HM.hc 0 (by omega)
  have g1 : w1.cell? ⟨w.heap.size, 1, none⟩ = some (.int .u64 (h1 : Nat)) := HM.hc 1 (by omega)
  have g2 : w1.cell? ⟨w.heap.size, 2, none⟩ = some (.int .u64 (h2 : Nat)) := HM.hc 2 (by omega)
  have g3 : w1.cell? ⟨w.heap.size, 3, none⟩ = some (.int .u64 (h3 : Nat)) := HM.hc 3 (by omega)
  go_quiet (fail)
  clear g0 g1 g2 g3
  have HM := HM.drewN nq
  have HBf : Hid ((w1.drewN nq).heap[w.heap.size + 1]? = some (.cells B 71 (0, 0))) := by have := HBf.out; simpa [Hid] using this
  generalize w1.drewN nq = w2 at HM HBf ⊢
  have g4 : w2.cell? ⟨w.heap.size, 4, none⟩ = some (.int .u64 (h4 : Nat)) := HM.hc 4 (by omega)
  have g5 : w2.cell? ⟨w.heap.size, 5, none⟩ = some (.int .u64 (h5 : Nat)) := HM.hc 5 (by omega)
  have g6 : w2.cell? ⟨w.heap.size, 6, none⟩ = some (.int .u64 (h6 : Nat)) := HM.hc 6 (by omega)
  have g7 : w2.cell? ⟨w.heap.size, 7, none⟩ = some (.int .u64 (h7 : Nat)) := HM.hc 7 (by omega)
  go_wp2_with (fail)
  go_quiet (fail)
  clear g4 g5 g6 g7
  have HM := HM.drewN nq
  have HBf : Hid ((w2.drewN nq).heap[w.heap.size + 1]? = some (.cells B 71 (0, 0))) := by have := HBf.out; simpa [Hid] using this
  generalize w2.drewN nq = w3 at HM HBf ⊢
  go_upto_region 3 with (fail)
  apply wp_region_lit
  refine wpList_load_row rfl 71 _ rfl (w.heap.size + 1) rfl 71 B (0, 0) _ HBf.out Tryd.underlying71 rfl (by rw [HBs.out]; kernel_rfl) ?_
  go_wp2_with (go_at_call 58; refine (sched384_any s b B _ HBs.out HBc.out HBy.out HS.out).mono ?_; rintro e u ⟨rfl, hbu⟩)
  have HM := HM.below hbu
  clear hbu HBf HBs HBc HBy HS
  go_loopw [5, 6, 7, 8, 9, 10, 11, 12, 37] (fun ra rb rc rd re rf rg rm i wx => ∃ (j a b c d e f g m : Nat), j ≤ 80 ∧ i = .int .i64 j ∧ ra = .int .u64 (a : Nat) ∧ rb = .int .u64 (b : Nat) ∧ rc = .int .u64 (c : Nat) ∧ rd = .int .u64 (d : Nat) ∧ re = .int .u64 (e : Nat) ∧ rf = .int .u64 (f : Nat) ∧ rg = .int .u64 (g : Nat) ∧ rm = .int .u64 (m : Nat) ∧ Hid (rnds (schL s 64) [h0, h1, h2, h3, h4, h5, h6, h7] j = [a, b, c, d, e, f, g, m]) ∧ Hid (Lt64 a b c d e f g m) ∧ Im.MemE w wx (Sha.hOf h0 h1 h2 h3 h4 h5 h6 h7)) (fun _ _ _ _ _ _ _ _ i _ => 80 - (intOf i).toNat)
  case atStart => exact ⟨0, h0, h1, h2, h3, h4, h5, h6, h7, by omega, rfl, rfl, rfl, rfl, rfl, rfl, rfl, rfl, rfl, rfl, HLt, HM⟩
  case round =>
    clear HM
    obtain ⟨j, a, b, c, d, e, f, g, m, hj, rfl, rfl, rfl, rfl, rfl, rfl, rfl, rfl, rfl, HR, HL8, HM⟩ := hrel
    by_cases hlt : j < 80
    · have jb' : (j : Int) < 80 := by omega
      have hix := fun W => run_index_row (P := Tryd.prog) W 78 67 80 (wordCells .u64 (schL s 64)) .i64 j (.int .u64 (sch s j : Nat)) Tryd.underlying78 (by kernel_rfl) _ Tryd.underlying67 rfl hlt (wordCells_get .u64 _ j (by rw [schL_length]; omega))
      have tk := HM.tab HT.out j (by omega)
      go_wp2_with (fail)
      go_quiet ((go_at_call 59; exact Calls.quiet_of_same (turn64_any _ _ _ (by decide) HL8.out.2.2.2.2.1)))
      clear tk hix
      have HM := HM.drewN nq
      generalize wr.drewN nq = w2 at HM ⊢
      go_wp2_with (go_at_call 59; refine (turn64_any _ _ _ (by decide) HL8.out.1).mono ?_; rintro x u ⟨rfl, rfl⟩)
      obtain ⟨la, lb, lc, ld, le, lf, lg, lm⟩ := HL8.out
      rw [show (if IntKind.u64.signed = true then (-1 : Int) else IntKind.u64.max) = IntKind.u64.max from rfl, us1_bits e le, us0_bits a la, ch_bits e f g le lf lg, maj_bits a b c la lb lc, ← List.getD_eq_getElem?_getD]
      have t1 : IntKind.u64.wrap (IntKind.u64.wrap (IntKind.u64.wrap (IntKind.u64.wrap (IntKind.u64.wrap ((m : Int) + (us1 e : Nat)) + (ch e f g : Nat)) + (kTab.getD j 0 : Nat)) + (sch s j : Nat)) + IntKind.u64.wrap (((us0 a : Nat) : Int) + (maj a b c : Nat))) = ((((m + us1 e + ch e f g + kTab.getD j 0 + sch s j) % 18446744073709551616 + (us0 a + maj a b c) % 18446744073709551616) % 18446744073709551616 : Nat) : Int) := by
        simp only [IntKind.wrap_u64]
        generalize us1 e = x1; generalize ch e f g = x2; generalize kTab.getD j 0 = x3; generalize sch s j = x4; generalize us0 a = x5; generalize maj a b c = x6; omega
      have t2 : IntKind.u64.wrap ((d : Int) + IntKind.u64.wrap (IntKind.u64.wrap (IntKind.u64.wrap (IntKind.u64.wrap ((m : Int) + (us1 e : Nat)) + (ch e f g : Nat)) + (kTab.getD j 0 : Nat)) + (sch s j : Nat))) = (((d + (m + us1 e + ch e f g + kTab.getD j 0 + sch s j) % 18446744073709551616) % 18446744073709551616 : Nat) : Int) := by
        simp only [IntKind.wrap_u64]
        generalize us1 e = x1; generalize ch e f g = x2; generalize kTab.getD j 0 = x3; generalize sch s j = x4; omega
      rw [t1, t2]
      have hr : rnds (schL s 64) [h0, h1, h2, h3, h4, h5, h6, h7] (j + 1) = [((m + us1 e + ch e f g + kTab.getD j 0 + sch s j) % 18446744073709551616 + (us0 a + maj a b c) % 18446744073709551616) % 18446744073709551616, a, b, c, (d + (m + us1 e + ch e f g + kTab.getD j 0 + sch s j) % 18446744073709551616) % 18446744073709551616, e, f, g] := by
        show rnd (kTab.getD j 0) ((schL s 64).getD j 0) (rnds (schL s 64) [h0, h1, h2, h3, h4, h5, h6, h7] j) = _
        rw [HR.out]; rfl
      exact ⟨⟨j + 1, _, a, b, c, _, e, f, g, by omega, by go_num, rfl, rfl, rfl, rfl, rfl, rfl, rfl, rfl, hr, ⟨Nat.mod_lt _ (by decide), la, lb, lc, Nat.mod_lt _ (by decide), le, lf, lg⟩, HM⟩, by simp [intOf]; omega⟩
    · obtain rfl : j = 80 := by omega
      rw [show ((80 : Nat) : Int) = 80 from rfl]
      clear hlt hj
      go_wp2_with (fail)
      go_loopw [108] (fun i wx => ∃ (j : Nat) (H : Nat → Nat), j ≤ 8 ∧ i = .int .i64 j ∧ Hid (∀ t, t < j → H t = (Sha.hOf h0 h1 h2 h3 h4 h5 h6 h7 t + Sha.hOf a b c d e f g m t) % 18446744073709551616) ∧ Hid (∀ t, j ≤ t → H t = Sha.hOf h0 h1 h2 h3 h4 h5 h6 h7 t) ∧ Im.MemE w wx H) (fun i _ => 8 - (intOf i).toNat)
      case atStart => exact ⟨0, Sha.hOf h0 h1 h2 h3 h4 h5 h6 h7, by omega, rfl, fun t ht => absurd ht (Nat.not_lt_zero t), fun _ _ => rfl, HM⟩
      case round =>
        clear HM
        obtain ⟨j, H, hj, rfl, HD, HU, HM⟩ := hrel
        by_cases hlt : j < 8
        · have jb' : (j : Int) < 8 := by omega
          have c1 := HM.hc j hlt
          have hf := HM.hf j
          have hix := fun W => run_index_row (P := Tryd.prog) W 68 67 8 #[.int .u64 (a : Nat), .int .u64 (b : Nat), .int .u64 (c : Nat), .int .u64 (d : Nat), .int .u64 (e : Nat), .int .u64 (f : Nat), .int .u64 (g : Nat), .int .u64 (m : Nat)] .i64 j _ Tryd.underlying68 (by kernel_rfl) _ Tryd.underlying67 rfl hlt (hOf_get .u64 a b c d e f g m j hlt)
          go_wp2_with (fail)
          have hv : IntKind.u64.wrap (((H j : Nat) : Int) + (Sha.hOf a b c d e f g m j : Nat)) = (((Sha.hOf h0 h1 h2 h3 h4 h5 h6 h7 j + Sha.hOf a b c d e f g m j) % 18446744073709551616 : Nat) : Int) := by
            rw [HU.out j (Nat.le_refl _), IntKind.wrap_u64]; omega
          rw [hv]
          refine ⟨⟨j + 1, fun i => if i = j then (Sha.hOf h0 h1 h2 h3 h4 h5 h6 h7 j + Sha.hOf a b c d e f g m j) % 18446744073709551616 else H i, by omega, by go_num, fun t ht => ?_, fun t ht => ?_, HM.set j _⟩, by simp [intOf]; omega⟩
          · show (if t = j then _ else H t) = _
            split
            · next e => rw [e]
            · exact HD.out t (by omega)
          · show (if t = j then _ else H t) = _
            rw [if_neg (by omega)]; exact HU.out t (by omega)
        · obtain rfl : j = 8 := by omega
          rw [show ((8 : Nat) : Int) = 8 from rfl]
          have e : ∀ t, t < 8 → H t = (Sha.hOf h0 h1 h2 h3 h4 h5 h6 h7 t + Sha.hOf a b c d e f g m t) % 18446744073709551616 := HD.out
          obtain ⟨m1, m2, m3, m4⟩ := HM
          have HN := Lib.hid (rowIs_heap m2 #[.int .u64 (H 0 : Nat), .int .u64 (H 1 : Nat), .int .u64 (H 2 : Nat), .int .u64 (H 3 : Nat), .int .u64 (H 4 : Nat), .int .u64 (H 5 : Nat), .int .u64 (H 6 : Nat), .int .u64 (H 7 : Nat)] rfl (Sha.lt8 rfl rfl rfl rfl rfl rfl rfl rfl))
          obtain ⟨c1, o1, o2, _⟩ := m3
          have HO := Lib.hid o1
          have HO2 := Lib.hid o2
          have HBl := Lib.hid m4
          have HE := Lib.hid e
          clear o1 o2 m1 m2 m4 e hlt hj
          go_upto_region 15 with (fail)
          apply wp_region_lit
          refine wpList_load_row rfl 68 _ rfl w.heap.size rfl 68 _ (0, 0) _ HN.out Tryd.underlying68 rfl (by kernel_rfl) ?_
          refine wpList_store_row rfl 68 _ _ rfl (w.heap.size + 2) _ rfl rfl 68 c1 HO.out (by kernel_rfl) HO2.out (words_one .u64 [H 0, H 1, H 2, H 3, H 4, H 5, H 6, H 7]) ?_
          go_wp2_with (fail)
          refine bodyPost_ret (v := .agg #[.int .u64 (H 0 : Nat), .int .u64 (H 1 : Nat), .int .u64 (H 2 : Nat), .int .u64 (H 3 : Nat), .int .u64 (H 4 : Nat), .int .u64 (H 5 : Nat), .int .u64 (H 6 : Nat), .int .u64 (H 7 : Nat)]) ?_ rfl ?_
          · exact results_cell_row (fn := Tryd.f55) Tryd.results55 _ _ (w.heap.size + 2) 68 _ (0, 0) _ rfl (setRow_heap _ _ _ _ _ _ HO.out) Tryd.underlying68 rfl (by kernel_rfl)
          · have e := HE.out
            refine ⟨H 0, H 1, H 2, H 3, H 4, H 5, H 6, H 7, ?_, ?_, rfl, below_setRow HBl.out (by omega) _⟩
            · unfold blk
              rw [HR.out, e 0 (by omega), e 1 (by omega), e 2 (by omega), e 3 (by omega), e 4 (by omega), e 5 (by omega), e 6 (by omega), e 7 (by omega)]
              rfl
            · rw [e 0 (by omega), e 1 (by omega), e 2 (by omega), e 3 (by omega), e 4 (by omega), e 5 (by omega), e 6 (by omega), e 7 (by omega)]
              exact ⟨Nat.mod_lt _ (by decide), Nat.mod_lt _ (by decide), Nat.mod_lt _ (by decide), Nat.mod_lt _ (by decide), Nat.mod_lt _ (by decide), Nat.mod_lt _ (by decide), Nat.mod_lt _ (by decide), Nat.mod_lt _ (by decide)⟩
end Go.Proofs.Im5
