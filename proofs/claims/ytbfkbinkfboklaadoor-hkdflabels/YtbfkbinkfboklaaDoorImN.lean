/-
  The developers' Hash: digest.
-/
import Derived.Test.YtbfkbinkfboklaaDoorImM
namespace Go.Proofs.Im
open Go.RowKit Go.Proofs.Sha Go.Proofs.Be
theorem flat_get (f : Nat → List UInt8) (c : Nat) (hc : 0 < c) (hf : ∀ x, (f x).length = c) : ∀ (l : List Nat) (k : Nat), k < c * l.length → (l.flatMap f).getD k 0 = (f (l.getD (k / c) 0)).getD (k % c) 0
  | [], k, h => by simp at h
  | x :: l, k, h => by
    rw [List.flatMap_cons, List.getD_eq_getElem?_getD]
    by_cases hk : k < c
    · rw [List.getElem?_append_left (by rw [hf]; exact hk), Nat.div_eq_of_lt hk, Nat.mod_eq_of_lt hk, ← List.getD_eq_getElem?_getD]; rfl
    · have h2 : k - c < c * l.length := by rw [List.length_cons, Nat.mul_add, Nat.mul_one] at h; omega
      have hd : k / c = (k - c) / c + 1 := by
        conv => lhs; rw [show k = (k - c) + c by omega]
        exact Nat.add_div_right _ hc
      have hm : k % c = (k - c) % c := by
        conv => lhs; rw [show k = (k - c) + c by omega]
        exact Nat.add_mod_right _ _
      rw [List.getElem?_append_right (by rw [hf]; omega), hf, ← List.getD_eq_getElem?_getD, flat_get f c hc hf l (k - c) h2, hd, hm]; rfl
/-- Byte k of words of c bytes. -/
def outB (st : Nat → Nat) (c k : Nat) : Nat := beB (st (k / c)) c (k % c)
theorem stL_get (st : Nat → Nat) (i : Nat) (hi : i < 8) : (stL st).getD i 0 = st i := Sha.lt8 (P := fun i => (stL st).getD i 0 = st i) rfl rfl rfl rfl rfl rfl rfl rfl i hi
/-- The first n words as a text. -/
def wordsS (l : List Nat) (c : Nat) : ByteArray := ⟨(l.flatMap fun x => beL x c).toArray⟩
theorem outB_text (st : Nat → Nat) (c n : Nat) (hc : 0 < c) (hn : n ≤ 8) : strOfNums ((List.range (c * n)).map fun k => (outB st c k : Int)) = wordsS ((stL st).take n) c := by
  unfold strOfNums wordsS
  congr 1
  congr 1
  have hl : ((stL st).take n).length = n := by rw [List.length_take]; show min n 8 = n; omega
  have hfl : (((stL st).take n).flatMap fun x => beL x c).length = c * n := by rw [flat_len _ c (fun x => beL_length x c), hl]
  apply List.ext_getElem?
  intro k
  by_cases hk : k < c * n
  · have h1 := flat_get (fun x => beL x c) c hc (fun x => beL_length x c) ((stL st).take n) k (by rw [hl]; exact hk)
    have hkc : k / c < n := Nat.div_lt_of_lt_mul hk
    rw [beL_get _ c _ (Nat.mod_lt _ hc)] at h1
    have h2 : ((stL st).take n).getD (k / c) 0 = st (k / c) := by
      rw [List.getD_eq_getElem?_getD, List.getElem?_take, if_pos hkc, ← List.getD_eq_getElem?_getD, stL_get st _ (by omega)]
    rw [h2] at h1
    have hr : (((stL st).take n).flatMap fun x => beL x c)[k]? = some (UInt8.ofNat (beB (st (k / c)) c (k % c))) := by
      have hk' : k < (((stL st).take n).flatMap fun x => beL x c).length := by rw [hfl]; exact hk
      rw [List.getD_eq_getElem?_getD, List.getElem?_eq_getElem hk'] at h1
      rw [List.getElem?_eq_getElem hk']
      exact congrArg some h1
    rw [hr]
    simp [hk, outB]
  · rw [List.getElem?_eq_none (by simp; omega), List.getElem?_eq_none (by rw [hfl]; omega)]
theorem beL8 (x : Nat) : beL x 8 = beL (x / 4294967296) 4 ++ beL (x % 4294967296) 4 := by
  simp only [beL, List.nil_append, List.cons_append, List.cons.injEq, and_true]
  refine ⟨?_, ?_, ?_, ?_, ?_, ?_, ?_, ?_⟩ <;> (congr 1; omega)
theorem slice_own (w : World) (t L n C : Nat) (l h : Int) (hl : l = (L : Nat)) (hh : h = ((L + n : Nat) : Int)) (h2 : L + n ≤ C) (hn : 0 < n) :
    (Instr.sliceAt 35 (.slice (some ⟨t, 0, none⟩) C C) (some (.int .i64 l)) (some (.int .i64 h)) none).run Tryd.prog w = .ok (.slice (some ⟨t, L, none⟩) n (C - L)) w := by
  subst hl hh
  have hz : ∀ w, (sizeOf 5).run Tryd.prog w = .ok 1 w := by intro w; kernel_rfl
  have hu : Tryd.prog.underlying 35 = some (.slice 5) := Tryd.underlying35
  have e1 : ((L + n : Nat) : Int).toNat = L + n := Int.toNat_natCast _
  have e2 : (L : Int).toNat = L := Int.toNat_natCast _
  have b1 : ∀ w, (Instr.sliceBound (.int .i64 ((L + n : Nat) : Int)) C .sliceAcap).run Tryd.prog w = .ok (L + n) w := fun w => by
    have := run_sliceBound (P := Tryd.prog) (w := w) .i64 ((L + n : Nat) : Int) C .sliceAcap (by omega) (by omega)
    rw [e1] at this; exact this
  have b2 : ∀ w, (Instr.sliceBound (.int .i64 (L : Int)) (L + n) .sliceB).run Tryd.prog w = .ok L w := fun w => by
    have := run_sliceBound (P := Tryd.prog) (w := w) .i64 (L : Int) (L + n) .sliceB (by omega) (by omega)
    rw [e2] at this; exact this
  have e3 : L + n - L = n := by omega
  have h4 : ¬ C = L := by omega
  rw [run_sliceAt_slice (P := Tryd.prog) (h := hu)]
  simp only [Instr.slice, Sem.run_bind, Sem.run_pure, Result.andThen_ok, run_underlying hu, Instr.sliceBounds, b1, b2, hz, Option.isSome, Bool.false_eq_true, if_false, if_true, Nat.mul_one, Addr.add_mid, e3, h4, Option.map_some, Nat.zero_add]
set_option maxHeartbeats 1000000 in
theorem hdigest_256 (g len : Nat) (st buf : Nat → Nat) (w : World) (h : IsH w g 256 st buf len) (hl : ∀ i, i < 8 → st i < limK false) :
    Calls Tryd.prog 44 #[.pointer (some ⟨g, 0, none⟩)] w fun e w' => e = .returned (.string (wordsS ((stL st).take 8) 4)) ∧ Below w.heap.size w w' := by
  have HL := Lib.hid hl
  have H := Lib.hid h
  have c0 := h.bits
  obtain ⟨M, hM, hMc, hmk0⟩ := zeros 32 (by omega)
  have hmk : ∀ V : World, (Instr.makeSlice 35 (.int .i64 32) (.int .i64 32)).run Tryd.prog V = .ok (.slice (some ⟨V.heap.size, 0, none⟩) 32 32) (V.alloc (.cells M 5)) := hmk0
  clear hl hmk0 h
  go_enter Tryd.func44, Tryd.ntmps44
  go_upto_region 3 with (go_at_call 50; refine (blockSize_any (.inl ⟨rfl, rfl⟩) g _ H.out.bits).mono ?_; rintro e u ⟨rfl, rfl⟩)
  have hI : IsH (u.alloc (.cells M 5)) g 256 st buf len := World.rowIs.alloc H.out _
  have hR : (u.alloc (.cells M 5)).rowIs u.heap.size 5 32 (fun k => if k < 4 * 0 then .int .u8 (outB st 4 k : Nat) else .int .u8 0) := (rowIs_of u M 5 32 (fun _ => .int .u8 0) hM hMc).congr fun k _ => by rw [if_neg (by omega)]
  have hB : Below u.heap.size u (u.alloc (.cells M 5)) := (Below.refl _ _).alloc (Nat.le_refl _) _
  generalize u.alloc (.cells M 5) = w1 at hI hR hB ⊢
  clear hmk hM hMc
  have c1 : w1.cell? ⟨g, 1, none⟩ = some (.int .u64 (st 0 : Nat)) := hI.st 0 (by omega)
  have c2 : w1.cell? ⟨g, 2, none⟩ = some (.int .u64 (st 1 : Nat)) := hI.st 1 (by omega)
  have c3 : w1.cell? ⟨g, 3, none⟩ = some (.int .u64 (st 2 : Nat)) := hI.st 2 (by omega)
  have c4 : w1.cell? ⟨g, 4, none⟩ = some (.int .u64 (st 3 : Nat)) := hI.st 3 (by omega)
  have c5 : w1.cell? ⟨g, 5, none⟩ = some (.int .u64 (st 4 : Nat)) := hI.st 4 (by omega)
  have c6 : w1.cell? ⟨g, 6, none⟩ = some (.int .u64 (st 5 : Nat)) := hI.st 5 (by omega)
  have c7 : w1.cell? ⟨g, 7, none⟩ = some (.int .u64 (st 6 : Nat)) := hI.st 6 (by omega)
  have c8 : w1.cell? ⟨g, 8, none⟩ = some (.int .u64 (st 7 : Nat)) := hI.st 7 (by omega)
  go_wp2_with (fail)
  clear c1 c2 c3 c4 c5 c6 c7 c8
  go_loopw [17] (fun i wx => ∃ j : Nat, j ≤ 8 ∧ i = .int .i64 j ∧ Below u.heap.size u wx ∧ wx.rowIs u.heap.size 5 32 (fun k => if k < 4 * j then .int .u8 (outB st 4 k : Nat) else .int .u8 0)) (fun i _ => 8 - (intOf i).toNat)
  case atStart => exact ⟨0, by omega, rfl, hB, hR⟩
  case round =>
    clear hB hR hI
    obtain ⟨j, hj, rfl, hB, hR⟩ := hrel
    by_cases hlt : j < 8
    · have jb' : (j : Int) < 8 := by omega
      have hix := fun V => run_index_row (P := Tryd.prog) V 68 67 8 #[.int .u64 (st 0 : Nat), .int .u64 (st 1 : Nat), .int .u64 (st 2 : Nat), .int .u64 (st 3 : Nat), .int .u64 (st 4 : Nat), .int .u64 (st 5 : Nat), .int .u64 (st 6 : Nat), .int .u64 (st 7 : Nat)] .i64 j (.int .u64 (st j : Nat)) Tryd.underlying68 (by kernel_rfl) _ Tryd.underlying67 rfl hlt ((List.getElem?_toArray (xs := stC st) (i := j)).trans (stC_get st j hlt))
      have hsl := slice_own wr u.heap.size (4 * j) 4 32 (4 * (j : Int)) (4 * (j : Int) + 4) (by omega) (by omega) (by omega) (by omega)
      go_wp2_with (go_at_call 53; refine (putWord_any (st j) u.heap.size (4 * j) 4 (32 - 4 * j) 32 5 _ wr (by omega) (by omega) (by omega) (Nat.lt_of_lt_of_le (HL.out j hlt) (limK_le false)) hR).mono ?_; rintro e u2 ⟨rfl, hB2, hR2⟩)
      refine ⟨⟨j + 1, by omega, by go_num, hB2.below hB (Nat.le_refl _) hB.size, hR2.congr fun k hk => ?_⟩, by simp [intOf]; omega⟩
      unfold laidB
      by_cases h1 : k < 4 * j
      · rw [if_neg (by omega)]
        show (if k < 4 * j then _ else _) = _
        rw [if_pos h1, if_pos (by omega)]
      · by_cases h2 : k < 4 * (j + 1)
        · rw [if_pos (by omega), if_pos h2]
          unfold outB
          rw [show k / 4 = j by omega, show k % 4 = k - 4 * j by omega]
        · rw [if_neg (by omega)]
          show (if k < 4 * j then _ else _) = _
          rw [if_neg h1, if_neg h2]
    · obtain rfl : j = 8 := by omega
      rw [show ((8 : Nat) : Int) = 8 from rfl]
      clear hlt hj
      have c0 : wr.cell? ⟨g, 0, none⟩ = some (.int .i64 256) := (H.out.below hB H.out.lt).bits
      have hcv := run_convert_bytes_arg (P := Tryd.prog) wr 35 5 Tryd.underlying35 Tryd.underlying5 u.heap.size 0 32 32 ((List.range (4 * 8)).map fun k => (outB st 4 k : Int)) (by simp) (fun i hi => by
        rw [Nat.zero_add, hR.cell (i := i) (by omega), if_pos (by omega), List.getD_eq_getElem?_getD, List.getElem?_map, List.getElem?_range (by omega)]; rfl) 9 Tryd.underlying9
      rw [outB_text st 4 8 (by omega) (by omega)] at hcv
      go_wp2_with (fail)
      go_ret
      exact ⟨rfl, hB⟩
set_option maxHeartbeats 1000000 in
theorem hdigest_384 (g len : Nat) (st buf : Nat → Nat) (w : World) (h : IsH w g 384 st buf len) (hl : ∀ i, i < 8 → st i < limK true) :
    Calls Tryd.prog 44 #[.pointer (some ⟨g, 0, none⟩)] w fun e w' => e = .returned (.string (wordsS ((stL st).take 6) 8)) ∧ Below w.heap.size w w' := by
  have HL := Lib.hid hl
  have H := Lib.hid h
  have c0 := h.bits
  obtain ⟨M, hM, hMc, hmk0⟩ := zeros 64 (by omega)
  have hmk : ∀ V : World, (Instr.makeSlice 35 (.int .i64 64) (.int .i64 64)).run Tryd.prog V = .ok (.slice (some ⟨V.heap.size, 0, none⟩) 64 64) (V.alloc (.cells M 5)) := hmk0
  clear hl hmk0 h
  go_enter Tryd.func44, Tryd.ntmps44
  go_upto_region 3 with (go_at_call 50; refine (blockSize_any (.inr ⟨rfl, rfl⟩) g _ H.out.bits).mono ?_; rintro e u ⟨rfl, rfl⟩)
  have hI : IsH (u.alloc (.cells M 5)) g 384 st buf len := World.rowIs.alloc H.out _
  have hR : (u.alloc (.cells M 5)).rowIs u.heap.size 5 64 (fun k => if k < 8 * 0 then .int .u8 (outB st 8 k : Nat) else .int .u8 0) := (rowIs_of u M 5 64 (fun _ => .int .u8 0) hM hMc).congr fun k _ => by rw [if_neg (by omega)]
  have hB : Below u.heap.size u (u.alloc (.cells M 5)) := (Below.refl _ _).alloc (Nat.le_refl _) _
  generalize u.alloc (.cells M 5) = w1 at hI hR hB ⊢
  clear hmk hM hMc
  have c1 : w1.cell? ⟨g, 1, none⟩ = some (.int .u64 (st 0 : Nat)) := hI.st 0 (by omega)
  have c2 : w1.cell? ⟨g, 2, none⟩ = some (.int .u64 (st 1 : Nat)) := hI.st 1 (by omega)
  have c3 : w1.cell? ⟨g, 3, none⟩ = some (.int .u64 (st 2 : Nat)) := hI.st 2 (by omega)
  have c4 : w1.cell? ⟨g, 4, none⟩ = some (.int .u64 (st 3 : Nat)) := hI.st 3 (by omega)
  have c5 : w1.cell? ⟨g, 5, none⟩ = some (.int .u64 (st 4 : Nat)) := hI.st 4 (by omega)
  have c6 : w1.cell? ⟨g, 6, none⟩ = some (.int .u64 (st 5 : Nat)) := hI.st 5 (by omega)
  have c7 : w1.cell? ⟨g, 7, none⟩ = some (.int .u64 (st 6 : Nat)) := hI.st 6 (by omega)
  have c8 : w1.cell? ⟨g, 8, none⟩ = some (.int .u64 (st 7 : Nat)) := hI.st 7 (by omega)
  go_wp2_with (fail)
  clear c1 c2 c3 c4 c5 c6 c7 c8
  go_loopw [17] (fun i wx => ∃ j : Nat, j ≤ 8 ∧ i = .int .i64 j ∧ Below u.heap.size u wx ∧ wx.rowIs u.heap.size 5 64 (fun k => if k < 8 * j then .int .u8 (outB st 8 k : Nat) else .int .u8 0)) (fun i _ => 8 - (intOf i).toNat)
  case atStart => exact ⟨0, by omega, rfl, hB, hR⟩
  case round =>
    clear hB hR hI
    obtain ⟨j, hj, rfl, hB, hR⟩ := hrel
    by_cases hlt : j < 8
    · have jb' : (j : Int) < 8 := by omega
      have hix := fun V => run_index_row (P := Tryd.prog) V 68 67 8 #[.int .u64 (st 0 : Nat), .int .u64 (st 1 : Nat), .int .u64 (st 2 : Nat), .int .u64 (st 3 : Nat), .int .u64 (st 4 : Nat), .int .u64 (st 5 : Nat), .int .u64 (st 6 : Nat), .int .u64 (st 7 : Nat)] .i64 j (.int .u64 (st j : Nat)) Tryd.underlying68 (by kernel_rfl) _ Tryd.underlying67 rfl hlt ((List.getElem?_toArray (xs := stC st) (i := j)).trans (stC_get st j hlt))
      have hsl := slice_own wr u.heap.size (8 * j) 8 64 (8 * (j : Int)) (8 * (j : Int) + 8) (by omega) (by omega) (by omega) (by omega)
      go_wp2_with (go_at_call 53; refine (putWord_any (st j) u.heap.size (8 * j) 8 (64 - 8 * j) 64 5 _ wr (by omega) (by omega) (by omega) (Nat.lt_of_lt_of_le (HL.out j hlt) (limK_le true)) hR).mono ?_; rintro e u2 ⟨rfl, hB2, hR2⟩)
      refine ⟨⟨j + 1, by omega, by go_num, hB2.below hB (Nat.le_refl _) hB.size, hR2.congr fun k hk => ?_⟩, by simp [intOf]; omega⟩
      unfold laidB
      by_cases h1 : k < 8 * j
      · rw [if_neg (by omega)]
        show (if k < 8 * j then _ else _) = _
        rw [if_pos h1, if_pos (by omega)]
      · by_cases h2 : k < 8 * (j + 1)
        · rw [if_pos (by omega), if_pos h2]
          unfold outB
          rw [show k / 8 = j by omega, show k % 8 = k - 8 * j by omega]
        · rw [if_neg (by omega)]
          show (if k < 8 * j then _ else _) = _
          rw [if_neg h1, if_neg h2]
    · obtain rfl : j = 8 := by omega
      rw [show ((8 : Nat) : Int) = 8 from rfl]
      clear hlt hj
      have c0 : wr.cell? ⟨g, 0, none⟩ = some (.int .i64 384) := (H.out.below hB H.out.lt).bits
      have hcv := run_convert_bytes_arg (P := Tryd.prog) wr 35 5 Tryd.underlying35 Tryd.underlying5 u.heap.size 0 48 64 ((List.range (8 * 6)).map fun k => (outB st 8 k : Int)) (by simp) (fun i hi => by
        rw [Nat.zero_add, hR.cell (i := i) (by omega), if_pos (by omega), List.getD_eq_getElem?_getD, List.getElem?_map, List.getElem?_range (by omega)]; rfl) 9 Tryd.underlying9
      rw [outB_text st 8 6 (by omega) (by omega)] at hcv
      go_wp2_with (fail)
      go_ret
      exact ⟨rfl, hB⟩
end Go.Proofs.Im
