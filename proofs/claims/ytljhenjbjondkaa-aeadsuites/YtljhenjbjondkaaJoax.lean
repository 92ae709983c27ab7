/-
  The developers' aes: the keys of the rounds.
-/
import Derived.Test.YtljhenjbjondkaaJoaw
import Derived.StillTail
namespace Go.Proofs.Ae
open Go.RowKit
open Go.Proofs.Aes
open Go.Proofs.Im (wpList_box_to words_heap words_one run_index_row wp_region_quiet_tail)
open Go.Proofs.Sha (wordCells wordCells_get wordCells_size rowIs_of wpList_alloc_to)
section
variable {P : Program} {w : World} {ops : Array Oper} {rest : List Oper} {o : Oper} {a : Act} {Q : Exit → Act → World → Prop}
/-- A call of a function that the text names. -/
theorem wpList_call (hg : o.guard = none) (f : FuncId) (xs : Array Operand) (ats : Array TypeId) (hop : o.op = .call { callee := .value (.func f), args := xs, argTypes := ats })
    (hr : ∀ args w, (callFunc f args).run P w = .ok (.enter f args) w) (args : Array Value) (ha : xs.map a.eval = args)
    (h : Calls P f args w fun e u => ∃ v, e = .returned v ∧ wpList P ops Q rest (a.put o.dst v) u) : wpList P ops Q (o :: rest) a w :=
  wpList_plain hg fun K hK => by
    subst ha
    have e1 : execOp a.eval o = callFunc f (xs.map a.eval) := by
      have ef : a.eval (.func f) = .func (.func f) #[] #[] := rfl
      unfold execOp
      simp [hop, resolve, Deferred.ofValue, invoke, ef]
    unfold Oper.wp
    rw [e1, hr]
    refine h.mono ?_
    rintro e u ⟨v, rfl, hv⟩
    exact hK _ _ hv
end
/-- A new cipher's cells. -/
def ciA (r : Nat) : Array Value := ((boxL.map fun x => Value.int .u8 (x : Nat)) ++ List.replicate 60 (Value.int .u32 0) ++ [Value.int .i64 (r : Nat)]).toArray
theorem boxL_length : boxL.length = 256 := by decide +kernel
theorem ciA_size (r : Nat) : (ciA r).size = 317 := by simp [ciA, boxL_length]
theorem ciA_get (r i : Nat) (hi : i < 317) : (ciA r)[i]? = some (cCell (fun _ => 0) r i) := by
  unfold ciA cCell
  rw [List.getElem?_toArray]
  have hb := boxL_length
  by_cases h1 : i < 256
  · rw [if_pos h1, List.getElem?_append_left (by simp [hb]; omega), List.getElem?_append_left (by simp [hb]; omega), List.getElem?_map, List.getElem?_eq_getElem (by omega)]
    unfold bx
    rw [List.getD_eq_getElem?_getD, List.getElem?_eq_getElem (by omega)]
    rfl
  · rw [if_neg h1]
    by_cases h2 : i < 316
    · rw [if_pos h2, List.getElem?_append_left (by simp [hb]; omega), List.getElem?_append_right (by simp [hb]; omega), List.getElem?_replicate, if_pos (by simp [hb]; omega)]; rfl
    · rw [if_neg h2, List.getElem?_append_right (by simp [hb]; omega)]
      simp only [List.length_append, List.length_map, List.length_replicate, hb]
      rw [show i - (256 + 60) = 0 by omega]; rfl
theorem ciph_new (w : World) (r : Nat) : Ciph (w.alloc (.cells (ciA r) 97)) w.heap.size (fun _ => 0) r := rowIs_of w (ciA r) 97 317 _ (ciA_size r) (ciA_get r)
/-- The keys so far. -/
def kS (n : Nat) (key : ByteArray) (I t : Nat) : Nat := if t < I then wd (exS n key (I - n)) t else 0
theorem kS_lt (n : Nat) (key : ByteArray) (I t : Nat) : kS n key I t < 4294967296 := by
  unfold kS; split
  · exact wd_lt (exS_lt _ _ _) _
  · decide
theorem kS_in (n : Nat) (key : ByteArray) (I t : Nat) (h : t < I) : kS n key I t = wd (exS n key (I - n)) t := by unfold kS; rw [if_pos h]
theorem kS_at (n : Nat) (key : ByteArray) (I : Nat) : kS n key I I = 0 := by unfold kS; rw [if_neg (by omega)]
/-- A key's own words. -/
def kB (key : ByteArray) (j t : Nat) : Nat := if t < j then wd (byt key) t else 0
theorem kB_succ (key : ByteArray) (j t : Nat) : (if t = j then wd (byt key) j else kB key j t) = kB key (j + 1) t := by
  unfold kB
  by_cases h : t = j
  · subst h; rw [if_pos rfl, if_pos (Nat.lt_succ_self _)]
  · rw [if_neg h]
    by_cases h2 : t < j
    · rw [if_pos h2, if_pos (by omega)]
    · rw [if_neg h2, if_neg (by omega)]
theorem kB_zero (key : ByteArray) (t : Nat) : 0 = kB key 0 t := by unfold kB; rw [if_neg (by omega)]
theorem kB_at (key : ByteArray) (j : Nat) : kB key j j = 0 := by unfold kB; rw [if_neg (by omega)]
theorem kB_all (n : Nat) (key : ByteArray) (t : Nat) : kB key n t = kS n key n t := by unfold kB kS; rw [Nat.sub_self]; rfl
theorem kS_succ (n : Nat) (key : ByteArray) (I t : Nat) (h : n ≤ I) : (if t = I then wd (exS n key (I - n)) (I - n) ^^^ tmpN n I (wd (exS n key (I - n)) (I - 1)) else kS n key I t) = kS n key (I + 1) t := by
  obtain ⟨m, rfl⟩ : ∃ m, I = n + m := ⟨I - n, by omega⟩
  rw [show n + m - n = m by omega]
  unfold kS
  rw [show n + m + 1 - n = m + 1 by omega, show n + m - n = m by omega]
  by_cases h1 : t = n + m
  · subst h1; rw [if_pos rfl, if_pos (Nat.lt_succ_self _), wd_step]
  · rw [if_neg h1]
    by_cases h2 : t < n + m
    · rw [if_pos h2, if_pos (by omega), wd_keep n m key t h2]
    · rw [if_neg h2, if_neg (by omega)]
set_option maxHeartbeats 4000000 in
set_option maxRecDepth 10000 in
theorem keyed_16 (key : ByteArray) (w : World) (hs : key.size = 16) :
    Calls Try.prog 46 #[.string key] w fun e w' => ∃ g, e = .returned (.pointer (some ⟨g, 0, none⟩)) ∧ w.heap.size ≤ g ∧ Below w.heap.size w w' ∧ Ciph w' g (kS 4 key 44) 10 := by
  have q0 : (key.size : Int) / 4 = 4 := by omega
  have HSz := Lib.hid hs
  clear hs
  go_enter Try.func46, Try.ntmps46
  go_upto_region 2 with (fail)
  apply wp_region_lit
  refine wpList_call rfl 64 _ _ rfl (fun _ _ => by go_simp) #[] (by kernel_rfl) ?_
  refine (subst_any w).mono ?_
  rintro e u ⟨rfl, hbu⟩
  refine ⟨_, rfl, ?_⟩
  refine wpList_val rfl (.int .i64 4) u (by go_simp) ?_
  refine wpList_val rfl (.int .i64 10) u (by go_simp; rfl) ?_
  refine wpList_val rfl (.agg (ciA 10)) u (by kernel_rfl) ?_
  refine wpList_box_to rfl 97 _ rfl (ciA 10) (by kernel_rfl) u.heap.size rfl ?_
  have HC : Hid (Ciph (u.alloc (.cells (ciA 10) 97)) u.heap.size (kB key 0) 10) := (ciph_new u 10).congr fun t _ => kB_zero key t
  have HB : Hid (Below w.heap.size w (u.alloc (.cells (ciA 10) 97))) := hbu.alloc hbu.size _
  have HG := Lib.hid hbu.size
  simp only [Act.put, List.setIfInBounds_toArray, List.set_cons_zero, List.set_cons_succ]
  clear hbu
  generalize u.alloc (.cells (ciA 10) 97) = w1 at HC HB ⊢
  generalize u.heap.size = g at HC HG ⊢
  generalize boxA = bA
  generalize ciA 10 = cA
  go_wp2_with (fail)
  go_loopw [18] (fun i wx => ∃ j : Nat, Hid (j ≤ 4) ∧ i = .int .i64 j ∧ Hid (Ciph wx g (kB key j) 10) ∧ Hid (Below w.heap.size w wx)) (fun i _ => 4 - (intOf i).toNat)
  case atStart => exact ⟨0, Nat.zero_le 4, rfl, HC, HB⟩
  case round =>
    clear HC HB
    obtain ⟨j, hj, rfl, HC, HB⟩ := hrel
    by_cases hlt : j < 4
    · have jl : ((j : Int) < 4) = True := eq_true (by omega)
      have jl' : (j : Int) < 60 := by omega
      have kc : wr.cell? ⟨g, 256 + j, none⟩ = some (.int .u32 (0 : Nat)) := by rw [HC.out.key j (by omega), kB_at]
      have kf := HC.out.frozen (256 + j)
      have HJ := Lib.hid hlt
      clear hlt
      go_wp2_with (fail)
      refine wp_region_quiet_tail 8 (by kernel_rfl) (by kernel_rfl) ?_
      simp only [List.take_succ_cons, List.take_zero, List.drop_succ_cons, List.drop_zero]
      repeat (go_big_quiet_step ((go_at_call 65; exact Calls.quiet_of (word_any key j _ (by have := HSz.out; have := HJ.out; omega) (by have := HSz.out; omega)))))
      refine wpQuiet_nil ?_
      intro nq
      have HC := Lib.hid (HC.out.drewN nq)
      have HB := Lib.hid (below_drewN HB.out nq)
      have kc : (wr.drewN nq).cell? ⟨g, 256 + j, none⟩ = some (.int .u32 (0 : Nat)) := kc
      have kf : (wr.drewN nq).frozen? ⟨g, 256 + j, none⟩ = false := kf
      generalize wr.drewN nq = w2 at HC HB kc kf ⊢
      go_wp2_with (fail)
      exact ⟨⟨j + 1, HJ.out, by go_num, (HC.out.set j _ (by have := HJ.out; omega)).congr fun t _ => kB_succ key j t, HB.out.setCell HG.out _⟩, meas 4 j HJ.out⟩
    · have jl : ((j : Int) < 4) = False := eq_false (by omega)
      obtain rfl : j = 4 := by have := hj.out; omega
      have HC : Hid (Ciph wr g (kS 4 key 4) 10) := HC.out.congr fun t _ => kB_all 4 key t
      rw [show ((4 : Nat) : Int) = 4 from rfl]
      clear hlt jl hj
      go_wp2_with (fail)
      go_loopw [6, 7] (fun k i wx => ∃ I : Nat, Hid (4 ≤ I ∧ I ≤ 44) ∧ i = .int .i64 I ∧ k = .int .u32 (rcW ((I + 4 - 1) / 4 - 1) : Nat) ∧ Hid (Ciph wx g (kS 4 key I) 10) ∧ Hid (Below w.heap.size w wx)) (fun _ i _ => 44 - (intOf i).toNat)
      case atStart => exact ⟨4, ⟨by decide, by decide⟩, rfl, rfl, HC, HB⟩
      case round =>
        clear HC HB
        obtain ⟨I, hI, rfl, rfl, HC, HB⟩ := hrel
        obtain ⟨hI1, hI2⟩ := hI.out
        have rd := HC.out.rounds
        by_cases hlt : I < 44
        · have il : ((I : Int) < 44) = True := eq_true (by omega)
          have HL := Lib.hid hlt
          have k1 := HC.out.key (I - 1) (by omega)
          have kn := HC.out.key (I - 4) (by omega)
          have kI := HC.out.key I (by omega)
          have kf := HC.out.frozen (256 + I)
          rw [kS_in _ _ _ _ (by omega)] at k1 kn
          rw [kS_at] at kI
          have HXl : Hid (wd (exS 4 key (I - 4)) (I - 1) < 4294967296) := wd_lt (exS_lt _ _ _) _
          have HZl : Hid (wd (exS 4 key (I - 4)) (I - 4) < 4294967296) := wd_lt (exS_lt _ _ _) _
          generalize hXe : wd (exS 4 key (I - 4)) (I - 1) = X at k1 HXl
          generalize hZe : wd (exS 4 key (I - 4)) (I - 4) = Z at kn HZl
          have HXe := Lib.hid hXe
          have HZe := Lib.hid hZe
          clear hXe hZe
          generalize hRe : (I + 4 - 1) / 4 - 1 = q
          have HRe := Lib.hid hRe
          clear hRe
          have y0 : ((I : Int) - 1).toNat = I - 1 := by omega
          have p0 : (0 : Int) ≤ (I : Int) - 1 := by omega
          have p1 : (I : Int) - 1 < 60 := by omega
          have y2 : ((I : Int) - 4).toNat = I - 4 := by omega
          have p2 : (0 : Int) ≤ (I : Int) - 4 := by omega
          have p3 : (I : Int) - 4 < 60 := by omega
          have p4 : (I : Int) < 60 := by omega
          have p5 : (4 : Int) ≤ (I : Int) := by omega
          have p6 : ((I : Int) - 4 < 60) = True := eq_true p3
          have p7 : ((0 : Int) ≤ (I : Int) - 4) = True := eq_true p2
          have x0 : IntKind.i64.wrap ((I : Int) - 4) = (I : Int) - 4 := IntWalk.i64_in _ (by omega)
          have x1 : IntKind.i64.wrap ((I : Int) - 1) = (I : Int) - 1 := IntWalk.i64_in _ (by omega)
          by_cases hA : I % 4 = 0
          · have e1 : ((I : Int) % 4 == 0) = true := by simp; omega
            have e2 : (((I : Int).tmod 4) == 0) = true := by rw [Int.tmod_eq_emod_of_nonneg (by omega)]; exact e1
            have HQ : Hid ((I + 1 + 4 - 1) / 4 - 1 = q + 1) := by
              have := HRe.out; show (I + 1 + 4 - 1) / 4 - 1 = q + 1; omega
            have HTe : Hid (tmpN 4 I X = colN (r8 X) (r8 X) (r8 X) (r8 X) ^^^ rcW q) := by
              show tmpN 4 I X = _
              unfold tmpN; simp only []; rw [if_pos hA, HRe.out]; rfl
            have H8 := Lib.hid (r8_lt X HXl.out)
            have o1 := u32_xor_nat (colN (r8 X) (r8 X) (r8 X) (r8 X)) (rcW q) (colN_lt _ _ _ _) (rcW_lt q)
            have HD : Hid (dblN (rcW q) = rcW (q + 1)) := rcW_succ q
            clear hA hlt
            go_wp2_with (first
              | (go_at_call 66; refine (rol_8 X _ HXl.out).mono ?_; rintro e v ⟨rfl, rfl⟩)
              | (go_at_call 67; refine (column_any _ _ _ _ g _ 10 _ HC.out H8.out H8.out H8.out H8.out).mono ?_; rintro e v ⟨rfl, nq, rfl⟩)
              | (go_at_call 68; refine (doubled_any (rcW q) _ (rcW_lt q)).mono ?_; rintro e v ⟨rfl, rfl⟩))
            have HC := Lib.hid (HC.out.drewN nq)
            have HB := Lib.hid (below_drewN HB.out nq)
            have kn : (v.drewN nq).cell? ⟨g, 256 + (I - 4), none⟩ = some (.int .u32 (Z : Nat)) := kn
            have kI : (v.drewN nq).cell? ⟨g, 256 + I, none⟩ = some (.int .u32 (0 : Nat)) := kI
            have kf : (v.drewN nq).frozen? ⟨g, 256 + I, none⟩ = false := kf
            generalize v.drewN nq = w5 at HC HB kn kI kf ⊢
            have ox := u32_xor_nat Z (colN (r8 X) (r8 X) (r8 X) (r8 X) ^^^ rcW q) HZl.out (xor32_lt (colN_lt _ _ _ _) (rcW_lt q))
            refine wp_region_still_tail 15 (by kernel_rfl) (by kernel_rfl) ?_
            simp only [List.take_succ_cons, List.take_zero, List.drop_succ_cons, List.drop_zero]
            repeat still_step
            try refine wpStill_nil ?_
            change wpList _ _ _ _ _ w5.drew
            go_wp2_with (fail)
            refine ⟨⟨I + 1, ⟨by omega, HL.out⟩, by go_num, by rw [HD.out, HQ.out], ?_, ?_⟩, meas 44 I HL.out⟩
            · exact (HC.out.set I _ (by omega)).drew.congr fun t _ => by
                rw [← kS_succ 4 key I t hI1, HZe.out, HXe.out, HTe.out]
            · exact (HB.out.setCell HG.out _).drew
          · have HQ : Hid ((I + 1 + 4 - 1) / 4 - 1 = q) := by
              have := HRe.out; show (I + 1 + 4 - 1) / 4 - 1 = q; omega
            have e1 : ((I : Int) % 4 == 0) = false := by simp; omega
            have e2 : (((I : Int).tmod 4) == 0) = false := by rw [Int.tmod_eq_emod_of_nonneg (by omega)]; exact e1
            have HTe : Hid (tmpN 4 I X = X) := by
              show tmpN 4 I X = _
              unfold tmpN; simp only []; rw [if_neg hA, if_neg (by omega)]
            clear hA hlt
            go_wp2_with (fail)
            generalize wr = w5 at HC HB kn kI kf ⊢
            have ox := u32_xor_nat Z (X) HZl.out (HXl.out)
            refine wp_region_still_tail 15 (by kernel_rfl) (by kernel_rfl) ?_
            simp only [List.take_succ_cons, List.take_zero, List.drop_succ_cons, List.drop_zero]
            repeat still_step
            try refine wpStill_nil ?_
            change wpList _ _ _ _ _ w5.drew
            go_wp2_with (fail)
            refine ⟨⟨I + 1, ⟨by omega, HL.out⟩, by go_num, by rw [HQ.out], ?_, ?_⟩, meas 44 I HL.out⟩
            · exact (HC.out.set I _ (by omega)).drew.congr fun t _ => by
                rw [← kS_succ 4 key I t hI1, HZe.out, HXe.out, HTe.out]
            · exact (HB.out.setCell HG.out _).drew
        · have il : ((I : Int) < 44) = False := eq_false (by omega)
          obtain rfl : I = 44 := by omega
          rw [show ((44 : Nat) : Int) = 44 from rfl]
          clear hlt il hI
          go_wp2_with (fail)
          go_ret
          exact ⟨g, rfl, HG.out, HB.out, HC.out⟩
set_option maxHeartbeats 4000000 in
set_option maxRecDepth 10000 in
theorem keyed_32 (key : ByteArray) (w : World) (hs : key.size = 32) :
    Calls Try.prog 46 #[.string key] w fun e w' => ∃ g, e = .returned (.pointer (some ⟨g, 0, none⟩)) ∧ w.heap.size ≤ g ∧ Below w.heap.size w w' ∧ Ciph w' g (kS 8 key 60) 14 := by
  have q0 : (key.size : Int) / 4 = 8 := by omega
  have HSz := Lib.hid hs
  clear hs
  go_enter Try.func46, Try.ntmps46
  go_upto_region 2 with (fail)
  apply wp_region_lit
  refine wpList_call rfl 64 _ _ rfl (fun _ _ => by go_simp) #[] (by kernel_rfl) ?_
  refine (subst_any w).mono ?_
  rintro e u ⟨rfl, hbu⟩
  refine ⟨_, rfl, ?_⟩
  refine wpList_val rfl (.int .i64 8) u (by go_simp) ?_
  refine wpList_val rfl (.int .i64 14) u (by go_simp; rfl) ?_
  refine wpList_val rfl (.agg (ciA 14)) u (by kernel_rfl) ?_
  refine wpList_box_to rfl 97 _ rfl (ciA 14) (by kernel_rfl) u.heap.size rfl ?_
  have HC : Hid (Ciph (u.alloc (.cells (ciA 14) 97)) u.heap.size (kB key 0) 14) := (ciph_new u 14).congr fun t _ => kB_zero key t
  have HB : Hid (Below w.heap.size w (u.alloc (.cells (ciA 14) 97))) := hbu.alloc hbu.size _
  have HG := Lib.hid hbu.size
  simp only [Act.put, List.setIfInBounds_toArray, List.set_cons_zero, List.set_cons_succ]
  clear hbu
  generalize u.alloc (.cells (ciA 14) 97) = w1 at HC HB ⊢
  generalize u.heap.size = g at HC HG ⊢
  generalize boxA = bA
  generalize ciA 14 = cA
  go_wp2_with (fail)
  go_loopw [18] (fun i wx => ∃ j : Nat, Hid (j ≤ 8) ∧ i = .int .i64 j ∧ Hid (Ciph wx g (kB key j) 14) ∧ Hid (Below w.heap.size w wx)) (fun i _ => 8 - (intOf i).toNat)
  case atStart => exact ⟨0, Nat.zero_le 8, rfl, HC, HB⟩
  case round =>
    clear HC HB
    obtain ⟨j, hj, rfl, HC, HB⟩ := hrel
    by_cases hlt : j < 8
    · have jl : ((j : Int) < 8) = True := eq_true (by omega)
      have jl' : (j : Int) < 60 := by omega
      have kc : wr.cell? ⟨g, 256 + j, none⟩ = some (.int .u32 (0 : Nat)) := by rw [HC.out.key j (by omega), kB_at]
      have kf := HC.out.frozen (256 + j)
      have HJ := Lib.hid hlt
      clear hlt
      go_wp2_with (fail)
      refine wp_region_quiet_tail 8 (by kernel_rfl) (by kernel_rfl) ?_
      simp only [List.take_succ_cons, List.take_zero, List.drop_succ_cons, List.drop_zero]
      repeat (go_big_quiet_step ((go_at_call 65; exact Calls.quiet_of (word_any key j _ (by have := HSz.out; have := HJ.out; omega) (by have := HSz.out; omega)))))
      refine wpQuiet_nil ?_
      intro nq
      have HC := Lib.hid (HC.out.drewN nq)
      have HB := Lib.hid (below_drewN HB.out nq)
      have kc : (wr.drewN nq).cell? ⟨g, 256 + j, none⟩ = some (.int .u32 (0 : Nat)) := kc
      have kf : (wr.drewN nq).frozen? ⟨g, 256 + j, none⟩ = false := kf
      generalize wr.drewN nq = w2 at HC HB kc kf ⊢
      go_wp2_with (fail)
      exact ⟨⟨j + 1, HJ.out, by go_num, (HC.out.set j _ (by have := HJ.out; omega)).congr fun t _ => kB_succ key j t, HB.out.setCell HG.out _⟩, meas 8 j HJ.out⟩
    · have jl : ((j : Int) < 8) = False := eq_false (by omega)
      obtain rfl : j = 8 := by have := hj.out; omega
      have HC : Hid (Ciph wr g (kS 8 key 8) 14) := HC.out.congr fun t _ => kB_all 8 key t
      rw [show ((8 : Nat) : Int) = 8 from rfl]
      clear hlt jl hj
      go_wp2_with (fail)
      go_loopw [6, 7] (fun k i wx => ∃ I : Nat, Hid (8 ≤ I ∧ I ≤ 60) ∧ i = .int .i64 I ∧ k = .int .u32 (rcW ((I + 8 - 1) / 8 - 1) : Nat) ∧ Hid (Ciph wx g (kS 8 key I) 14) ∧ Hid (Below w.heap.size w wx)) (fun _ i _ => 60 - (intOf i).toNat)
      case atStart => exact ⟨8, ⟨by decide, by decide⟩, rfl, rfl, HC, HB⟩
      case round =>
        clear HC HB
        obtain ⟨I, hI, rfl, rfl, HC, HB⟩ := hrel
        obtain ⟨hI1, hI2⟩ := hI.out
        have rd := HC.out.rounds
        by_cases hlt : I < 60
        · have il : ((I : Int) < 60) = True := eq_true (by omega)
          have HL := Lib.hid hlt
          have k1 := HC.out.key (I - 1) (by omega)
          have kn := HC.out.key (I - 8) (by omega)
          have kI := HC.out.key I (by omega)
          have kf := HC.out.frozen (256 + I)
          rw [kS_in _ _ _ _ (by omega)] at k1 kn
          rw [kS_at] at kI
          have HXl : Hid (wd (exS 8 key (I - 8)) (I - 1) < 4294967296) := wd_lt (exS_lt _ _ _) _
          have HZl : Hid (wd (exS 8 key (I - 8)) (I - 8) < 4294967296) := wd_lt (exS_lt _ _ _) _
          generalize hXe : wd (exS 8 key (I - 8)) (I - 1) = X at k1 HXl
          generalize hZe : wd (exS 8 key (I - 8)) (I - 8) = Z at kn HZl
          have HXe := Lib.hid hXe
          have HZe := Lib.hid hZe
          clear hXe hZe
          generalize hRe : (I + 8 - 1) / 8 - 1 = q
          have HRe := Lib.hid hRe
          clear hRe
          have y0 : ((I : Int) - 1).toNat = I - 1 := by omega
          have p0 : (0 : Int) ≤ (I : Int) - 1 := by omega
          have p1 : (I : Int) - 1 < 60 := by omega
          have y2 : ((I : Int) - 8).toNat = I - 8 := by omega
          have p2 : (0 : Int) ≤ (I : Int) - 8 := by omega
          have p3 : (I : Int) - 8 < 60 := by omega
          have p4 : (I : Int) < 60 := by omega
          have p5 : (8 : Int) ≤ (I : Int) := by omega
          have p6 : ((I : Int) - 8 < 60) = True := eq_true p3
          have p7 : ((0 : Int) ≤ (I : Int) - 8) = True := eq_true p2
          have x0 : IntKind.i64.wrap ((I : Int) - 8) = (I : Int) - 8 := IntWalk.i64_in _ (by omega)
          have x1 : IntKind.i64.wrap ((I : Int) - 1) = (I : Int) - 1 := IntWalk.i64_in _ (by omega)
          by_cases hA : I % 8 = 0
          · have e1 : ((I : Int) % 8 == 0) = true := by simp; omega
            have e2 : (((I : Int).tmod 8) == 0) = true := by rw [Int.tmod_eq_emod_of_nonneg (by omega)]; exact e1
            have HQ : Hid ((I + 1 + 8 - 1) / 8 - 1 = q + 1) := by
              have := HRe.out; show (I + 1 + 8 - 1) / 8 - 1 = q + 1; omega
            have HTe : Hid (tmpN 8 I X = colN (r8 X) (r8 X) (r8 X) (r8 X) ^^^ rcW q) := by
              show tmpN 8 I X = _
              unfold tmpN; simp only []; rw [if_pos hA, HRe.out]; rfl
            have H8 := Lib.hid (r8_lt X HXl.out)
            have o1 := u32_xor_nat (colN (r8 X) (r8 X) (r8 X) (r8 X)) (rcW q) (colN_lt _ _ _ _) (rcW_lt q)
            have HD : Hid (dblN (rcW q) = rcW (q + 1)) := rcW_succ q
            clear hA hlt
            go_wp2_with (first
              | (go_at_call 66; refine (rol_8 X _ HXl.out).mono ?_; rintro e v ⟨rfl, rfl⟩)
              | (go_at_call 67; refine (column_any _ _ _ _ g _ 14 _ HC.out H8.out H8.out H8.out H8.out).mono ?_; rintro e v ⟨rfl, nq, rfl⟩)
              | (go_at_call 68; refine (doubled_any (rcW q) _ (rcW_lt q)).mono ?_; rintro e v ⟨rfl, rfl⟩))
            have HC := Lib.hid (HC.out.drewN nq)
            have HB := Lib.hid (below_drewN HB.out nq)
            have kn : (v.drewN nq).cell? ⟨g, 256 + (I - 8), none⟩ = some (.int .u32 (Z : Nat)) := kn
            have kI : (v.drewN nq).cell? ⟨g, 256 + I, none⟩ = some (.int .u32 (0 : Nat)) := kI
            have kf : (v.drewN nq).frozen? ⟨g, 256 + I, none⟩ = false := kf
            generalize v.drewN nq = w5 at HC HB kn kI kf ⊢
            have ox := u32_xor_nat Z (colN (r8 X) (r8 X) (r8 X) (r8 X) ^^^ rcW q) HZl.out (xor32_lt (colN_lt _ _ _ _) (rcW_lt q))
            refine wp_region_still_tail 15 (by kernel_rfl) (by kernel_rfl) ?_
            simp only [List.take_succ_cons, List.take_zero, List.drop_succ_cons, List.drop_zero]
            repeat still_step
            try refine wpStill_nil ?_
            change wpList _ _ _ _ _ w5.drew
            go_wp2_with (fail)
            refine ⟨⟨I + 1, ⟨by omega, HL.out⟩, by go_num, by rw [HD.out, HQ.out], ?_, ?_⟩, meas 60 I HL.out⟩
            · exact (HC.out.set I _ (by omega)).drew.congr fun t _ => by
                rw [← kS_succ 8 key I t hI1, HZe.out, HXe.out, HTe.out]
            · exact (HB.out.setCell HG.out _).drew
          · have HQ : Hid ((I + 1 + 8 - 1) / 8 - 1 = q) := by
              have := HRe.out; show (I + 1 + 8 - 1) / 8 - 1 = q; omega
            have e1 : ((I : Int) % 8 == 0) = false := by simp; omega
            have e2 : (((I : Int).tmod 8) == 0) = false := by rw [Int.tmod_eq_emod_of_nonneg (by omega)]; exact e1
            by_cases hF : I % 8 = 4
            · have g1 : ((I : Int) % 8 == 4) = true := by simp; omega
              have g2 : (((I : Int).tmod 8) == 4) = true := by rw [Int.tmod_eq_emod_of_nonneg (by omega)]; exact g1
              have HTe : Hid (tmpN 8 I X = colN X X X X) := by
                show tmpN 8 I X = _
                unfold tmpN; simp only []; rw [if_neg hA, if_pos ⟨by decide, hF⟩]
              clear hA hlt hF
              go_wp2_with (go_at_call 67; refine (column_any _ _ _ _ g _ 14 _ HC.out HXl.out HXl.out HXl.out HXl.out).mono ?_; rintro e v ⟨rfl, nq, rfl⟩)
              have HC := Lib.hid (HC.out.drewN nq)
              have HB := Lib.hid (below_drewN HB.out nq)
              have kn : (wr.drewN nq).cell? ⟨g, 256 + (I - 8), none⟩ = some (.int .u32 (Z : Nat)) := kn
              have kI : (wr.drewN nq).cell? ⟨g, 256 + I, none⟩ = some (.int .u32 (0 : Nat)) := kI
              have kf : (wr.drewN nq).frozen? ⟨g, 256 + I, none⟩ = false := kf
              generalize wr.drewN nq = w5 at HC HB kn kI kf ⊢
              have ox := u32_xor_nat Z (colN X X X X) HZl.out (colN_lt _ _ _ _)
              refine wp_region_still_tail 15 (by kernel_rfl) (by kernel_rfl) ?_
              simp only [List.take_succ_cons, List.take_zero, List.drop_succ_cons, List.drop_zero]
              repeat still_step
              try refine wpStill_nil ?_
              change wpList _ _ _ _ _ w5.drew
              go_wp2_with (fail)
              refine ⟨⟨I + 1, ⟨by omega, HL.out⟩, by go_num, by rw [HQ.out], ?_, ?_⟩, meas 60 I HL.out⟩
              · exact (HC.out.set I _ (by omega)).drew.congr fun t _ => by
                  rw [← kS_succ 8 key I t hI1, HZe.out, HXe.out, HTe.out]
              · exact (HB.out.setCell HG.out _).drew
            · have g1 : ((I : Int) % 8 == 4) = false := by simp; omega
              have g2 : (((I : Int).tmod 8) == 4) = false := by rw [Int.tmod_eq_emod_of_nonneg (by omega)]; exact g1
              have HTe : Hid (tmpN 8 I X = X) := by
                show tmpN 8 I X = _
                unfold tmpN; simp only []; rw [if_neg hA, if_neg (fun h => hF h.2)]
              clear hA hlt hF
              go_wp2_with (fail)
              generalize wr = w5 at HC HB kn kI kf ⊢
              have ox := u32_xor_nat Z (X) HZl.out (HXl.out)
              refine wp_region_still_tail 15 (by kernel_rfl) (by kernel_rfl) ?_
              simp only [List.take_succ_cons, List.take_zero, List.drop_succ_cons, List.drop_zero]
              repeat still_step
              try refine wpStill_nil ?_
              change wpList _ _ _ _ _ w5.drew
              go_wp2_with (fail)
              refine ⟨⟨I + 1, ⟨by omega, HL.out⟩, by go_num, by rw [HQ.out], ?_, ?_⟩, meas 60 I HL.out⟩
              · exact (HC.out.set I _ (by omega)).drew.congr fun t _ => by
                  rw [← kS_succ 8 key I t hI1, HZe.out, HXe.out, HTe.out]
              · exact (HB.out.setCell HG.out _).drew
        · have il : ((I : Int) < 60) = False := eq_false (by omega)
          obtain rfl : I = 60 := by omega
          rw [show ((60 : Nat) : Int) = 60 from rfl]
          clear hlt il hI
          go_wp2_with (fail)
          go_ret
          exact ⟨g, rfl, HG.out, HB.out, HC.out⟩
end Go.Proofs.Ae
