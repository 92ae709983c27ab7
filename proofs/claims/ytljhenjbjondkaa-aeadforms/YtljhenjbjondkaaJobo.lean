/-
  The developers' poly: a text written and filled up; a tag.
-/
import Derived.Test.YtljhenjbjondkaaJobn
namespace Go.Proofs.Pd
open Go.RowKit
open Go.Proofs.Aes (byt byt_lt get_byt)
open Go.Proofs.Cha (byt_left byt_right byt_cut text_ext)
open Go.Proofs.Pol (lmL lmA lmA_get lmA_congr lmA_one lmA_size lt5 lmV lmV_arr leB leB_lt leB_congr zS zS_size zS_byt val p130 rN padN blkN blkL blkB blkB_lt runK fillS fillS_size run_append tagS tagS_size outP outP_succ p130_pos)
open Go.Proofs.Rt (ready_loadTo ready_callTo ready_storeTo)
theorem fill_two (s : ByteArray) (a : Nat) (ha : a = s.size - s.size % 16) : fillS s = s.extract 0 a ++ (s.extract a s.size ++ zS ((16 - s.size % 16) % 16)) := by
  unfold fillS
  rw [← ByteArray.append_assoc, ByteArray.extract_append_extract, Nat.min_eq_left (by omega), Nat.max_eq_right (by omega), ByteArray.extract_zero_size]
theorem fill_whole (s : ByteArray) (h : s.size % 16 = 0) : fillS s = s := by
  unfold fillS
  rw [h]
  have e : zS ((16 - 0) % 16) = ByteArray.empty := rfl
  rw [e, ByteArray.append_empty]
set_option maxHeartbeats 1000000 in
theorem writeFilled_any (key s : ByteArray) (A0 g : Nat) (w : World) (h : Ta w g key A0) (hs : s.size ≤ 140737488355328) :
    Calls Try.prog 42 #[.pointer (some ⟨g, 0, none⟩), .string s] w fun e w' => e = .returned (.tuple #[]) ∧ But g w w' ∧ Ta w' g key (Pol.runN (rN key) A0 (fillS s)) := by
  have HH := Lib.hid h
  obtain ⟨n, hn⟩ : ∃ n, s.size = n := ⟨_, rfl⟩
  obtain ⟨q, hq⟩ : ∃ q, n % 16 = q := ⟨_, rfl⟩
  obtain ⟨a, ha⟩ : ∃ a, n - q = a := ⟨_, rfl⟩
  have q1 : (n : Int) % 16 = (q : Int) := by omega
  have q2 : (n : Int).tmod 16 = (q : Int) := by rw [Int.tmod_eq_emod_of_nonneg (by omega)]; omega
  have a1 : (n : Int) - (q : Int) = (a : Int) := by omega
  have an : (a : Int) ≤ (n : Int) := by omega
  have wa : wrap64 (a : Int) = (a : Int) := IntWalk.wrap64_in _ (by omega)
  have z0 : (s.extract 0 a).size = a := by rw [ByteArray.size_extract]; omega
  have z1 : (s.extract a n).size = q := by rw [ByteArray.size_extract]; omega
  have HF := Lib.hid (fill_two s a (by omega))
  rw [hn, hq] at HF
  have HRn := Lib.hid (run_append (rN key) A0 (s.extract 0 a) (s.extract a n ++ zS ((16 - q) % 16)) (by rw [z0]; omega))
  have HW1 := Lib.hid (fun u hu => write_any key (s.extract 0 a) A0 g u hu (by rw [z0]; omega))
  have HFl := Lib.hid (fun u => filled_any (s.extract a n) u (by rw [z1]; omega))
  have HW2 := Lib.hid (fun u hu => write_any key (s.extract a n ++ zS (16 - q)) (Pol.runN (rN key) A0 (s.extract 0 a)) g u hu (by rw [ByteArray.size_append, z1, zS_size]; omega))
  rw [z1] at HFl
  have HA := Lib.hid ha
  have HQ := Lib.hid hq
  clear hs h
  go_enter Try.func42, Try.ntmps42
  go_upto_region 1 with (fail)
  go_upto_region 2 with (go_at_call 57; refine (HW1.out _ HH.out).mono ?_; rintro e u ⟨rfl, hb, hh⟩)
  have HB := Lib.hid hb
  have HH := Lib.hid hh
  clear hb hh q1 q2 a1
  by_cases h0 : a < n
  · have l1 : ((a : Int) < (n : Int)) = True := eq_true (by omega)
    have m1 : (16 - q) % 16 = 16 - q := by have := HA.out; have := HQ.out; omega
    rw [m1] at HF HRn
    have HFe := Lib.hid (HF.out.symm)
    clear h0 m1
    go_wp2_with (first
      | (go_at_call 58; refine (HFl.out _).mono ?_; rintro e u1 ⟨rfl, hb1⟩; have HB := Lib.hid (HB.out.on hb1); have HH := Lib.hid (HH.out.on hb1); clear hb1)
      | (go_at_call 57; refine (HW2.out _ HH.out).mono ?_; rintro e u2 ⟨rfl, hb2, hh2⟩))
    go_end0
    exact ⟨rfl, HB.out.trans hb2, by rw [HF.out, HRn.out]; exact hh2⟩
  · have l1 : ((a : Int) < (n : Int)) = False := eq_false (by omega)
    have e : s.extract 0 a = s := by rw [show a = s.size by have := HA.out; omega, ByteArray.extract_zero_size]
    have HFe := Lib.hid (fill_whole s (by have := HA.out; have := HQ.out; omega))
    rw [e] at HH
    clear h0 e
    go_wp2_with (fail)
    go_end0
    exact ⟨rfl, HB.out, by rw [HFe.out]; exact HH.out⟩
/-- The tag's bytes so far: those of both halves. -/
def outT (f : Nat → Nat) (n t : Nat) : Nat := if t < n then f t else if 8 ≤ t then (if t < 8 + n then f t else 0) else 0
theorem outT_zero (f : Nat → Nat) (t : Nat) : 0 = outT f 0 t := by
  unfold outT
  rw [if_neg (by omega)]
  split
  · rw [if_neg (by omega)]
  · rfl
theorem outT_succ (f : Nat → Nat) (n t : Nat) (hn : n < 8) : (if t = 8 + n then f (8 + n) else if t = n then f n else outT f n t) = outT f (n + 1) t := by
  unfold outT
  by_cases h1 : t = 8 + n
  · subst h1; rw [if_pos rfl, if_neg (by omega), if_pos (by omega), if_pos (by omega)]
  · rw [if_neg h1]
    by_cases h2 : t = n
    · subst h2; rw [if_pos rfl, if_pos (by omega)]
    · have e1 : (t < n + 1) = (t < n) := propext ⟨fun _ => by omega, fun _ => by omega⟩
      have e2 : (t < 8 + (n + 1)) = (t < 8 + n) := propext ⟨fun _ => by omega, fun _ => by omega⟩
      rw [if_neg h2]
      simp only [e1, e2]
theorem outT_end (f : Nat → Nat) (t : Nat) (h : t < 16) : outT f 8 t = f t := by
  unfold outT
  by_cases h1 : t < 8
  · rw [if_pos h1]
  · rw [if_neg h1, if_pos (by omega), if_pos (by omega)]
/-- A tag's byte. -/
def tagB (x i : Nat) : Nat := x / 256 ^ i % 256
theorem tagB_low (x i : Nat) (hi : i < 8) : x % 18446744073709551616 / 2 ^ (8 * i) % 256 = tagB x i := by
  rw [show 2 ^ (8 * i) = 256 ^ i by rw [Nat.pow_mul]]; exact byte_low x i hi
theorem tagB_high (x i : Nat) (hi : i < 8) : x / 18446744073709551616 % 18446744073709551616 / 2 ^ (8 * i) % 256 = tagB x (8 + i) := by
  rw [show 2 ^ (8 * i) = 256 ^ i by rw [Nat.pow_mul]]; exact byte_high x i hi
theorem shr_u8 (L z t : Nat) (h : L / 2 ^ z % 256 = t) : IntKind.u8.wrap ((L / 2 ^ z : Nat) : Int) = (t : Int) := by
  subst h
  show ((L / 2 ^ z : Nat) : Int) % 256 = _
  omega
set_option maxHeartbeats 4000000 in
theorem tag_any (key : ByteArray) (A g : Nat) (w : World) (H : Ta w g key A) :
    Calls Try.prog 45 #[.pointer (some ⟨g, 0, none⟩)] w fun e w' => e = .returned (.string (tagS A (padN key))) ∧ Below w.heap.size w w' := by
  obtain ⟨h, h1, h2, h3⟩ := H
  have hw := words_val (red_lt h1)
  have hv : val (redD h) = A := by rw [red_val h1, h2]
  have ht := tag_words (lowW (redD h)) (highW (redD h)) A (padW key 0) (padW key 8) hw.1 hw.2.1 (padW_lt _ _) (padW_lt _ _) (by rw [hw.2.2, hv])
  rw [padW_val] at ht
  have HRd := Lib.hid (fun u => reduced_any h u h1)
  have HWd := Lib.hid (fun u => words_any (redD h) u (red_lt h1))
  have HSm := Lib.hid (fun u => sum128_any (lowW (redD h)) (highW (redD h)) (padW key 0) (padW key 8) u hw.1 (padW_lt _ _))
  rw [ht.1, ht.2] at HSm
  have HT := Lib.hid h3
  have HTg : Hid (tagS A (padN key) = Lw.pieceS (tagB (A + padN key)) 0 16) := by
    show _ = _
    unfold tagS Lw.pieceS tagB
    simp only [Nat.zero_add]
  generalize tagS A (padN key) = TG at HTg ⊢
  generalize A + padN key = X at HSm HTg
  have HLo := Lib.hid (tagB_low X)
  have HHi := Lib.hid (tagB_high X)
  generalize X % 18446744073709551616 = L at HSm HLo
  generalize X / 18446744073709551616 % 18446744073709551616 = Hh at HSm HHi
  generalize tagB X = f at HLo HHi HTg
  generalize lowW (redD h) = lo at HWd HSm
  generalize highW (redD h) = hi at HWd HSm
  generalize padW key 0 = pl at HSm HT
  generalize padW key 8 = ph at HSm HT
  generalize redD h = rd at HRd HWd
  generalize facL key = fc at HT
  obtain ⟨M, hM, hMc, hmk0⟩ := Lw.zeros 16 (by decide)
  have HMk : Hid (∀ W : World, (Instr.makeSlice 27 (.int .i64 16) (.int .i64 16)).run Try.prog W = .ok (.slice (some ⟨W.heap.size, 0, none⟩) 16 16) (W.alloc (.cells M 5))) := hmk0
  have HNw := Lib.hid (fun u : World => Lw.rowB_new u M 16 hM hMc)
  clear h1 h2 h3 hw hv ht hM hMc hmk0
  go_enter Try.func45, Try.ntmps45
  go_upto_region 1 with (fail)
  apply wp_region_lit
  refine Lw.wpList_val rfl (.pointer (some ⟨g, 0, none⟩)) w (by go_simp) ?_
  refine Lw.wpList_val rfl (.pointer (some ⟨g, 0, none⟩)) w (by go_simp) ?_
  refine Lw.wpList_val rfl (.pointer (some ⟨g, 5, none⟩)) w (by go_simp) ?_
  simp only [Act.put, List.setIfInBounds_toArray, List.set_cons_zero, List.set_cons_succ]
  refine wpList_load_mid rfl 72 _ rfl g 5 rfl (lmV h) _ HT.out.sum Try.underlying72 rfl (by kernel_rfl) ?_
  simp only [Act.put, List.setIfInBounds_toArray, List.set_cons_zero, List.set_cons_succ]
  refine Lw.wpList_callTo (some 12) rfl rfl 61 _ _ rfl (fun _ _ => by go_simp) #[.agg (lmA h)] (by kernel_rfl) ?_
  refine (HRd.out w).mono ?_
  rintro e u ⟨rfl, hb⟩
  refine ⟨_, rfl, ?_⟩
  simp only [Act.put, List.setIfInBounds_toArray, List.set_cons_zero, List.set_cons_succ]
  refine Lw.wpList_callTo (some 13) rfl rfl 62 _ _ rfl (fun _ _ => by go_simp) #[.agg (lmA rd)] (by kernel_rfl) ?_
  refine (HWd.out u).mono ?_
  rintro e v ⟨rfl, hb2⟩
  refine ⟨_, rfl, ?_⟩
  simp only [Act.put, List.setIfInBounds_toArray, List.set_cons_zero, List.set_cons_succ]
  have HT := Lib.hid ((HT.out.on hb).on hb2)
  have HB := Lib.hid (Lw.go_on hb hb2)
  clear hb hb2 HRd HWd
  have c0 := HT.out.low
  have c1 := HT.out.high
  generalize (lmV h).toArray = Ah
  generalize lmA rd = Ar
  go_upto_region 2 with (fail)
  go_quiet ((go_at_call 63; exact Calls.quiet_of_same (HSm.out _)))
  have HB := Lib.hid (Lw.below_drewN HB.out nq)
  clear c0 c1 HSm HT
  generalize v.drewN nq = v1 at HB ⊢
  have hmk := HMk.out
  go_wp2_with (fail)
  have HO : Hid (Lw.RowB (v1.alloc (.cells M 5)) v1.heap.size 16 (outT f 0)) := (HNw.out v1).congr fun t _ => outT_zero f t
  have HG := Lib.hid HB.out.size
  have HB : Hid (Below w.heap.size w (v1.alloc (.cells M 5))) := HB.out.alloc HB.out.size _
  clear hmk HMk HNw
  generalize v1.alloc (.cells M 5) = v2 at HO HB ⊢
  generalize v1.heap.size = go at HO HG ⊢
  go_loopw [31] (fun v wx => ∃ i : Nat, Hid (i ≤ 8) ∧ v = .int .i64 i ∧ Hid (Lw.RowB wx go 16 (outT f i)) ∧ Hid (Below w.heap.size w wx)) (fun v _ => 8 - (intOf v).toNat)
  case atStart => exact ⟨0, Nat.zero_le _, rfl, HO, HB⟩
  case round =>
    clear HO HB
    obtain ⟨i, hi, rfl, HO, HB⟩ := hrel
    by_cases hlt : i < 8
    · have il : ((i : Int) < 8) = True := eq_true (by omega)
      have i8 : (i : Int) < 8 := by omega
      have HI := Lib.hid hlt
      have HV1 := Lib.hid (HLo.out i hlt)
      have HV2 := Lib.hid (HHi.out i hlt)
      have HSt := Lib.hid (fun t => outT_succ f i t hlt)
      generalize f i = b1 at HV1 HSt
      generalize f (8 + i) = b2 at HV2 HSt
      have HB1l : Hid (b1 < 256) := by show b1 < 256; rw [← HV1.out]; exact Nat.mod_lt _ (by decide)
      have HB2l : Hid (b2 < 256) := by show b2 < 256; rw [← HV2.out]; exact Nat.mod_lt _ (by decide)
      clear hlt
      go_upto_region 7 with (fail)
      clear il
      apply wp_region_lit
      refine Lw.wpList_val rfl (.slice (some ⟨go, 0, none⟩) 16 16) wr (by go_simp) ?_
      refine Lw.wpList_val rfl (.int .i64 (i : Int)) wr (by go_simp) ?_
      refine Lw.wpList_val rfl (.int .u64 (L : Int)) wr (by go_simp) ?_
      refine Lw.wpList_val rfl (.int .i64 (i : Int)) wr (by go_simp) ?_
      refine Lw.wpList_val rfl (.int .i64 ((8 * i : Nat) : Int)) wr (by
        have e : IntKind.i64.wrap (8 * (i : Int)) = ((8 * i : Nat) : Int) := by rw [IntWalk.i64_in _ (by have := HI.out; omega)]; omega
        generalize 8 * i = z at e
        go_simp) ?_
      refine Lw.wpList_val rfl (.int .u64 ((L / 2 ^ (8 * i) : Nat) : Int)) wr (by
        have hz : 8 * i ≤ 56 := by have := HI.out; omega
        generalize 8 * i = z at hz ⊢
        have m : min z 64 = z := Nat.min_eq_left (by omega)
        go_simp) ?_
      refine Lw.wpList_val rfl (.int .u8 (b1 : Int)) wr (by
        have e := shr_u8 L (8 * i) b1 HV1.out
        generalize L / 2 ^ (8 * i) = z at e ⊢
        go_simp) ?_
      simp only [Act.put, List.setIfInBounds_toArray, List.set_cons_zero, List.set_cons_succ]
      generalize ((8 * i : Nat) : Int) = zz
      generalize ((L / 2 ^ (8 * i) : Nat) : Int) = yy
      have xc := World.rowIs.cell HO.out (i := i) (by have := HI.out; omega)
      have xf := World.rowIs.frozen HO.out i
      generalize outT f i i = old at xc
      have i16 : (i : Int) < 16 := by omega
      go_upto_region 8 with (fail)
      clear xc xf
      have HO := Lib.hid (HO.out.set i b1)
      have HB : Hid (Below w.heap.size w (wr.setCell ⟨go, i, none⟩ (.int .u8 (b1 : Int)))) := HB.out.setCell HG.out _
      generalize wr.setCell ⟨go, i, none⟩ (.int .u8 (b1 : Int)) = w5 at HO HB ⊢
      obtain ⟨k, hk⟩ : ∃ k, 8 + i = k := ⟨_, rfl⟩
      have HK := Lib.hid hk
      have xc := World.rowIs.cell HO.out (i := k) (by have := HI.out; omega)
      have xf := World.rowIs.frozen HO.out k
      dsimp only at xc
      generalize (if k = i then b1 else outT f i k) = old at xc
      have k16 : (k : Int) < 16 := by have := HI.out; omega
      clear hk
      apply wp_region_lit
      refine Lw.wpList_val rfl (.slice (some ⟨go, 0, none⟩) 16 16) w5 (by go_simp) ?_
      refine Lw.wpList_val rfl (.int .i64 (i : Int)) w5 (by go_simp) ?_
      refine Lw.wpList_val rfl (.int .i64 (k : Int)) w5 (by
        have e : IntKind.i64.wrap (8 + (i : Int)) = (k : Int) := by rw [IntWalk.i64_in _ (by have := HI.out; omega)]; have := HK.out; omega
        go_simp) ?_
      refine Lw.wpList_val rfl (.int .u64 (Hh : Int)) w5 (by go_simp) ?_
      refine Lw.wpList_val rfl (.int .i64 (i : Int)) w5 (by go_simp) ?_
      refine Lw.wpList_val rfl (.int .i64 ((8 * i : Nat) : Int)) w5 (by
        have e : IntKind.i64.wrap (8 * (i : Int)) = ((8 * i : Nat) : Int) := by rw [IntWalk.i64_in _ (by have := HI.out; omega)]; omega
        generalize 8 * i = z at e
        go_simp) ?_
      refine Lw.wpList_val rfl (.int .u64 ((Hh / 2 ^ (8 * i) : Nat) : Int)) w5 (by
        have hz : 8 * i ≤ 56 := by have := HI.out; omega
        generalize 8 * i = z at hz ⊢
        have m : min z 64 = z := Nat.min_eq_left (by omega)
        go_simp) ?_
      refine Lw.wpList_val rfl (.int .u8 (b2 : Int)) w5 (by
        have e := shr_u8 Hh (8 * i) b2 HV2.out
        generalize Hh / 2 ^ (8 * i) = z at e ⊢
        go_simp) ?_
      simp only [Act.put, List.setIfInBounds_toArray, List.set_cons_zero, List.set_cons_succ]
      generalize ((8 * i : Nat) : Int) = zz2
      generalize ((Hh / 2 ^ (8 * i) : Nat) : Int) = yy2
      go_wp2_with (fail)
      have HB : Hid (Below w.heap.size w (w5.setCell ⟨go, k, none⟩ (.int .u8 (b2 : Int)))) := HB.out.setCell HG.out _
      refine ⟨⟨i + 1, HI.out, by go_num, (HO.out.set k b2).congr fun t _ => ?_, HB⟩, Lw.meas 8 i HI.out⟩
      rw [← HK.out]
      exact HSt.out t
    · have il : ((i : Int) < 8) = False := eq_false (by omega)
      obtain rfl : i = 8 := by have := hi.out; omega
      rw [show ((8 : Nat) : Int) = 8 from rfl]
      clear hlt hi
      have hcv := (HO.out.congr fun t ht => outT_end f t ht).text 0 16 16 (by decide)
      rw [← HTg.out] at hcv
      go_wp2_with (fail)
      go_ret
      exact ⟨rfl, HB.out⟩
end Go.Proofs.Pd
