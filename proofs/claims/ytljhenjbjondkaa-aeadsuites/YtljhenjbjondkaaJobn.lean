/-
  The developers' poly: a text written into a tagger.
-/
import Derived.Test.YtljhenjbjondkaaJobm
namespace Go.Proofs.Pd
open Go.RowKit
open Go.Proofs.Aes (byt byt_lt get_byt)
open Go.Proofs.Cha (byt_left byt_right byt_cut text_ext)
open Go.Proofs.Pol (lmL lmA lmA_get lmA_congr lmA_one lmA_size lt5 lmV lmV_arr leB leB_lt leB_congr zS zS_size zS_byt val p130 rN padN blkN blkL blkB blkB_lt runK fillS fillS_size run_append)
open Go.Proofs.Rt (ready_loadTo ready_callTo ready_storeTo)
def tsz : Value → Nat
  | .string s => s.size
  | _ => 0
theorem wd_two (B : ByteArray) : wdS B 0 + 18446744073709551616 * wdS B 8 = leB (byt B) 16 := by
  have e : wdS B 0 = leB (byt B) 8 := leB_congr 8 fun i _ => by rw [Nat.zero_add]
  rw [leB_16, e]; rfl
theorem blk_full (s : ByteArray) (k : Nat) (h : 16 * k + 16 ≤ s.size) (T : ByteArray) (hT : T = s.extract (16 * k) s.size) :
    wdS T 0 + 18446744073709551616 * wdS T 8 + 340282366920938463463374607431768211456 * 1 = blkN s k := by
  have e : blkL s k = 16 := by unfold blkL; omega
  rw [wd_two, Nat.mul_one]
  unfold blkN
  rw [e, two128, leB_congr (b := byt T) (c := blkB s k) 16 fun i hi => by rw [hT, byt_cut s (16 * k) s.size i (by omega) (Nat.le_refl _)]; rfl]
theorem one_byt (n : Nat) (h : n = 0) : byt ⟨#[1]⟩ n = 1 := by subst h; rfl
theorem leB_nought {f : Nat → Nat} (n : Nat) (h : ∀ i, i < n → f i = 0) : leB f n = 0 := by
  induction n with
  | zero => rfl
  | succ n ih => show leB f n + f n * 256 ^ n = 0; rw [ih fun i hi => h i (by omega), h n (by omega), Nat.zero_mul]
theorem blk_last (s : ByteArray) (k n m : Nat) (h : 16 * k + n = s.size) (hn : n < 16) (hm : 16 - (n + 1) = m) (T : ByteArray) (hT : T = s.extract (16 * k) s.size) :
    wdS ((T ++ ⟨#[1]⟩) ++ zS m) 0 + 18446744073709551616 * wdS ((T ++ ⟨#[1]⟩) ++ zS m) 8 + 340282366920938463463374607431768211456 * 0 = blkN s k := by
  have e : blkL s k = n := by unfold blkL; omega
  have zt : T.size = n := by rw [hT, ByteArray.size_extract]; omega
  have z1 : (T ++ ⟨#[1]⟩ : ByteArray).size = n + 1 := by rw [ByteArray.size_append, zt]; rfl
  have zm := zS_size m
  rw [wd_two, Nat.mul_zero, Nat.add_zero]
  unfold blkN
  have b0 : ∀ i, i < n → byt ((T ++ ⟨#[1]⟩) ++ zS m) i = blkB s k i := fun i hi => by
    rw [byt_left _ _ _ (by omega), byt_left _ _ _ (by omega), hT, byt_cut s (16 * k) s.size i (by omega) (Nat.le_refl _)]; rfl
  have b1 : byt ((T ++ ⟨#[1]⟩) ++ zS m) n = 1 := by
    rw [byt_left _ _ _ (by omega), byt_right _ _ _ (by omega) (by rw [zt]; show n < n + 1; omega)]
    exact one_byt _ (by omega)
  have b2 : ∀ i, i < m → byt ((T ++ ⟨#[1]⟩) ++ zS m) (n + (1 + i)) = 0 := fun i hi => by
    rw [byt_right _ _ _ (by omega) (by omega)]
    exact zS_byt m _ (by omega)
  generalize byt ((T ++ ⟨#[1]⟩) ++ zS m) = f at b0 b1 b2 ⊢
  rw [e, show 16 = n + (1 + m) by omega, leB_add, leB_add (fun i => f (n + i)) 1 m, leB_nought (f := fun i => (fun i => f (n + i)) (1 + i)) m b2, Nat.zero_mul, Nat.add_zero, leB_congr (b := f) (c := blkB s k) n b0]
  show _ + (0 + f (n + 0) * 256 ^ 0) * 256 ^ n = _
  rw [Nat.add_zero, b1, Nat.zero_add, Nat.pow_zero, Nat.mul_one, Nat.one_mul]
theorem isE {r : ByteArray} (h : 0 < r.size) : r.toList.isEmpty = false := by
  rw [ByteArray.toList_eq]
  have : r.data.toList.length = r.size := by simp
  cases hl : r.data.toList with
  | nil => rw [hl] at this; simp at this; omega
  | cons _ _ => rfl
/-- A block of two words taken in. -/
theorem limbs_of (x0 x1 t : Nat) (w : World) (h0 : x0 < 18446744073709551616) (h1 : x1 < 18446744073709551616) (ht : t ≤ 3) (tz : Int) (hz : tz = (t : Int)) :
    Calls Try.prog 44 #[.int .u64 x0, .int .u64 x1, .int .u64 tz] w fun e w' => e = .returned (.agg (lmA (limF x0 x1 t))) ∧ Below w.heap.size w w' := by subst hz; exact limbs_any x0 x1 t w h0 h1 ht
set_option maxHeartbeats 4000000 in
theorem write_any (key s : ByteArray) (A0 g : Nat) (w : World) (h : Ta w g key A0) (hs : s.size ≤ 140737488355328) :
    Calls Try.prog 57 #[.pointer (some ⟨g, 0, none⟩), .string s] w fun e w' => e = .returned (.tuple #[]) ∧ But g w w' ∧ Ta w' g key (Pol.runN (rN key) A0 s) := by
  have H0 := Lib.hid h
  have HS := Lib.hid hs
  clear h hs
  go_enter Try.func57, Try.ntmps57
  go_wp2_with (fail)
  go_loopw [1] (fun v wx => ∃ (k n : Nat) (T : ByteArray), v = .string T ∧ T.size = n ∧ Hid (16 * k + n = s.size) ∧ Hid (T = s.extract (16 * k) s.size) ∧ Hid (But g w wx) ∧ Hid (Ta wx g key (runK (rN key) A0 s k))) (fun v _ => tsz v)
  case atStart => exact ⟨0, s.size, s, rfl, rfl, by show 16 * 0 + s.size = s.size; omega, by show s = s.extract 0 s.size; rw [ByteArray.extract_zero_size], But.refl g w, H0⟩
  case round =>
    clear H0
    obtain ⟨k, n, T, rfl, hn, hk, hT, HB, HH⟩ := hrel
    by_cases hlt : 16 ≤ n
    · have nl : ((16 : Int) ≤ (n : Int)) = True := eq_true (by omega)
      have n8 : (8 : Int) ≤ (n : Int) := by omega
      have n16 : (16 : Int) ≤ (n : Int) := by omega
      have HV := Lib.hid (blk_full s k (by have := hk.out; omega) T hT.out)
      have HN := Lib.hid hlt
      obtain ⟨K0, e0⟩ : ∃ K, T.extract 0 8 = K := ⟨_, rfl⟩
      obtain ⟨K1, e1⟩ : ∃ K, T.extract 8 16 = K := ⟨_, rfl⟩
      have HW0 := Lib.hid (fun u => word_at T 0 8 u (by decide) (by omega))
      have HW1 := Lib.hid (fun u => word_at T 8 16 u (by decide) (by omega))
      rw [e0] at HW0
      rw [e1] at HW1
      have HX0 := Lib.hid (wdS_lt T 0)
      have HX1 := Lib.hid (wdS_lt T 8)
      generalize wdS T 0 = x0 at HV HW0 HX0
      generalize wdS T 8 = x1 at HV HW1 HX1
      have HLm := Lib.hid (fun u => limbs_of x0 x1 1 u HX0.out HX1.out (by decide) 1 rfl)
      have HAd : Hid (∀ u, Ta u g key (runK (rN key) A0 s k) → Calls Try.prog 43 #[.pointer (some ⟨g, 0, none⟩), .agg (lmA (limF x0 x1 1))] u fun e w' => e = .returned (.tuple #[]) ∧ But g u w' ∧ Ta w' g key (runK (rN key) A0 s (k + 1))) := fun u hu =>
        add_any (limF x0 x1 1) (blkN s k) g _ key u hu (limF_lt x0 x1 1 HX1.out (by decide)) (by rw [val_limF x0 x1 1 HX0.out HX1.out]; exact HV.out)
      generalize lmA (limF x0 x1 1) = L at HLm HAd
      generalize runK (rN key) A0 s k = A at HH HAd
      clear hlt HV HX0 HX1
      go_upto_region 2 with (fail)
      clear nl
      refine wp_region_any (by kernel_rfl) ?_
      change wpAny _ _ _ _ _ _ _ wr.drew
      have HBd : Hid (But g w wr.drew) := HB.out.drew
      have HHd : Hid (Ta wr.drew g key A) := HH.out.drew
      generalize wr.drew = wd at HBd HHd ⊢
      refine Lw.take_to (i := 0) (some 10) (.pointer (some ⟨g, 0, none⟩)) rfl rfl (by kernel_rfl) (by kernel_rfl) (by kernel_rfl) (fun _ _ _ h => h) (Or.inl ⟨by rfl, fun w => by go_simp⟩) ?_
      refine Lw.take_to (i := 1) (some 11) (.string T) rfl rfl (by kernel_rfl) (by kernel_rfl) (by kernel_rfl) (fun _ _ _ h => h) (Or.inl ⟨by rfl, fun w => by go_simp⟩) ?_
      refine Lw.take_to (i := 2) (some 12) (.string K0) rfl rfl (by kernel_rfl) (by kernel_rfl) (by kernel_rfl) (fun _ _ _ h => h) (Or.inl ⟨by rfl, fun w => by go_simp⟩) ?_
      refine Lw.take_to (i := 4) (some 14) (.string T) rfl rfl (by kernel_rfl) (by kernel_rfl) (by kernel_rfl) (fun _ _ _ h => h) (Or.inl ⟨by rfl, fun w => by go_simp⟩) ?_
      refine Lw.take_to (i := 5) (some 15) (.string K1) rfl rfl (by kernel_rfl) (by kernel_rfl) (by kernel_rfl) (fun _ _ _ h => h) (Or.inl ⟨by rfl, fun w => by go_simp⟩) ?_
      simp only [Act.put, List.setIfInBounds_toArray, List.set_cons_zero, List.set_cons_succ]
      refine wpAny_ready (rs := [3]) (by kernel_rfl) (by simp) ?_
      refine ready_callTo (some 13) rfl rfl rfl 56 _ _ rfl (fun _ _ => by go_simp) #[.string K0] (by kernel_rfl) ?_ AllReady.nil
      refine (HW0.out _).mono ?_
      rintro e u ⟨rfl, rfl⟩
      refine ⟨_, rfl, ?_⟩
      simp only [Act.put, List.setIfInBounds_toArray, List.set_cons_zero, List.set_cons_succ]
      refine wpAny_ready (rs := [6]) (by kernel_rfl) (by simp) ?_
      refine ready_callTo (some 16) rfl rfl rfl 56 _ _ rfl (fun _ _ => by go_simp) #[.string K1] (by kernel_rfl) ?_ AllReady.nil
      refine (HW1.out _).mono ?_
      rintro e u ⟨rfl, rfl⟩
      refine ⟨_, rfl, ?_⟩
      simp only [Act.put, List.setIfInBounds_toArray, List.set_cons_zero, List.set_cons_succ]
      refine wpAny_ready (rs := [7]) (by kernel_rfl) (by simp) ?_
      refine ready_callTo (some 17) rfl rfl rfl 44 _ _ rfl (fun _ _ => by go_simp) #[.int .u64 (x0 : Nat), .int .u64 (x1 : Nat), .int .u64 1] (by kernel_rfl) ?_ AllReady.nil
      refine (HLm.out _).mono ?_
      rintro e u ⟨rfl, hbu⟩
      refine ⟨_, rfl, ?_⟩
      simp only [Act.put, List.setIfInBounds_toArray, List.set_cons_zero, List.set_cons_succ]
      have HBu := Lib.hid (HBd.out.on hbu)
      have HHu := Lib.hid (HHd.out.on hbu)
      refine wpAny_ready (rs := [8]) (by kernel_rfl) (by simp) ?_
      refine ready_callTo (some 18) rfl rfl rfl 43 _ _ rfl (fun _ _ => by go_simp) #[.pointer (some ⟨g, 0, none⟩), .agg L] (by kernel_rfl) ?_ AllReady.nil
      refine (HAd.out _ HHu.out).mono ?_
      rintro e v ⟨rfl, hbv, hv⟩
      refine ⟨_, rfl, ?_⟩
      simp only [Act.put, List.setIfInBounds_toArray, List.set_cons_zero, List.set_cons_succ]
      have HBv := Lib.hid (HBu.out.trans hbv)
      have HHv := Lib.hid hv
      refine wpAny_done (by kernel_rfl) ?_ _
      clear hbu hbv hv HBu HHu e0 e1
      go_wp2_with (fail)
      refine ⟨⟨k + 1, n - 16, T.extract 16 n, rfl, by rw [ByteArray.size_extract]; omega, by show 16 * (k + 1) + (n - 16) = s.size; have := hk.out; have := HN.out; omega, ?_, HBv, HHv⟩, ?_⟩
      · show T.extract 16 n = s.extract (16 * (k + 1)) s.size
        have := hk.out
        rw [hT.out, ByteArray.extract_extract, show min (16 * k + n) s.size = s.size by omega, show 16 * k + 16 = 16 * (k + 1) by omega]
      · show (T.extract 16 n).size < T.size
        have := HN.out
        rw [ByteArray.size_extract]; omega
    · have nl : ((16 : Int) ≤ (n : Int)) = False := eq_false (by omega)
      by_cases h0 : 0 < n
      · have n0 : T.toList.isEmpty = false := isE (by omega)
        obtain ⟨m, hm⟩ : ∃ m, 16 - (n + 1) = m := ⟨_, rfl⟩
        have HV := Lib.hid (blk_last s k n m hk.out (by omega) hm T hT.out)
        have z1 : (T ++ ⟨#[1]⟩ : ByteArray).size = n + 1 := by rw [ByteArray.size_append, hn]; rfl
        have z2 : ((T ++ ⟨#[1]⟩) ++ zS m : ByteArray).size = 16 := by rw [ByteArray.size_append, z1, zS_size]; omega
        have HFl := Lib.hid (fun u => filled_any (T ++ ⟨#[1]⟩) u (by omega))
        have HWr : Hid (runK (rN key) A0 s (k + 1) = Pol.runN (rN key) A0 s) := by
          show _ = runK (rN key) A0 s ((s.size + 15) / 16)
          rw [show (s.size + 15) / 16 = k + 1 by have := hk.out; omega]
        rw [z1, hm] at HFl
        obtain ⟨T1, t1⟩ : ∃ T1 : ByteArray, T ++ ⟨#[1]⟩ = T1 := ⟨_, rfl⟩
        rw [t1] at HV z1 z2 HFl
        generalize T1 ++ zS m = B at HV z2 HFl
        obtain ⟨K0, e0⟩ : ∃ K, B.extract 0 8 = K := ⟨_, rfl⟩
        obtain ⟨K1, e1⟩ : ∃ K, B.extract 8 16 = K := ⟨_, rfl⟩
        have HW0 := Lib.hid (fun u => word_at B 0 8 u (by decide) (by omega))
        have HW1 := Lib.hid (fun u => word_at B 8 16 u (by decide) (by omega))
        rw [e0] at HW0
        rw [e1] at HW1
        have HX0 := Lib.hid (wdS_lt B 0)
        have HX1 := Lib.hid (wdS_lt B 8)
        generalize wdS B 0 = x0 at HV HW0 HX0
        generalize wdS B 8 = x1 at HV HW1 HX1
        have HLm := Lib.hid (fun u => limbs_of x0 x1 0 u HX0.out HX1.out (by decide) 0 rfl)
        have HAd : Hid (∀ u, Ta u g key (runK (rN key) A0 s k) → Calls Try.prog 43 #[.pointer (some ⟨g, 0, none⟩), .agg (lmA (limF x0 x1 0))] u fun e w' => e = .returned (.tuple #[]) ∧ But g u w' ∧ Ta w' g key (runK (rN key) A0 s (k + 1))) := fun u hu =>
          add_any (limF x0 x1 0) (blkN s k) g _ key u hu (limF_lt x0 x1 0 HX1.out (by decide)) (by rw [val_limF x0 x1 0 HX0.out HX1.out]; exact HV.out)
        rw [HWr.out] at HAd
        generalize lmA (limF x0 x1 0) = L at HLm HAd
        generalize runK (rN key) A0 s k = A at HH HAd
        have HZ2 := Lib.hid z2
        have q2 : ¬ 9223372036854775807 < n + 1 := by omega
        clear hlt h0 HV HX0 HX1 hm z2
        go_upto_region 4 with (fail)
        clear nl n0
        go_upto_region 5 with (go_at_call 58; refine (HFl.out _).mono ?_; rintro e u0 ⟨rfl, hb0⟩)
        have HB := Lib.hid (HB.out.on hb0)
        have HH := Lib.hid (HH.out.on hb0)
        have z2 := HZ2.out
        clear hb0 q2 t1 z1
        refine wp_region_any (by kernel_rfl) ?_
        change wpAny _ _ _ _ _ _ _ u0.drew
        have HBd : Hid (But g w u0.drew) := HB.out.drew
        have HHd : Hid (Ta u0.drew g key A) := HH.out.drew
        generalize u0.drew = wd at HBd HHd ⊢
        refine Lw.take_to (i := 0) (some 24) (.pointer (some ⟨g, 0, none⟩)) rfl rfl (by kernel_rfl) (by kernel_rfl) (by kernel_rfl) (fun _ _ _ h => h) (Or.inl ⟨by rfl, fun w => by go_simp⟩) ?_
        refine Lw.take_to (i := 1) (some 25) (.string B) rfl rfl (by kernel_rfl) (by kernel_rfl) (by kernel_rfl) (fun _ _ _ h => h) (Or.inl ⟨by rfl, fun w => by go_simp⟩) ?_
        refine Lw.take_to (i := 2) (some 26) (.string K0) rfl rfl (by kernel_rfl) (by kernel_rfl) (by kernel_rfl) (fun _ _ _ h => h) (Or.inl ⟨by rfl, fun w => by go_simp⟩) ?_
        refine Lw.take_to (i := 4) (some 28) (.string B) rfl rfl (by kernel_rfl) (by kernel_rfl) (by kernel_rfl) (fun _ _ _ h => h) (Or.inl ⟨by rfl, fun w => by go_simp⟩) ?_
        refine Lw.take_to (i := 5) (some 29) (.string K1) rfl rfl (by kernel_rfl) (by kernel_rfl) (by kernel_rfl) (fun _ _ _ h => h) (Or.inl ⟨by rfl, fun w => by go_simp⟩) ?_
        simp only [Act.put, List.setIfInBounds_toArray, List.set_cons_zero, List.set_cons_succ]
        refine wpAny_ready (rs := [3]) (by kernel_rfl) (by simp) ?_
        refine ready_callTo (some 27) rfl rfl rfl 56 _ _ rfl (fun _ _ => by go_simp) #[.string K0] (by kernel_rfl) ?_ AllReady.nil
        refine (HW0.out _).mono ?_
        rintro e u ⟨rfl, rfl⟩
        refine ⟨_, rfl, ?_⟩
        simp only [Act.put, List.setIfInBounds_toArray, List.set_cons_zero, List.set_cons_succ]
        refine wpAny_ready (rs := [6]) (by kernel_rfl) (by simp) ?_
        refine ready_callTo (some 30) rfl rfl rfl 56 _ _ rfl (fun _ _ => by go_simp) #[.string K1] (by kernel_rfl) ?_ AllReady.nil
        refine (HW1.out _).mono ?_
        rintro e u ⟨rfl, rfl⟩
        refine ⟨_, rfl, ?_⟩
        simp only [Act.put, List.setIfInBounds_toArray, List.set_cons_zero, List.set_cons_succ]
        refine wpAny_ready (rs := [7]) (by kernel_rfl) (by simp) ?_
        refine ready_callTo (some 31) rfl rfl rfl 44 _ _ rfl (fun _ _ => by go_simp) #[.int .u64 (x0 : Nat), .int .u64 (x1 : Nat), .int .u64 0] (by kernel_rfl) ?_ AllReady.nil
        refine (HLm.out _).mono ?_
        rintro e u ⟨rfl, hbu⟩
        refine ⟨_, rfl, ?_⟩
        simp only [Act.put, List.setIfInBounds_toArray, List.set_cons_zero, List.set_cons_succ]
        have HBu := Lib.hid (HBd.out.on hbu)
        have HHu := Lib.hid (HHd.out.on hbu)
        refine wpAny_ready (rs := [8]) (by kernel_rfl) (by simp) ?_
        refine ready_callTo (some 32) rfl rfl rfl 43 _ _ rfl (fun _ _ => by go_simp) #[.pointer (some ⟨g, 0, none⟩), .agg L] (by kernel_rfl) ?_ AllReady.nil
        refine (HAd.out _ HHu.out).mono ?_
        rintro e v ⟨rfl, hbv, hv⟩
        refine ⟨_, rfl, ?_⟩
        simp only [Act.put, List.setIfInBounds_toArray, List.set_cons_zero, List.set_cons_succ]
        have HBv := Lib.hid (HBu.out.trans hbv)
        have HHv := Lib.hid hv
        refine wpAny_done (by kernel_rfl) ?_ _
        clear hbu hbv hv HBu HHu e0 e1
        go_wp2_with (fail)
        go_end0
        exact ⟨rfl, HBv.out, HHv.out⟩
      · have n1 : n = 0 := by omega
        have n0 : T = ByteArray.empty := by
          apply ByteArray.ext
          apply Array.eq_empty_of_size_eq_zero
          show T.size = 0
          omega
        have HWr : Hid (runK (rN key) A0 s k = Pol.runN (rN key) A0 s) := by
          show _ = runK (rN key) A0 s ((s.size + 15) / 16)
          rw [show (s.size + 15) / 16 = k by have := hk.out; omega]
        subst n0
        clear hlt h0
        go_wp2_with (fail)
        go_end0
        exact ⟨rfl, HB.out, HWr.out ▸ HH.out⟩
end Go.Proofs.Pd
