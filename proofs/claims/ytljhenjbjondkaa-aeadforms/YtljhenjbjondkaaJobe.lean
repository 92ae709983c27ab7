/-
  The developers' gcm: Open at every input.
-/
import Derived.Test.YtljhenjbjondkaaJobd
namespace Go.Proofs.Gs
open Go.RowKit Go.Proofs.Gcm Go.Proofs.Gd
open Go.Proofs.Aes (byt byt_lt get_byt ciphS encS encS_size)
open Go.Proofs.Sha (wpList_alloc_to)
set_option maxHeartbeats 2000000 in
theorem open_key (key nonce aad s : ByteArray) (w : World) (h : ¬ (keyOk key = true ∧ nonce.size = 12)) :
    Calls Try.prog 27 #[.string key, .string nonce, .string aad, .string s] w fun e w' => e = .returned (.tuple #[.string ⟨#[]⟩, .int .i64 500]) ∧ Below w.heap.size w w' := by
  have HNk := Lib.hid h
  clear h
  go_enter Try.func27, Try.ntmps27
  go_upto_region 1 with (fail)
  apply wp_region_lit
  refine Lw.wpList_val rfl (.string key) w (by go_simp) ?_
  refine Lw.wpList_val rfl (.string nonce) w (by go_simp) ?_
  simp only [Act.put, List.setIfInBounds_toArray, List.set_cons_zero, List.set_cons_succ]
  refine Lw.wpList_callTo (some 17) rfl rfl 21 _ _ rfl (fun _ _ => by go_simp) #[.string key, .string nonce] (by kernel_rfl) ?_
  refine (keyed_no key nonce _ HNk.out).mono ?_
  rintro e u ⟨rfl, hb⟩
  refine ⟨_, rfl, ?_⟩
  simp only [Act.put, List.setIfInBounds_toArray, List.set_cons_zero, List.set_cons_succ]
  refine Lw.wpList_val rfl (.tuple #[.agg noC, .int .i64 500]) u (by go_simp) ?_
  simp only [Act.put, List.setIfInBounds_toArray, List.set_cons_zero, List.set_cons_succ]
  refine Lw.wpList_val rfl (.agg noC) u (by go_simp) ?_
  simp only [Act.put, List.setIfInBounds_toArray, List.set_cons_zero, List.set_cons_succ]
  refine Lw.wpList_val rfl (.int .i64 500) u (by go_simp) ?_
  simp only [Act.put, List.setIfInBounds_toArray, List.set_cons_zero, List.set_cons_succ]
  refine wpList_alloc_to rfl 48 rfl noC u.heap.size rfl allocC ?_
  simp only [Act.put, List.setIfInBounds_toArray, List.set_cons_zero, List.set_cons_succ]
  refine wpList_store_row rfl 48 _ _ rfl u.heap.size noC rfl rfl 48 _ (CiR.new u _ _ _) (by kernel_rfl) rfl (cA_one _ _ _) ?_
  have HB : Hid (Below w.heap.size w ((u.alloc (.cells noC 48)).setRow u.heap.size noC)) := below_setRow (hb.alloc hb.size _) hb.size _
  generalize (u.alloc (.cells noC 48)).setRow u.heap.size noC = v at HB ⊢
  generalize u.heap.size = c
  clear hb
  simp only [Act.put]
  go_wp2_with (fail)
  go_ret2
  exact ⟨rfl, HB.out⟩
set_option maxHeartbeats 2000000 in
theorem open_aad (key nonce aad s : ByteArray) (w : World) (hk : keyOk key = true) (hno : nonce.size = 12) (ha : ¬ aad.size ≤ 65536) :
    Calls Try.prog 27 #[.string key, .string nonce, .string aad, .string s] w fun e w' => e = .returned (.tuple #[.string ⟨#[]⟩, .int .i64 500]) ∧ Below w.heap.size w w' := by
  have HK := Lib.hid hk
  have HNo := Lib.hid hno
  clear hk hno
  have a1 : ((65536 : Int) < (aad.size : Int)) = True := eq_true (by omega)
  have a2 : (65536 < aad.size) = True := eq_true (by omega)
  clear ha
  go_enter Try.func27, Try.ntmps27
  go_upto_region 1 with (fail)
  apply wp_region_lit
  refine Lw.wpList_val rfl (.string key) w (by go_simp) ?_
  refine Lw.wpList_val rfl (.string nonce) w (by go_simp) ?_
  simp only [Act.put, List.setIfInBounds_toArray, List.set_cons_zero, List.set_cons_succ]
  refine Lw.wpList_callTo (some 17) rfl rfl 21 _ _ rfl (fun _ _ => by go_simp) #[.string key, .string nonce] (by kernel_rfl) ?_
  refine (keyed_ok key nonce _ HK.out HNo.out).mono ?_
  rintro e u ⟨rfl, hb⟩
  refine ⟨_, rfl, ?_⟩
  simp only [Act.put, List.setIfInBounds_toArray, List.set_cons_zero, List.set_cons_succ]
  refine Lw.wpList_val rfl (.tuple #[.agg (cA key nonce (hK key)), .int .i64 0]) u (by go_simp) ?_
  simp only [Act.put, List.setIfInBounds_toArray, List.set_cons_zero, List.set_cons_succ]
  refine Lw.wpList_val rfl (.agg (cA key nonce (hK key))) u (by go_simp) ?_
  simp only [Act.put, List.setIfInBounds_toArray, List.set_cons_zero, List.set_cons_succ]
  refine Lw.wpList_val rfl (.int .i64 0) u (by go_simp) ?_
  simp only [Act.put, List.setIfInBounds_toArray, List.set_cons_zero, List.set_cons_succ]
  refine wpList_alloc_to rfl 48 rfl noC u.heap.size rfl allocC ?_
  simp only [Act.put, List.setIfInBounds_toArray, List.set_cons_zero, List.set_cons_succ]
  refine wpList_store_row rfl 48 _ _ rfl u.heap.size (cA key nonce (hK key)) rfl rfl 48 _ (CiR.new u _ _ _) (by kernel_rfl) rfl (cA_one _ _ _) ?_
  have HC : Hid (CiR ((u.alloc (.cells noC 48)).setRow u.heap.size (cA key nonce (hK key))) u.heap.size key nonce (hK key)) := setRow_heap _ _ _ _ _ _ (CiR.new u _ _ _)
  have HB : Hid (Below w.heap.size w ((u.alloc (.cells noC 48)).setRow u.heap.size (cA key nonce (hK key)))) := below_setRow (hb.alloc hb.size _) hb.size _
  generalize (u.alloc (.cells noC 48)).setRow u.heap.size (cA key nonce (hK key)) = v at HC HB ⊢
  generalize u.heap.size = c at HC ⊢
  clear hb
  simp only [Act.put]
  clear HC
  go_wp2_with (fail)
  go_ret2
  exact ⟨rfl, HB.out⟩
set_option maxHeartbeats 2000000 in
theorem open_s (key nonce aad s : ByteArray) (w : World) (hk : keyOk key = true) (hno : nonce.size = 12) (ha : aad.size ≤ 65536) (hs : ¬ s.size ≤ 65552) :
    Calls Try.prog 27 #[.string key, .string nonce, .string aad, .string s] w fun e w' => e = .returned (.tuple #[.string ⟨#[]⟩, .int .i64 500]) ∧ Below w.heap.size w w' := by
  have HK := Lib.hid hk
  have HNo := Lib.hid hno
  clear hk hno
  have a1 : ((65536 : Int) < (aad.size : Int)) = False := eq_false (by omega)
  have a2 : (65536 < aad.size) = False := eq_false (by omega)
  have s1 : ((65552 : Int) < (s.size : Int)) = True := eq_true (by omega)
  have s2 : (65552 < s.size) = True := eq_true (by omega)
  clear ha hs
  go_enter Try.func27, Try.ntmps27
  go_upto_region 1 with (fail)
  apply wp_region_lit
  refine Lw.wpList_val rfl (.string key) w (by go_simp) ?_
  refine Lw.wpList_val rfl (.string nonce) w (by go_simp) ?_
  simp only [Act.put, List.setIfInBounds_toArray, List.set_cons_zero, List.set_cons_succ]
  refine Lw.wpList_callTo (some 17) rfl rfl 21 _ _ rfl (fun _ _ => by go_simp) #[.string key, .string nonce] (by kernel_rfl) ?_
  refine (keyed_ok key nonce _ HK.out HNo.out).mono ?_
  rintro e u ⟨rfl, hb⟩
  refine ⟨_, rfl, ?_⟩
  simp only [Act.put, List.setIfInBounds_toArray, List.set_cons_zero, List.set_cons_succ]
  refine Lw.wpList_val rfl (.tuple #[.agg (cA key nonce (hK key)), .int .i64 0]) u (by go_simp) ?_
  simp only [Act.put, List.setIfInBounds_toArray, List.set_cons_zero, List.set_cons_succ]
  refine Lw.wpList_val rfl (.agg (cA key nonce (hK key))) u (by go_simp) ?_
  simp only [Act.put, List.setIfInBounds_toArray, List.set_cons_zero, List.set_cons_succ]
  refine Lw.wpList_val rfl (.int .i64 0) u (by go_simp) ?_
  simp only [Act.put, List.setIfInBounds_toArray, List.set_cons_zero, List.set_cons_succ]
  refine wpList_alloc_to rfl 48 rfl noC u.heap.size rfl allocC ?_
  simp only [Act.put, List.setIfInBounds_toArray, List.set_cons_zero, List.set_cons_succ]
  refine wpList_store_row rfl 48 _ _ rfl u.heap.size (cA key nonce (hK key)) rfl rfl 48 _ (CiR.new u _ _ _) (by kernel_rfl) rfl (cA_one _ _ _) ?_
  have HC : Hid (CiR ((u.alloc (.cells noC 48)).setRow u.heap.size (cA key nonce (hK key))) u.heap.size key nonce (hK key)) := setRow_heap _ _ _ _ _ _ (CiR.new u _ _ _)
  have HB : Hid (Below w.heap.size w ((u.alloc (.cells noC 48)).setRow u.heap.size (cA key nonce (hK key)))) := below_setRow (hb.alloc hb.size _) hb.size _
  generalize (u.alloc (.cells noC 48)).setRow u.heap.size (cA key nonce (hK key)) = v at HC HB ⊢
  generalize u.heap.size = c at HC ⊢
  clear hb
  simp only [Act.put]
  clear HC
  go_wp2_with (fail)
  go_ret2
  exact ⟨rfl, HB.out⟩
set_option maxHeartbeats 2000000 in
theorem open_less (key nonce aad s : ByteArray) (w : World) (hk : keyOk key = true) (hno : nonce.size = 12) (ha : aad.size ≤ 65536) (hs : s.size < 16) :
    Calls Try.prog 27 #[.string key, .string nonce, .string aad, .string s] w fun e w' => e = .returned (.tuple #[.string ⟨#[]⟩, .int .i64 501]) ∧ Below w.heap.size w w' := by
  have HK := Lib.hid hk
  have HNo := Lib.hid hno
  clear hk hno
  have a1 : ((65536 : Int) < (aad.size : Int)) = False := eq_false (by omega)
  have a2 : (65536 < aad.size) = False := eq_false (by omega)
  have s1 : ((65552 : Int) < (s.size : Int)) = False := eq_false (by omega)
  have s2 : (65552 < s.size) = False := eq_false (by omega)
  have t1 : ((s.size : Int) < 16) = True := eq_true (by omega)
  have t2 : (s.size < 16) = True := eq_true hs
  clear ha hs
  go_enter Try.func27, Try.ntmps27
  go_upto_region 1 with (fail)
  apply wp_region_lit
  refine Lw.wpList_val rfl (.string key) w (by go_simp) ?_
  refine Lw.wpList_val rfl (.string nonce) w (by go_simp) ?_
  simp only [Act.put, List.setIfInBounds_toArray, List.set_cons_zero, List.set_cons_succ]
  refine Lw.wpList_callTo (some 17) rfl rfl 21 _ _ rfl (fun _ _ => by go_simp) #[.string key, .string nonce] (by kernel_rfl) ?_
  refine (keyed_ok key nonce _ HK.out HNo.out).mono ?_
  rintro e u ⟨rfl, hb⟩
  refine ⟨_, rfl, ?_⟩
  simp only [Act.put, List.setIfInBounds_toArray, List.set_cons_zero, List.set_cons_succ]
  refine Lw.wpList_val rfl (.tuple #[.agg (cA key nonce (hK key)), .int .i64 0]) u (by go_simp) ?_
  simp only [Act.put, List.setIfInBounds_toArray, List.set_cons_zero, List.set_cons_succ]
  refine Lw.wpList_val rfl (.agg (cA key nonce (hK key))) u (by go_simp) ?_
  simp only [Act.put, List.setIfInBounds_toArray, List.set_cons_zero, List.set_cons_succ]
  refine Lw.wpList_val rfl (.int .i64 0) u (by go_simp) ?_
  simp only [Act.put, List.setIfInBounds_toArray, List.set_cons_zero, List.set_cons_succ]
  refine wpList_alloc_to rfl 48 rfl noC u.heap.size rfl allocC ?_
  simp only [Act.put, List.setIfInBounds_toArray, List.set_cons_zero, List.set_cons_succ]
  refine wpList_store_row rfl 48 _ _ rfl u.heap.size (cA key nonce (hK key)) rfl rfl 48 _ (CiR.new u _ _ _) (by kernel_rfl) rfl (cA_one _ _ _) ?_
  have HC : Hid (CiR ((u.alloc (.cells noC 48)).setRow u.heap.size (cA key nonce (hK key))) u.heap.size key nonce (hK key)) := setRow_heap _ _ _ _ _ _ (CiR.new u _ _ _)
  have HB : Hid (Below w.heap.size w ((u.alloc (.cells noC 48)).setRow u.heap.size (cA key nonce (hK key)))) := below_setRow (hb.alloc hb.size _) hb.size _
  generalize (u.alloc (.cells noC 48)).setRow u.heap.size (cA key nonce (hK key)) = v at HC HB ⊢
  generalize u.heap.size = c at HC ⊢
  clear hb
  simp only [Act.put]
  clear HC
  go_wp2_with (fail)
  go_ret2
  exact ⟨rfl, HB.out⟩
set_option maxHeartbeats 2000000 in
theorem open_tagged (key nonce aad s : ByteArray) (w : World) (k : Nat) (hk : keyOk key = true) (hno : nonce.size = 12) (ha : aad.size ≤ 65536) (hs : s.size ≤ 65552) (hz : s.size = k + 16) (ht : tagOk key nonce aad s k = true) :
    Calls Try.prog 27 #[.string key, .string nonce, .string aad, .string s] w fun e w' => e = .returned (.tuple #[.string (ctrS (wkS key) (nR key) nonce 2 (s.extract 0 k)), .int .i64 0]) ∧ Below w.heap.size w w' := by
  have HK := Lib.hid hk
  have HNo := Lib.hid hno
  have a1 : ((65536 : Int) < (aad.size : Int)) = False := eq_false (by omega)
  have a2 : (65536 < aad.size) = False := eq_false (by omega)
  have s1 : ((65552 : Int) < (s.size : Int)) = False := eq_false (by omega)
  have s2 : (65552 < s.size) = False := eq_false (by omega)
  have t1 : ((s.size : Int) < 16) = False := eq_false (by omega)
  have t2 : (s.size < 16) = False := eq_false (by omega)
  have z0 : (s.extract 0 k).size = k := by rw [ByteArray.size_extract]; omega
  have HMk := Lib.hid fun W => masked_any key nonce (s.extract 0 k) (hK key) W hk hno (by omega)
  have HTg := Lib.hid fun W => tag_any key nonce aad (s.extract 0 k) (hK key) W hk hno rfl (by omega) (by omega)
  unfold tagOk at ht
  generalize ctrS (wkS key) (nR key) nonce 2 (s.extract 0 k) = D at HMk ⊢
  generalize tagS (wkS key) (nR key) nonce aad (s.extract 0 k) = T at HTg ht
  have q1 : (s.size : Int) - 16 = (k : Int) := by omega
  have q2 : IntKind.i64.wrap (k : Int) = (k : Int) := IntWalk.i64_in _ (by omega)
  have q4 : (k : Int) ≤ (s.size : Int) := by omega
  have q5 : k ≤ s.size := by omega
  have kk : (0 : Int) ≤ (k : Int) := by omega
  have HZ := Lib.hid hz
  rw [← hz] at ht
  clear hk hno ha hs hz z0
  go_enter Try.func27, Try.ntmps27
  go_upto_region 1 with (fail)
  apply wp_region_lit
  refine Lw.wpList_val rfl (.string key) w (by go_simp) ?_
  refine Lw.wpList_val rfl (.string nonce) w (by go_simp) ?_
  simp only [Act.put, List.setIfInBounds_toArray, List.set_cons_zero, List.set_cons_succ]
  refine Lw.wpList_callTo (some 17) rfl rfl 21 _ _ rfl (fun _ _ => by go_simp) #[.string key, .string nonce] (by kernel_rfl) ?_
  refine (keyed_ok key nonce _ HK.out HNo.out).mono ?_
  rintro e u ⟨rfl, hb⟩
  refine ⟨_, rfl, ?_⟩
  simp only [Act.put, List.setIfInBounds_toArray, List.set_cons_zero, List.set_cons_succ]
  refine Lw.wpList_val rfl (.tuple #[.agg (cA key nonce (hK key)), .int .i64 0]) u (by go_simp) ?_
  simp only [Act.put, List.setIfInBounds_toArray, List.set_cons_zero, List.set_cons_succ]
  refine Lw.wpList_val rfl (.agg (cA key nonce (hK key))) u (by go_simp) ?_
  simp only [Act.put, List.setIfInBounds_toArray, List.set_cons_zero, List.set_cons_succ]
  refine Lw.wpList_val rfl (.int .i64 0) u (by go_simp) ?_
  simp only [Act.put, List.setIfInBounds_toArray, List.set_cons_zero, List.set_cons_succ]
  refine wpList_alloc_to rfl 48 rfl noC u.heap.size rfl allocC ?_
  simp only [Act.put, List.setIfInBounds_toArray, List.set_cons_zero, List.set_cons_succ]
  refine wpList_store_row rfl 48 _ _ rfl u.heap.size (cA key nonce (hK key)) rfl rfl 48 _ (CiR.new u _ _ _) (by kernel_rfl) rfl (cA_one _ _ _) ?_
  have HC : Hid (CiR ((u.alloc (.cells noC 48)).setRow u.heap.size (cA key nonce (hK key))) u.heap.size key nonce (hK key)) := setRow_heap _ _ _ _ _ _ (CiR.new u _ _ _)
  have HB : Hid (Below w.heap.size w ((u.alloc (.cells noC 48)).setRow u.heap.size (cA key nonce (hK key)))) := below_setRow (hb.alloc hb.size _) hb.size _
  generalize (u.alloc (.cells noC 48)).setRow u.heap.size (cA key nonce (hK key)) = v at HC HB ⊢
  generalize u.heap.size = c at HC ⊢
  clear hb
  simp only [Act.put]
  go_upto_region 6 with (fail)
  go_quiet (fail)
  have HC : Hid (CiR (v.drewN nq) c key nonce (hK key)) := (HC.out : CiR v c key nonce (hK key))
  have HB := Lib.hid (Lw.below_drewN HB.out nq)
  generalize v.drewN nq = v2 at HC HB ⊢
  clear q1 q2 q4 q5 kk
  go_upto_region 7 with (fail)
  apply wp_region_lit
  refine Lw.wpList_val rfl (.string (s.extract k s.size)) v2 (by go_simp) ?_
  simp only [Act.put, List.setIfInBounds_toArray, List.set_cons_zero, List.set_cons_succ]
  refine wpList_load_row rfl 48 _ rfl c rfl 48 (cA key nonce (hK key)) (0, 0) _ HC.out Try.underlying48 rfl (by kernel_rfl) ?_
  simp only [Act.put, List.setIfInBounds_toArray, List.set_cons_zero, List.set_cons_succ]
  refine Lw.wpList_val rfl (.string aad) v2 (by go_simp) ?_
  simp only [Act.put, List.setIfInBounds_toArray, List.set_cons_zero, List.set_cons_succ]
  refine Lw.wpList_val rfl (.string (s.extract 0 k)) v2 (by go_simp) ?_
  simp only [Act.put, List.setIfInBounds_toArray, List.set_cons_zero, List.set_cons_succ]
  refine Lw.wpList_callTo (some 49) rfl rfl 23 _ _ rfl (fun _ _ => by go_simp) #[.agg (cA key nonce (hK key)), .string aad, .string (s.extract 0 k)] (by kernel_rfl) ?_
  refine (HTg.out _).mono ?_
  rintro e u2 ⟨rfl, hb⟩
  refine ⟨_, rfl, ?_⟩
  simp only [Act.put, List.setIfInBounds_toArray, List.set_cons_zero, List.set_cons_succ]
  have HC := Lib.hid (HC.out.on hb)
  have HB := Lib.hid (Lw.go_on HB.out hb)
  clear hb
  have ct : ((s.extract k s.size).toList == T.toList) = true := (same_iff _ _).2 ((same_iff _ _).1 ht).symm
  have cn : ((s.extract k s.size).toList != T.toList) = false := by show (!((s.extract k s.size).toList == T.toList)) = false; rw [ct]; rfl
  clear ht
  go_upto_region 9 with (fail)
  apply wp_region_lit
  refine wpList_load_row rfl 48 _ rfl c rfl 48 (cA key nonce (hK key)) (0, 0) _ HC.out Try.underlying48 rfl (by kernel_rfl) ?_
  simp only [Act.put, List.setIfInBounds_toArray, List.set_cons_zero, List.set_cons_succ]
  refine Lw.wpList_val rfl (.string (s.extract 0 k)) u2 (by go_simp) ?_
  simp only [Act.put, List.setIfInBounds_toArray, List.set_cons_zero, List.set_cons_succ]
  refine Lw.wpList_callTo (some 53) rfl rfl 22 _ _ rfl (fun _ _ => by go_simp) #[.agg (cA key nonce (hK key)), .string (s.extract 0 k)] (by kernel_rfl) ?_
  refine (HMk.out _).mono ?_
  rintro e u3 ⟨rfl, hb⟩
  refine ⟨_, rfl, ?_⟩
  simp only [Act.put, List.setIfInBounds_toArray, List.set_cons_zero, List.set_cons_succ]
  have HB := Lib.hid (Lw.go_on HB.out hb)
  clear hb
  go_wp2_with (fail)
  go_ret2
  exact ⟨rfl, HB.out⟩
set_option maxHeartbeats 2000000 in
theorem open_bad (key nonce aad s : ByteArray) (w : World) (k : Nat) (hk : keyOk key = true) (hno : nonce.size = 12) (ha : aad.size ≤ 65536) (hs : s.size ≤ 65552) (hz : s.size = k + 16) (ht : tagOk key nonce aad s k = false) :
    Calls Try.prog 27 #[.string key, .string nonce, .string aad, .string s] w fun e w' => e = .returned (.tuple #[.string ⟨#[]⟩, .int .i64 501]) ∧ Below w.heap.size w w' := by
  have HK := Lib.hid hk
  have HNo := Lib.hid hno
  have a1 : ((65536 : Int) < (aad.size : Int)) = False := eq_false (by omega)
  have a2 : (65536 < aad.size) = False := eq_false (by omega)
  have s1 : ((65552 : Int) < (s.size : Int)) = False := eq_false (by omega)
  have s2 : (65552 < s.size) = False := eq_false (by omega)
  have t1 : ((s.size : Int) < 16) = False := eq_false (by omega)
  have t2 : (s.size < 16) = False := eq_false (by omega)
  have z0 : (s.extract 0 k).size = k := by rw [ByteArray.size_extract]; omega
  have HMk := Lib.hid fun W => masked_any key nonce (s.extract 0 k) (hK key) W hk hno (by omega)
  have HTg := Lib.hid fun W => tag_any key nonce aad (s.extract 0 k) (hK key) W hk hno rfl (by omega) (by omega)
  unfold tagOk at ht
  generalize ctrS (wkS key) (nR key) nonce 2 (s.extract 0 k) = D at HMk ⊢
  generalize tagS (wkS key) (nR key) nonce aad (s.extract 0 k) = T at HTg ht
  have q1 : (s.size : Int) - 16 = (k : Int) := by omega
  have q2 : IntKind.i64.wrap (k : Int) = (k : Int) := IntWalk.i64_in _ (by omega)
  have q4 : (k : Int) ≤ (s.size : Int) := by omega
  have q5 : k ≤ s.size := by omega
  have kk : (0 : Int) ≤ (k : Int) := by omega
  have HZ := Lib.hid hz
  rw [← hz] at ht
  clear hk hno ha hs hz z0
  go_enter Try.func27, Try.ntmps27
  go_upto_region 1 with (fail)
  apply wp_region_lit
  refine Lw.wpList_val rfl (.string key) w (by go_simp) ?_
  refine Lw.wpList_val rfl (.string nonce) w (by go_simp) ?_
  simp only [Act.put, List.setIfInBounds_toArray, List.set_cons_zero, List.set_cons_succ]
  refine Lw.wpList_callTo (some 17) rfl rfl 21 _ _ rfl (fun _ _ => by go_simp) #[.string key, .string nonce] (by kernel_rfl) ?_
  refine (keyed_ok key nonce _ HK.out HNo.out).mono ?_
  rintro e u ⟨rfl, hb⟩
  refine ⟨_, rfl, ?_⟩
  simp only [Act.put, List.setIfInBounds_toArray, List.set_cons_zero, List.set_cons_succ]
  refine Lw.wpList_val rfl (.tuple #[.agg (cA key nonce (hK key)), .int .i64 0]) u (by go_simp) ?_
  simp only [Act.put, List.setIfInBounds_toArray, List.set_cons_zero, List.set_cons_succ]
  refine Lw.wpList_val rfl (.agg (cA key nonce (hK key))) u (by go_simp) ?_
  simp only [Act.put, List.setIfInBounds_toArray, List.set_cons_zero, List.set_cons_succ]
  refine Lw.wpList_val rfl (.int .i64 0) u (by go_simp) ?_
  simp only [Act.put, List.setIfInBounds_toArray, List.set_cons_zero, List.set_cons_succ]
  refine wpList_alloc_to rfl 48 rfl noC u.heap.size rfl allocC ?_
  simp only [Act.put, List.setIfInBounds_toArray, List.set_cons_zero, List.set_cons_succ]
  refine wpList_store_row rfl 48 _ _ rfl u.heap.size (cA key nonce (hK key)) rfl rfl 48 _ (CiR.new u _ _ _) (by kernel_rfl) rfl (cA_one _ _ _) ?_
  have HC : Hid (CiR ((u.alloc (.cells noC 48)).setRow u.heap.size (cA key nonce (hK key))) u.heap.size key nonce (hK key)) := setRow_heap _ _ _ _ _ _ (CiR.new u _ _ _)
  have HB : Hid (Below w.heap.size w ((u.alloc (.cells noC 48)).setRow u.heap.size (cA key nonce (hK key)))) := below_setRow (hb.alloc hb.size _) hb.size _
  generalize (u.alloc (.cells noC 48)).setRow u.heap.size (cA key nonce (hK key)) = v at HC HB ⊢
  generalize u.heap.size = c at HC ⊢
  clear hb
  simp only [Act.put]
  go_upto_region 6 with (fail)
  go_quiet (fail)
  have HC : Hid (CiR (v.drewN nq) c key nonce (hK key)) := (HC.out : CiR v c key nonce (hK key))
  have HB := Lib.hid (Lw.below_drewN HB.out nq)
  generalize v.drewN nq = v2 at HC HB ⊢
  clear q1 q2 q4 q5 kk
  go_upto_region 7 with (fail)
  apply wp_region_lit
  refine Lw.wpList_val rfl (.string (s.extract k s.size)) v2 (by go_simp) ?_
  simp only [Act.put, List.setIfInBounds_toArray, List.set_cons_zero, List.set_cons_succ]
  refine wpList_load_row rfl 48 _ rfl c rfl 48 (cA key nonce (hK key)) (0, 0) _ HC.out Try.underlying48 rfl (by kernel_rfl) ?_
  simp only [Act.put, List.setIfInBounds_toArray, List.set_cons_zero, List.set_cons_succ]
  refine Lw.wpList_val rfl (.string aad) v2 (by go_simp) ?_
  simp only [Act.put, List.setIfInBounds_toArray, List.set_cons_zero, List.set_cons_succ]
  refine Lw.wpList_val rfl (.string (s.extract 0 k)) v2 (by go_simp) ?_
  simp only [Act.put, List.setIfInBounds_toArray, List.set_cons_zero, List.set_cons_succ]
  refine Lw.wpList_callTo (some 49) rfl rfl 23 _ _ rfl (fun _ _ => by go_simp) #[.agg (cA key nonce (hK key)), .string aad, .string (s.extract 0 k)] (by kernel_rfl) ?_
  refine (HTg.out _).mono ?_
  rintro e u2 ⟨rfl, hb⟩
  refine ⟨_, rfl, ?_⟩
  simp only [Act.put, List.setIfInBounds_toArray, List.set_cons_zero, List.set_cons_succ]
  have HC := Lib.hid (HC.out.on hb)
  have HB := Lib.hid (Lw.go_on HB.out hb)
  clear hb
  have ct : ((s.extract k s.size).toList == T.toList) = false := by
    cases hc : ((s.extract k s.size).toList == T.toList) with
    | false => rfl
    | true => rw [(same_iff _ _).2 ((same_iff _ _).1 hc).symm] at ht; cases ht
  have cn : ((s.extract k s.size).toList != T.toList) = true := by show (!((s.extract k s.size).toList == T.toList)) = true; rw [ct]; rfl
  clear ht
  go_wp2_with (fail)
  go_ret2
  exact ⟨rfl, HB.out⟩
theorem open_any (key nonce aad s : ByteArray) (w : World) :
    Calls Try.prog 27 #[.string key, .string nonce, .string aad, .string s] w fun e w' => e = .returned (.tuple #[.string (openS key nonce aad s), .int .i64 (openE key nonce aad s)]) ∧ Below w.heap.size w w' := by
  by_cases h : keyOk key = true ∧ nonce.size = 12
  · by_cases ha : aad.size ≤ 65536
    · by_cases hs : s.size ≤ 65552
      · have ok := gcmOk_of (more := 16) (keyOk_or h.1) h.2 ha hs
        by_cases hl : s.size < 16
        · have o := open_short ok hl
          rw [o.1, o.2]; exact open_less key nonce aad s w h.1 h.2 ha hl
        · obtain ⟨k, hk⟩ : ∃ k, s.size = k + 16 := ⟨s.size - 16, by omega⟩
          cases ht : tagOk key nonce aad s k with
          | true =>
            have o : openB key nonce aad s = true := by
              unfold openB
              rw [ok, decide_eq_true (show 16 ≤ s.size by omega), show s.size - 16 = k by omega, ht]; rfl
            unfold openS openE
            rw [o, show s.size - 16 = k by omega]
            exact open_tagged key nonce aad s w k h.1 h.2 ha hs hk ht
          | false =>
            have o : openB key nonce aad s = false := by
              unfold openB
              rw [show s.size - 16 = k by omega, ht]; simp
            unfold openS openE
            rw [o, ok]
            exact open_bad key nonce aad s w k h.1 h.2 ha hs hk ht
      · have o := open_no (key := key) (nonce := nonce) (aad := aad) (s := s) (by unfold gcmOk; rw [decide_eq_false (show ¬ s.size ≤ 65536 + 16 by omega)]; simp)
        rw [o.1, o.2]; exact open_s key nonce aad s w h.1 h.2 ha hs
    · have o := open_no (key := key) (nonce := nonce) (aad := aad) (s := s) (by unfold gcmOk; rw [decide_eq_false ha]; simp)
      rw [o.1, o.2]; exact open_aad key nonce aad s w h.1 h.2 ha
  · have o := open_no (key := key) (nonce := nonce) (aad := aad) (s := s) (by
      cases hk : keyOk key with
      | true => unfold gcmOk; rw [decide_eq_false (show ¬ nonce.size = 12 from fun hn => h ⟨hk, hn⟩)]; simp
      | false => unfold gcmOk; rw [hk]; rfl)
    rw [o.1, o.2]; exact open_key key nonce aad s w h
end Go.Proofs.Gs
