/-
  The developers' gcm: Seal at every input.
-/
import Derived.Test.YtljhenjbjondkaaJobc
namespace Go.Proofs.Gs
open Go.RowKit Go.Proofs.Gcm Go.Proofs.Gd
open Go.Proofs.Aes (byt byt_lt get_byt ciphS encS encS_size)
open Go.Proofs.Sha (wpList_alloc_to)
set_option maxHeartbeats 2000000 in
theorem seal_key (key nonce aad s : ByteArray) (w : World) (h : ¬ (keyOk key = true ∧ nonce.size = 12)) :
    Calls Try.prog 13 #[.string key, .string nonce, .string aad, .string s] w fun e w' => e = .returned (.tuple #[.string ⟨#[]⟩, .int .i64 500]) ∧ Below w.heap.size w w' := by
  have HNk := Lib.hid h
  clear h
  go_enter Try.func13, Try.ntmps13
  go_upto_region 1 with (fail)
  apply wp_region_lit
  refine Lw.wpList_val rfl (.string key) w (by go_simp) ?_
  refine Lw.wpList_val rfl (.string nonce) w (by go_simp) ?_
  simp only [Act.put, List.setIfInBounds_toArray, List.set_cons_zero, List.set_cons_succ]
  refine Lw.wpList_callTo (some 16) rfl rfl 21 _ _ rfl (fun _ _ => by go_simp) #[.string key, .string nonce] (by kernel_rfl) ?_
  refine (keyed_no key nonce _ HNk.out).mono ?_
  rintro e u ⟨rfl, hb⟩
  refine ⟨_, rfl, ?_⟩
  simp only [Act.put, List.setIfInBounds_toArray, List.set_cons_zero, List.set_cons_succ]
  refine Lw.wpList_val rfl (.tuple #[.agg noC, .int .i64 500]) u (by go_simp) ?_
  simp only [Act.put, List.setIfInBounds_toArray, List.set_cons_zero, List.set_cons_succ]
  refine Lw.wpList_val rfl (.agg noC) u (by go_simp) ?_
  simp only [Act.put, List.setIfInBounds_toArray, List.set_cons_zero, List.set_cons_succ]
  refine Lw.wpList_val rfl (.int .i64 500) u (by go_simp) ?_
  simp only [Act.put, List.setIfInBounds_toArray, List.set_cons_zero, List.set_cons_succ]
  refine wpList_alloc_to rfl 48 rfl noC u.heap.size rfl allocC ?_
  simp only [Act.put, List.setIfInBounds_toArray, List.set_cons_zero, List.set_cons_succ]
  refine wpList_store_row rfl 48 _ _ rfl u.heap.size noC rfl rfl 48 _ (CiR.new u _ _ _) (by kernel_rfl) rfl (cA_one _ _ _) ?_
  have HB : Hid (Below w.heap.size w ((u.alloc (.cells noC 48)).setRow u.heap.size noC)) := below_setRow (hb.alloc hb.size _) hb.size _
  generalize (u.alloc (.cells noC 48)).setRow u.heap.size noC = v at HB ⊢
  generalize u.heap.size = c
  clear hb
  simp only [Act.put]
  go_wp2_with (fail)
  go_ret2
  exact ⟨rfl, HB.out⟩
set_option maxHeartbeats 2000000 in
theorem seal_aad (key nonce aad s : ByteArray) (w : World) (hk : keyOk key = true) (hno : nonce.size = 12) (ha : ¬ aad.size ≤ 65536) :
    Calls Try.prog 13 #[.string key, .string nonce, .string aad, .string s] w fun e w' => e = .returned (.tuple #[.string ⟨#[]⟩, .int .i64 500]) ∧ Below w.heap.size w w' := by
  have HK := Lib.hid hk
  have HNo := Lib.hid hno
  clear hk hno
  have a1 : ((65536 : Int) < (aad.size : Int)) = True := eq_true (by omega)
  have a2 : (65536 < aad.size) = True := eq_true (by omega)
  clear ha
  go_enter Try.func13, Try.ntmps13
  go_upto_region 1 with (fail)
  apply wp_region_lit
  refine Lw.wpList_val rfl (.string key) w (by go_simp) ?_
  refine Lw.wpList_val rfl (.string nonce) w (by go_simp) ?_
  simp only [Act.put, List.setIfInBounds_toArray, List.set_cons_zero, List.set_cons_succ]
  refine Lw.wpList_callTo (some 16) rfl rfl 21 _ _ rfl (fun _ _ => by go_simp) #[.string key, .string nonce] (by kernel_rfl) ?_
  refine (keyed_ok key nonce _ HK.out HNo.out).mono ?_
  rintro e u ⟨rfl, hb⟩
  refine ⟨_, rfl, ?_⟩
  simp only [Act.put, List.setIfInBounds_toArray, List.set_cons_zero, List.set_cons_succ]
  refine Lw.wpList_val rfl (.tuple #[.agg (cA key nonce (hK key)), .int .i64 0]) u (by go_simp) ?_
  simp only [Act.put, List.setIfInBounds_toArray, List.set_cons_zero, List.set_cons_succ]
  refine Lw.wpList_val rfl (.agg (cA key nonce (hK key))) u (by go_simp) ?_
  simp only [Act.put, List.setIfInBounds_toArray, List.set_cons_zero, List.set_cons_succ]
  refine Lw.wpList_val rfl (.int .i64 0) u (by go_simp) ?_
  simp only [Act.put, List.setIfInBounds_toArray, List.set_cons_zero, List.set_cons_succ]
  refine wpList_alloc_to rfl 48 rfl noC u.heap.size rfl allocC ?_
  simp only [Act.put, List.setIfInBounds_toArray, List.set_cons_zero, List.set_cons_succ]
  refine wpList_store_row rfl 48 _ _ rfl u.heap.size (cA key nonce (hK key)) rfl rfl 48 _ (CiR.new u _ _ _) (by kernel_rfl) rfl (cA_one _ _ _) ?_
  have HC : Hid (CiR ((u.alloc (.cells noC 48)).setRow u.heap.size (cA key nonce (hK key))) u.heap.size key nonce (hK key)) := setRow_heap _ _ _ _ _ _ (CiR.new u _ _ _)
  have HB : Hid (Below w.heap.size w ((u.alloc (.cells noC 48)).setRow u.heap.size (cA key nonce (hK key)))) := below_setRow (hb.alloc hb.size _) hb.size _
  generalize (u.alloc (.cells noC 48)).setRow u.heap.size (cA key nonce (hK key)) = v at HC HB ⊢
  generalize u.heap.size = c at HC ⊢
  clear hb
  simp only [Act.put]
  clear HC
  go_wp2_with (fail)
  go_ret2
  exact ⟨rfl, HB.out⟩
set_option maxHeartbeats 2000000 in
theorem seal_s (key nonce aad s : ByteArray) (w : World) (hk : keyOk key = true) (hno : nonce.size = 12) (ha : aad.size ≤ 65536) (hs : ¬ s.size ≤ 65536) :
    Calls Try.prog 13 #[.string key, .string nonce, .string aad, .string s] w fun e w' => e = .returned (.tuple #[.string ⟨#[]⟩, .int .i64 500]) ∧ Below w.heap.size w w' := by
  have HK := Lib.hid hk
  have HNo := Lib.hid hno
  clear hk hno
  have a1 : ((65536 : Int) < (aad.size : Int)) = False := eq_false (by omega)
  have a2 : (65536 < aad.size) = False := eq_false (by omega)
  have s1 : ((65536 : Int) < (s.size : Int)) = True := eq_true (by omega)
  have s2 : (65536 < s.size) = True := eq_true (by omega)
  clear ha hs
  go_enter Try.func13, Try.ntmps13
  go_upto_region 1 with (fail)
  apply wp_region_lit
  refine Lw.wpList_val rfl (.string key) w (by go_simp) ?_
  refine Lw.wpList_val rfl (.string nonce) w (by go_simp) ?_
  simp only [Act.put, List.setIfInBounds_toArray, List.set_cons_zero, List.set_cons_succ]
  refine Lw.wpList_callTo (some 16) rfl rfl 21 _ _ rfl (fun _ _ => by go_simp) #[.string key, .string nonce] (by kernel_rfl) ?_
  refine (keyed_ok key nonce _ HK.out HNo.out).mono ?_
  rintro e u ⟨rfl, hb⟩
  refine ⟨_, rfl, ?_⟩
  simp only [Act.put, List.setIfInBounds_toArray, List.set_cons_zero, List.set_cons_succ]
  refine Lw.wpList_val rfl (.tuple #[.agg (cA key nonce (hK key)), .int .i64 0]) u (by go_simp) ?_
  simp only [Act.put, List.setIfInBounds_toArray, List.set_cons_zero, List.set_cons_succ]
  refine Lw.wpList_val rfl (.agg (cA key nonce (hK key))) u (by go_simp) ?_
  simp only [Act.put, List.setIfInBounds_toArray, List.set_cons_zero, List.set_cons_succ]
  refine Lw.wpList_val rfl (.int .i64 0) u (by go_simp) ?_
  simp only [Act.put, List.setIfInBounds_toArray, List.set_cons_zero, List.set_cons_succ]
  refine wpList_alloc_to rfl 48 rfl noC u.heap.size rfl allocC ?_
  simp only [Act.put, List.setIfInBounds_toArray, List.set_cons_zero, List.set_cons_succ]
  refine wpList_store_row rfl 48 _ _ rfl u.heap.size (cA key nonce (hK key)) rfl rfl 48 _ (CiR.new u _ _ _) (by kernel_rfl) rfl (cA_one _ _ _) ?_
  have HC : Hid (CiR ((u.alloc (.cells noC 48)).setRow u.heap.size (cA key nonce (hK key))) u.heap.size key nonce (hK key)) := setRow_heap _ _ _ _ _ _ (CiR.new u _ _ _)
  have HB : Hid (Below w.heap.size w ((u.alloc (.cells noC 48)).setRow u.heap.size (cA key nonce (hK key)))) := below_setRow (hb.alloc hb.size _) hb.size _
  generalize (u.alloc (.cells noC 48)).setRow u.heap.size (cA key nonce (hK key)) = v at HC HB ⊢
  generalize u.heap.size = c at HC ⊢
  clear hb
  simp only [Act.put]
  clear HC
  go_wp2_with (fail)
  go_ret2
  exact ⟨rfl, HB.out⟩
set_option maxHeartbeats 2000000 in
theorem seal_yes (key nonce aad s : ByteArray) (w : World) (hk : keyOk key = true) (hno : nonce.size = 12) (ha : aad.size ≤ 65536) (hs : s.size ≤ 65536) :
    Calls Try.prog 13 #[.string key, .string nonce, .string aad, .string s] w fun e w' => e = .returned (.tuple #[.string (sealS key nonce aad s), .int .i64 0]) ∧ Below w.heap.size w w' := by
  have HK := Lib.hid hk
  have HNo := Lib.hid hno
  have HA := Lib.hid ha
  have HS := Lib.hid hs
  have a1 : ((65536 : Int) < (aad.size : Int)) = False := eq_false (by omega)
  have a2 : (65536 < aad.size) = False := eq_false (by omega)
  have s1 : ((65536 : Int) < (s.size : Int)) = False := eq_false (by omega)
  have s2 : (65536 < s.size) = False := eq_false (by omega)
  have HMk := Lib.hid fun W => masked_any key nonce s (hK key) W hk hno (Nat.le_trans hs (by decide))
  have z1 := ctrS_size (wkS key) (nR key) nonce 2 s
  have HTg := Lib.hid fun W => tag_any key nonce aad (ctrS (wkS key) (nR key) nonce 2 s) (hK key) W hk hno rfl (Nat.le_trans ha (by decide)) (by rw [z1]; exact Nat.le_trans hs (by decide))
  have z2 := tagS_size (wkS key) (nR key) nonce aad (ctrS (wkS key) (nR key) nonce 2 s)
  unfold sealS
  generalize tagS (wkS key) (nR key) nonce aad (ctrS (wkS key) (nR key) nonce 2 s) = T at HTg z2 ⊢
  generalize ctrS (wkS key) (nR key) nonce 2 s = D at HMk HTg z1 ⊢
  have q1 : ¬ 9223372036854775807 < s.size + 16 := by omega
  clear hk hno ha hs
  go_enter Try.func13, Try.ntmps13
  go_upto_region 1 with (fail)
  apply wp_region_lit
  refine Lw.wpList_val rfl (.string key) w (by go_simp) ?_
  refine Lw.wpList_val rfl (.string nonce) w (by go_simp) ?_
  simp only [Act.put, List.setIfInBounds_toArray, List.set_cons_zero, List.set_cons_succ]
  refine Lw.wpList_callTo (some 16) rfl rfl 21 _ _ rfl (fun _ _ => by go_simp) #[.string key, .string nonce] (by kernel_rfl) ?_
  refine (keyed_ok key nonce _ HK.out HNo.out).mono ?_
  rintro e u ⟨rfl, hb⟩
  refine ⟨_, rfl, ?_⟩
  simp only [Act.put, List.setIfInBounds_toArray, List.set_cons_zero, List.set_cons_succ]
  refine Lw.wpList_val rfl (.tuple #[.agg (cA key nonce (hK key)), .int .i64 0]) u (by go_simp) ?_
  simp only [Act.put, List.setIfInBounds_toArray, List.set_cons_zero, List.set_cons_succ]
  refine Lw.wpList_val rfl (.agg (cA key nonce (hK key))) u (by go_simp) ?_
  simp only [Act.put, List.setIfInBounds_toArray, List.set_cons_zero, List.set_cons_succ]
  refine Lw.wpList_val rfl (.int .i64 0) u (by go_simp) ?_
  simp only [Act.put, List.setIfInBounds_toArray, List.set_cons_zero, List.set_cons_succ]
  refine wpList_alloc_to rfl 48 rfl noC u.heap.size rfl allocC ?_
  simp only [Act.put, List.setIfInBounds_toArray, List.set_cons_zero, List.set_cons_succ]
  refine wpList_store_row rfl 48 _ _ rfl u.heap.size (cA key nonce (hK key)) rfl rfl 48 _ (CiR.new u _ _ _) (by kernel_rfl) rfl (cA_one _ _ _) ?_
  have HC : Hid (CiR ((u.alloc (.cells noC 48)).setRow u.heap.size (cA key nonce (hK key))) u.heap.size key nonce (hK key)) := setRow_heap _ _ _ _ _ _ (CiR.new u _ _ _)
  have HB : Hid (Below w.heap.size w ((u.alloc (.cells noC 48)).setRow u.heap.size (cA key nonce (hK key)))) := below_setRow (hb.alloc hb.size _) hb.size _
  generalize (u.alloc (.cells noC 48)).setRow u.heap.size (cA key nonce (hK key)) = v at HC HB ⊢
  generalize u.heap.size = c at HC ⊢
  clear hb
  simp only [Act.put]
  go_upto_region 4 with (fail)
  apply wp_region_lit
  refine wpList_load_row rfl 48 _ rfl c rfl 48 (cA key nonce (hK key)) (0, 0) _ HC.out Try.underlying48 rfl (by kernel_rfl) ?_
  simp only [Act.put, List.setIfInBounds_toArray, List.set_cons_zero, List.set_cons_succ]
  refine Lw.wpList_val rfl (.string s) v (by go_simp) ?_
  simp only [Act.put, List.setIfInBounds_toArray, List.set_cons_zero, List.set_cons_succ]
  refine Lw.wpList_callTo (some 33) rfl rfl 22 _ _ rfl (fun _ _ => by go_simp) #[.agg (cA key nonce (hK key)), .string s] (by kernel_rfl) ?_
  refine (HMk.out _).mono ?_
  rintro e u2 ⟨rfl, hb⟩
  refine ⟨_, rfl, ?_⟩
  simp only [Act.put, List.setIfInBounds_toArray, List.set_cons_zero, List.set_cons_succ]
  have HC := Lib.hid (HC.out.on hb)
  have HB := Lib.hid (Lw.go_on HB.out hb)
  clear hb
  go_upto_region 5 with (fail)
  apply wp_region_lit
  refine Lw.wpList_val rfl (.string D) u2 (by go_simp) ?_
  simp only [Act.put, List.setIfInBounds_toArray, List.set_cons_zero, List.set_cons_succ]
  refine wpList_load_row rfl 48 _ rfl c rfl 48 (cA key nonce (hK key)) (0, 0) _ HC.out Try.underlying48 rfl (by kernel_rfl) ?_
  simp only [Act.put, List.setIfInBounds_toArray, List.set_cons_zero, List.set_cons_succ]
  refine Lw.wpList_val rfl (.string aad) u2 (by go_simp) ?_
  simp only [Act.put, List.setIfInBounds_toArray, List.set_cons_zero, List.set_cons_succ]
  refine Lw.wpList_val rfl (.string D) u2 (by go_simp) ?_
  simp only [Act.put, List.setIfInBounds_toArray, List.set_cons_zero, List.set_cons_succ]
  refine Lw.wpList_callTo (some 38) rfl rfl 23 _ _ rfl (fun _ _ => by go_simp) #[.agg (cA key nonce (hK key)), .string aad, .string D] (by kernel_rfl) ?_
  refine (HTg.out _).mono ?_
  rintro e u3 ⟨rfl, hb⟩
  refine ⟨_, rfl, ?_⟩
  simp only [Act.put, List.setIfInBounds_toArray, List.set_cons_zero, List.set_cons_succ]
  have HB := Lib.hid (Lw.go_on HB.out hb)
  clear hb
  go_wp2_with (fail)
  go_ret2
  exact ⟨rfl, HB.out⟩
theorem seal_any (key nonce aad s : ByteArray) (w : World) :
    Calls Try.prog 13 #[.string key, .string nonce, .string aad, .string s] w fun e w' => e = .returned (.tuple #[.string (gcmS key nonce aad s), .int .i64 (gcmE key nonce aad s)]) ∧ Below w.heap.size w w' := by
  by_cases h : keyOk key = true ∧ nonce.size = 12
  · by_cases ha : aad.size ≤ 65536
    · by_cases hs : s.size ≤ 65536
      · have o := gcm_ok (gcmOk_of (more := 0) (keyOk_or h.1) h.2 ha hs)
        rw [o.1, o.2]; exact seal_yes key nonce aad s w h.1 h.2 ha hs
      · have o := gcm_no (key := key) (nonce := nonce) (aad := aad) (s := s) (by unfold gcmOk; rw [h.1, decide_eq_false (show ¬ s.size ≤ 65536 + 0 by omega)]; simp)
        rw [o.1, o.2]; exact seal_s key nonce aad s w h.1 h.2 ha hs
    · have o := gcm_no (key := key) (nonce := nonce) (aad := aad) (s := s) (by unfold gcmOk; rw [decide_eq_false ha]; simp)
      rw [o.1, o.2]; exact seal_aad key nonce aad s w h.1 h.2 ha
  · have o := gcm_no (key := key) (nonce := nonce) (aad := aad) (s := s) (by
      cases hk : keyOk key with
      | true => unfold gcmOk; rw [decide_eq_false (show ¬ nonce.size = 12 from fun hn => h ⟨hk, hn⟩)]; simp
      | false => unfold gcmOk; rw [hk]; rfl)
    rw [o.1, o.2]; exact seal_key key nonce aad s w h
end Go.Proofs.Gs
