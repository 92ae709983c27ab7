/-
  Contracts of the document's own answers for layer 1: Num, Vec, Be, Put, PutVec.
-/
import Derived.Test.YtfgcbdmhkehhlaaB
import Derived.Handy
namespace Go.Proofs.Ytfgcbdmhkehhlaa
open Go.RowKit

theorem or_step (x b : Nat) (hx : x < 16777216) (hb : b < 256) : bits .or .i64 ((x : Int) * 256) (wrap64 (b : Int)) = ((x * 256 + b : Nat) : Int) := by
  rw [w64 b (by omega), show ((x : Int) * 256) = ((x * 256 : Nat) : Int) by omega, or64_add 8 _ _ (by omega) (by omega) (by omega) (by omega)]
theorem and255 (x : Nat) (h : x < 9223372036854775808) : bits .and .i64 (x : Int) 255 = ((x % 256 : Nat) : Int) := by
  have hx : x &&& 255 < 2 ^ 63 := Nat.and_lt_two_pow _ (by omega)
  show IntKind.i64.wrap ((BitVec.ofInt 64 (x : Int) &&& BitVec.ofInt 64 ((255 : Nat) : Int)).toNat : Int) = _
  rw [BitVec.toNat_and, ofInt_u64 x (by omega), ofInt_u64 255 (by omega), nat_mask8] at *
  exact IntWalk.i64_in _ (by omega)

set_option maxHeartbeats 400000 in
theorem rnum_no (s : ByteArray) (a k : Int) (w : World) (hs : s.size ≤ maxLen) (h : holdsB s.size a k = false) :
    Calls Try.prog 14 #[.string s, .int .i64 a, .int .i64 k] w fun e w' => e = .returned (.tuple #[.int .i64 0, .int .i64 0, .int .i64 100]) ∧ w = w' := by
  unfold maxLen at hs
  have hh : a < 0 ∨ s.size < a ∨ s.size - a < k := by
    simp [holdsB] at h; omega
  clear h
  by_cases h1 : a < 0
  · clear hh
    go_enter Try.func14, Try.ntmps14
    go_wp2
    go_ret3
    exact ⟨rfl, rfl⟩
  · by_cases h2 : s.size < a
    · clear hh
      go_enter Try.func14, Try.ntmps14
      go_wp2
      go_ret3
      exact ⟨rfl, rfl⟩
    · have h3 : s.size - a < k := by omega
      clear hh
      go_enter Try.func14, Try.ntmps14
      go_wp2
      go_ret3
      exact ⟨rfl, rfl⟩

set_option maxHeartbeats 400000 in
theorem rnum_yes (s : ByteArray) (a k : Int) (w : World) (hs : s.size ≤ maxLen) (h1 : 1 ≤ k) (h4 : k ≤ 4) (h : holdsB s.size a k = true) :
    Calls Try.prog 14 #[.string s, .int .i64 a, .int .i64 k] w fun e w' => e = .returned (.tuple #[.int .i64 (numV s a.toNat k.toNat : Nat), .int .i64 (a + k), .int .i64 0]) ∧ w = w' := by
  have hh : 0 ≤ a ∧ a ≤ s.size ∧ k ≤ s.size - a := by simpa [holdsB] using h
  obtain ⟨b1, b2, b3⟩ := hh
  clear h
  obtain ⟨n, rfl⟩ := Int.eq_ofNat_of_zero_le b1
  rw [Int.toNat_natCast]
  unfold maxLen at hs
  have g2 : ¬ (s.size < n) := by omega
  have g3 : ¬ ((s.size : Int) - n < k) := by omega
  go_enter Try.func14, Try.ntmps14
  go_wp2
  go_loop [9, 10] (fun x i => ∃ j : Nat, (j : Int) ≤ k ∧ i = .int .i64 j ∧ x = .int .i64 (numV s n j : Nat)) (fun _ i => (k - intOf i).toNat)
  case atStart => exact ⟨0, by omega, rfl, rfl⟩
  case round =>
    obtain ⟨j, hj, rfl, rfl⟩ := hrel
    by_cases hlt : (j : Int) < k
    · have hb : numV s n j < 16777216 := Nat.lt_of_lt_of_le (numV_lt s n j) (Nat.le_trans (Nat.pow_le_pow_right (by omega) (show j ≤ 3 by omega)) (by decide))
      have hin : n + j < s.size := by omega
      have HS := Lib.hid (or_step (numV s n j) (byt s (n + j)) hb (byt_lt _ _))
      go_wp2
      go_round
      case rel => exact ⟨j + 1, by omega, by go_num, by rw [get_byt, HS.out]; rfl⟩
      case measure => simp [intOf]; omega
    · go_wp2
      go_ret3
      exact ⟨ret3 (int64 (by rw [show j = k.toNat by omega])) rfl rfl, rfl⟩

set_option maxHeartbeats 400000 in
theorem rvec_long (s : ByteArray) (a k : Int) (w : World) (hk : k < 1 ∨ 3 < k) :
    Calls Try.prog 15 #[.string s, .int .i64 a, .int .i64 k] w fun e w' => e = .returned (.tuple #[.string ⟨#[]⟩, .int .i64 0, .int .i64 101]) ∧ w = w' := by
  by_cases h1 : k < 1
  · clear hk
    go_enter Try.func15, Try.ntmps15
    go_wp2
    go_ret3
    exact ⟨rfl, rfl⟩
  · have h2 : 3 < k := by omega
    clear hk
    go_enter Try.func15, Try.ntmps15
    go_wp2
    go_ret3
    exact ⟨rfl, rfl⟩
set_option maxHeartbeats 400000 in
theorem rvec_cut (s : ByteArray) (a k : Int) (w : World) (hs : s.size ≤ maxLen) (h1 : 1 ≤ k) (h3 : k ≤ 3) (h : holdsB s.size a k = false) :
    Calls Try.prog 15 #[.string s, .int .i64 a, .int .i64 k] w fun e w' => e = .returned (.tuple #[.string ⟨#[]⟩, .int .i64 0, .int .i64 100]) ∧ w = w' := by
  have g1 : ¬ k < 1 := by omega
  have g3 : ¬ 3 < k := by omega
  go_enter Try.func15, Try.ntmps15
  go_wp2_with (go_at_call 14; refine (rnum_no s a k _ hs h).mono ?_; rintro e w' ⟨rfl, rfl⟩)
  go_ret3
  exact ⟨rfl, rfl⟩
set_option maxHeartbeats 400000 in
theorem rvec_short (s : ByteArray) (a k : Int) (w : World) (hs : s.size ≤ maxLen) (h1 : 1 ≤ k) (h3 : k ≤ 3) (h : holdsB s.size a k = true) (hb : holdsB s.size (a + k) (numV s a.toNat k.toNat : Nat) = false) :
    Calls Try.prog 15 #[.string s, .int .i64 a, .int .i64 k] w fun e w' => e = .returned (.tuple #[.string ⟨#[]⟩, .int .i64 0, .int .i64 100]) ∧ w = w' := by
  have HN : Hid (∀ w, Calls Try.prog 14 #[.string s, .int .i64 a, .int .i64 k] w fun e w' => e = .returned (.tuple #[.int .i64 (numV s a.toNat k.toNat : Nat), .int .i64 (a + k), .int .i64 0]) ∧ w = w') :=
    fun w => rnum_yes s a k w hs h1 (by omega) h
  have hh : 0 ≤ a ∧ a ≤ s.size ∧ k ≤ s.size - a := by simpa [holdsB] using h
  generalize numV s a.toNat k.toNat = m at HN hb ⊢
  have hm : (s.size : Int) - (a + k) < m := by simp [holdsB] at hb; omega
  obtain ⟨b1, b2, b3⟩ := hh
  clear h hb
  have hs2 : s.size ≤ 9223372036854775807 := by unfold maxLen at hs; omega
  have g1 : ¬ k < 1 := by omega
  have g3 : ¬ 3 < k := by omega
  go_enter Try.func15, Try.ntmps15
  go_wp2_with (go_at_call 14; refine (HN.out _).mono ?_; rintro e w' ⟨rfl, rfl⟩)
  go_ret3
  exact ⟨rfl, rfl⟩
set_option maxHeartbeats 400000 in
theorem rvec_yes (s : ByteArray) (a k : Int) (w : World) (hs : s.size ≤ maxLen) (h1 : 1 ≤ k) (h3 : k ≤ 3) (h : holdsB s.size a k = true) (hb : holdsB s.size (a + k) (numV s a.toNat k.toNat : Nat) = true) :
    Calls Try.prog 15 #[.string s, .int .i64 a, .int .i64 k] w fun e w' => e = .returned (.tuple #[.string (s.extract (a + k).toNat ((a + k).toNat + numV s a.toNat k.toNat)), .int .i64 (a + k + (numV s a.toNat k.toNat : Nat)), .int .i64 0]) ∧ w = w' := by
  have HN : Hid (∀ w, Calls Try.prog 14 #[.string s, .int .i64 a, .int .i64 k] w fun e w' => e = .returned (.tuple #[.int .i64 (numV s a.toNat k.toNat : Nat), .int .i64 (a + k), .int .i64 0]) ∧ w = w') :=
    fun w => rnum_yes s a k w hs h1 (by omega) h
  generalize numV s a.toNat k.toNat = m at HN hb ⊢
  have hb1 : 0 ≤ a + k ∧ a + k ≤ s.size ∧ (m : Int) ≤ s.size - (a + k) := by simpa [holdsB] using hb
  obtain ⟨b1, b2, b3⟩ := hb1
  clear h hb
  have hs2 : s.size ≤ 9223372036854775807 := by unfold maxLen at hs; omega
  obtain ⟨n, hn⟩ : ∃ n : Nat, a + k = n := ⟨(a + k).toNat, by omega⟩
  obtain rfl : a = n - k := by omega
  clear hn
  have b4 : (n : Int) - k + k = n := by omega
  rw [b4] at b2 b3 b1 HN ⊢
  clear b4
  have g1 : ¬ k < 1 := by omega
  have g3 : ¬ 3 < k := by omega
  have g4 : ¬ ((s.size : Int) - n < m) := by omega
  go_enter Try.func15, Try.ntmps15
  go_wp2_with (go_at_call 14; refine (HN.out _).mono ?_; rintro e w' ⟨rfl, rfl⟩)
  go_ret3
  exact ⟨rfl, rfl⟩

theorem and255i (y : Int) (h : 0 ≤ y) (h2 : y < 9223372036854775808) : bits .and .i64 y 255 % 256 = y % 256 := by
  obtain ⟨n, rfl⟩ := Int.eq_ofNat_of_zero_le h
  rw [and255 n (by omega)]; omega

theorem makeN1 (w : World) : (Instr.makeSlice 44 (.int .i64 1) (.int .i64 1)).run Try.prog w = .ok (.slice (some ⟨w.heap.size, 0, none⟩) 1 1) (w.alloc (.cells #[.int .u8 0] 5)) := by kernel_rfl
set_option maxHeartbeats 1000000 in
theorem rbe_1 (x : Nat) (w : World) (hx : x < 256) :
    Calls Try.prog 28 #[.int .i64 x, .int .i64 1] w fun e w' => e = .returned (.string (beS x 1)) ∧ Below w.heap.size w w' := by
  have hmk := makeN1
  go_enter Try.func28, Try.ntmps28
  go_wp2
  go_rounds 2
  rw [run_convert_bytes_arg (P := Try.prog) _ 44 5 Try.underlying44 Try.underlying5 w.heap.size 0 1 1 [bits .and .i64 ((x : Int)) 255 % 256] rfl (lt1 (by simp [go_sem])) 9 Try.underlying9]
  go_wp2
  go_ret
  refine ⟨retS ?_, Below.alloc (Below.refl _ _) (Nat.le_refl _) _⟩
  rw [and255i ((x : Int)) (by omega) (by omega)]
  exact beS1 x

theorem makeN2 (w : World) : (Instr.makeSlice 44 (.int .i64 2) (.int .i64 2)).run Try.prog w = .ok (.slice (some ⟨w.heap.size, 0, none⟩) 2 2) (w.alloc (.cells #[.int .u8 0, .int .u8 0] 5)) := by kernel_rfl
set_option maxHeartbeats 1000000 in
theorem rbe_2 (x : Nat) (w : World) (hx : x < 65536) :
    Calls Try.prog 28 #[.int .i64 x, .int .i64 2] w fun e w' => e = .returned (.string (beS x 2)) ∧ Below w.heap.size w w' := by
  have hmk := makeN2
  go_enter Try.func28, Try.ntmps28
  go_wp2
  go_rounds 3
  rw [run_convert_bytes_arg (P := Try.prog) _ 44 5 Try.underlying44 Try.underlying5 w.heap.size 0 2 2 [bits .and .i64 ((x : Int) / 256) 255 % 256, bits .and .i64 ((x : Int)) 255 % 256] rfl (lt2 (by simp [go_sem]) (by simp [go_sem])) 9 Try.underlying9]
  go_wp2
  go_ret
  refine ⟨retS ?_, Below.alloc (Below.refl _ _) (Nat.le_refl _) _⟩
  rw [and255i ((x : Int) / 256) (by omega) (by omega), and255i ((x : Int)) (by omega) (by omega)]
  exact beS2 x

theorem makeN3 (w : World) : (Instr.makeSlice 44 (.int .i64 3) (.int .i64 3)).run Try.prog w = .ok (.slice (some ⟨w.heap.size, 0, none⟩) 3 3) (w.alloc (.cells #[.int .u8 0, .int .u8 0, .int .u8 0] 5)) := by kernel_rfl
set_option maxHeartbeats 1000000 in
theorem rbe_3 (x : Nat) (w : World) (hx : x < 16777216) :
    Calls Try.prog 28 #[.int .i64 x, .int .i64 3] w fun e w' => e = .returned (.string (beS x 3)) ∧ Below w.heap.size w w' := by
  have hmk := makeN3
  go_enter Try.func28, Try.ntmps28
  go_wp2
  go_rounds 4
  rw [run_convert_bytes_arg (P := Try.prog) _ 44 5 Try.underlying44 Try.underlying5 w.heap.size 0 3 3 [bits .and .i64 ((x : Int) / 256 / 256) 255 % 256, bits .and .i64 ((x : Int) / 256) 255 % 256, bits .and .i64 ((x : Int)) 255 % 256] rfl (lt3 (by simp [go_sem]) (by simp [go_sem]) (by simp [go_sem])) 9 Try.underlying9]
  go_wp2
  go_ret
  refine ⟨retS ?_, Below.alloc (Below.refl _ _) (Nat.le_refl _) _⟩
  rw [and255i ((x : Int) / 256 / 256) (by omega) (by omega), and255i ((x : Int) / 256) (by omega) (by omega), and255i ((x : Int)) (by omega) (by omega), show (x : Int) / 256 / 256 = (x : Int) / 65536 by omega]
  exact beS3 x

theorem makeN4 (w : World) : (Instr.makeSlice 44 (.int .i64 4) (.int .i64 4)).run Try.prog w = .ok (.slice (some ⟨w.heap.size, 0, none⟩) 4 4) (w.alloc (.cells #[.int .u8 0, .int .u8 0, .int .u8 0, .int .u8 0] 5)) := by kernel_rfl
set_option maxHeartbeats 1000000 in
theorem rbe_4 (x : Nat) (w : World) (hx : x < 4294967296) :
    Calls Try.prog 28 #[.int .i64 x, .int .i64 4] w fun e w' => e = .returned (.string (beS x 4)) ∧ Below w.heap.size w w' := by
  have hmk := makeN4
  go_enter Try.func28, Try.ntmps28
  go_wp2
  go_rounds 5
  rw [run_convert_bytes_arg (P := Try.prog) _ 44 5 Try.underlying44 Try.underlying5 w.heap.size 0 4 4 [bits .and .i64 ((x : Int) / 256 / 256 / 256) 255 % 256, bits .and .i64 ((x : Int) / 256 / 256) 255 % 256, bits .and .i64 ((x : Int) / 256) 255 % 256, bits .and .i64 ((x : Int)) 255 % 256] rfl (lt4 (by simp [go_sem]) (by simp [go_sem]) (by simp [go_sem]) (by simp [go_sem])) 9 Try.underlying9]
  go_wp2
  go_ret
  refine ⟨retS ?_, Below.alloc (Below.refl _ _) (Nat.le_refl _) _⟩
  rw [and255i ((x : Int) / 256 / 256 / 256) (by omega) (by omega), and255i ((x : Int) / 256 / 256) (by omega) (by omega), and255i ((x : Int) / 256) (by omega) (by omega), and255i ((x : Int)) (by omega) (by omega), show (x : Int) / 256 / 256 / 256 = (x : Int) / 16777216 by omega, show (x : Int) / 256 / 256 = (x : Int) / 65536 by omega]
  exact beS4 x

theorem rbe_any (x k : Int) (w : World) (h1 : 1 ≤ k) (h4 : k ≤ 4) (h0 : 0 ≤ x) (hx : x.toNat < 256 ^ k.toNat) :
    Calls Try.prog 28 #[.int .i64 x, .int .i64 k] w fun e w' => e = .returned (.string (beS x.toNat k.toNat)) ∧ Below w.heap.size w w' := by
  obtain ⟨n, rfl⟩ := Int.eq_ofNat_of_zero_le h0
  rw [Int.toNat_natCast] at *
  have hk : k = 1 ∨ k = 2 ∨ k = 3 ∨ k = 4 := by omega
  rcases hk with rfl | rfl | rfl | rfl
  · exact rbe_1 n w (by simpa using hx)
  · exact rbe_2 n w (by simpa using hx)
  · exact rbe_3 n w (by simpa using hx)
  · exact rbe_4 n w (by simpa using hx)
set_option maxHeartbeats 400000 in
theorem rput_1 (n : Nat) (w : World) (hx : n < 256) :
    Calls Try.prog 19 #[.int .i64 n, .int .i64 1] w fun e w' => e = .returned (.tuple #[.string (beS n 1), .int .i64 0]) ∧ Below w.heap.size w w' := by
  have hd := Lib.hid (rbe_1 n w hx)
  have H := Lib.hid hx
  clear hx
  go_enter Try.func19, Try.ntmps19
  go_wp2_with (go_at_call 28; refine hd.out.mono ?_; rintro e w' ⟨rfl, hbel⟩)
  · exfalso; have := H.out; omega
  · go_ret2
    exact ⟨rfl, hbel⟩
set_option maxHeartbeats 400000 in
theorem rput_2 (n : Nat) (w : World) (hx : n < 65536) :
    Calls Try.prog 19 #[.int .i64 n, .int .i64 2] w fun e w' => e = .returned (.tuple #[.string (beS n 2), .int .i64 0]) ∧ Below w.heap.size w w' := by
  have hd := Lib.hid (rbe_2 n w hx)
  have H := Lib.hid hx
  clear hx
  go_enter Try.func19, Try.ntmps19
  go_wp2_with (go_at_call 28; refine hd.out.mono ?_; rintro e w' ⟨rfl, hbel⟩)
  · exfalso; have := H.out; omega
  · go_ret2
    exact ⟨rfl, hbel⟩
set_option maxHeartbeats 400000 in
theorem rput_3 (n : Nat) (w : World) (hx : n < 16777216) :
    Calls Try.prog 19 #[.int .i64 n, .int .i64 3] w fun e w' => e = .returned (.tuple #[.string (beS n 3), .int .i64 0]) ∧ Below w.heap.size w w' := by
  have hd := Lib.hid (rbe_3 n w hx)
  have H := Lib.hid hx
  clear hx
  go_enter Try.func19, Try.ntmps19
  go_wp2_with (go_at_call 28; refine hd.out.mono ?_; rintro e w' ⟨rfl, hbel⟩)
  · exfalso; have := H.out; omega
  · go_ret2
    exact ⟨rfl, hbel⟩
set_option maxHeartbeats 400000 in
theorem rput_4 (n : Nat) (w : World) (hx : n < 4294967296) :
    Calls Try.prog 19 #[.int .i64 n, .int .i64 4] w fun e w' => e = .returned (.tuple #[.string (beS n 4), .int .i64 0]) ∧ Below w.heap.size w w' := by
  have hd := Lib.hid (rbe_4 n w hx)
  have H := Lib.hid hx
  clear hx
  go_enter Try.func19, Try.ntmps19
  go_wp2_with (go_at_call 28; refine hd.out.mono ?_; rintro e w' ⟨rfl, hbel⟩)
  · exfalso; have := H.out; omega
  · go_ret2
    exact ⟨rfl, hbel⟩
theorem rput_yes (x k : Int) (w : World) (h : fitsB x k = true) :
    Calls Try.prog 19 #[.int .i64 x, .int .i64 k] w fun e w' => e = .returned (.tuple #[.string (beS x.toNat k.toNat), .int .i64 0]) ∧ Below w.heap.size w w' := by
  have hh : 1 ≤ k ∧ k ≤ 4 ∧ 0 ≤ x ∧ x < 256 ^ k.toNat := by simpa [fitsB] using h
  obtain ⟨h1, h4, h0, hx⟩ := hh
  obtain ⟨n, rfl⟩ := Int.eq_ofNat_of_zero_le h0
  rw [Int.toNat_natCast]
  have hk : k = 1 ∨ k = 2 ∨ k = 3 ∨ k = 4 := by omega
  rcases hk with rfl | rfl | rfl | rfl
  · exact rput_1 n w (by have := hx; simp at this; omega)
  · exact rput_2 n w (by have := hx; simp at this; omega)
  · exact rput_3 n w (by have := hx; simp at this; omega)
  · exact rput_4 n w (by have := hx; simp at this; omega)
set_option maxHeartbeats 400000 in
theorem rput_no (x k : Int) (w : World) (h : fitsB x k = false) :
    Calls Try.prog 19 #[.int .i64 x, .int .i64 k] w fun e w' => e = .returned (.tuple #[.string ⟨#[]⟩, .int .i64 101]) ∧ w = w' := by
  by_cases h1 : k < 1
  · clear h
    go_enter Try.func19, Try.ntmps19
    go_wp2
    go_ret2
    exact ⟨rfl, rfl⟩
  · by_cases h4 : 4 < k
    · clear h
      go_enter Try.func19, Try.ntmps19
      go_wp2
      go_ret2
      exact ⟨rfl, rfl⟩
    · by_cases h0 : x < 0
      · clear h
        go_enter Try.func19, Try.ntmps19
        go_wp2
        go_ret2
        exact ⟨rfl, rfl⟩
      · have hh : ¬ (x < 256 ^ k.toNat) := by
          intro hx
          have : fitsB x k = true := by simp [fitsB]; exact ⟨by omega, by omega, by omega, hx⟩
          rw [h] at this; cases this
        clear h
        have hk : k = 1 ∨ k = 2 ∨ k = 3 ∨ k = 4 := by omega
        rcases hk with rfl | rfl | rfl | rfl
        all_goals
          simp at hh
          go_enter Try.func19, Try.ntmps19
          go_wp2
          go_ret2
          exact ⟨rfl, rfl⟩
set_option maxHeartbeats 400000 in
theorem rputVec_1 (s : ByteArray) (w : World) (h : s.size < 256) :
    Calls Try.prog 21 #[.string s, .int .i64 1] w fun e w' => e = .returned (.tuple #[.string (beS s.size 1 ++ s), .int .i64 0]) ∧ Below w.heap.size w w' := by
  have hc : decide ((256 : Int) ≤ s.size) = false := by simp; omega
  have hl : s.size ≤ 256 := by omega
  have hd := Lib.hid (rbe_1 s.size w h)
  clear h
  have hz : ∀ x k, (beS x k).size = k := beS_size
  go_enter Try.func21, Try.ntmps21
  go_wp2_with (go_at_call 28; refine hd.out.mono ?_; rintro e w' ⟨rfl, hbel⟩)
  go_ret2
  exact ⟨rfl, hbel⟩
set_option maxHeartbeats 400000 in
theorem rputVec_1no (s : ByteArray) (w : World) (h : 256 ≤ s.size) :
    Calls Try.prog 21 #[.string s, .int .i64 1] w fun e w' => e = .returned (.tuple #[.string ⟨#[]⟩, .int .i64 101]) ∧ w = w' := by
  have hc : decide ((256 : Int) ≤ s.size) = true := by simp; omega
  clear h
  go_enter Try.func21, Try.ntmps21
  go_wp2
  go_ret2
  exact ⟨rfl, rfl⟩
set_option maxHeartbeats 400000 in
theorem rputVec_2 (s : ByteArray) (w : World) (h : s.size < 65536) :
    Calls Try.prog 21 #[.string s, .int .i64 2] w fun e w' => e = .returned (.tuple #[.string (beS s.size 2 ++ s), .int .i64 0]) ∧ Below w.heap.size w w' := by
  have hc : decide ((65536 : Int) ≤ s.size) = false := by simp; omega
  have hl : s.size ≤ 65536 := by omega
  have hd := Lib.hid (rbe_2 s.size w h)
  clear h
  have hz : ∀ x k, (beS x k).size = k := beS_size
  go_enter Try.func21, Try.ntmps21
  go_wp2_with (go_at_call 28; refine hd.out.mono ?_; rintro e w' ⟨rfl, hbel⟩)
  go_ret2
  exact ⟨rfl, hbel⟩
set_option maxHeartbeats 400000 in
theorem rputVec_2no (s : ByteArray) (w : World) (h : 65536 ≤ s.size) :
    Calls Try.prog 21 #[.string s, .int .i64 2] w fun e w' => e = .returned (.tuple #[.string ⟨#[]⟩, .int .i64 101]) ∧ w = w' := by
  have hc : decide ((65536 : Int) ≤ s.size) = true := by simp; omega
  clear h
  go_enter Try.func21, Try.ntmps21
  go_wp2
  go_ret2
  exact ⟨rfl, rfl⟩
set_option maxHeartbeats 400000 in
theorem rputVec_3 (s : ByteArray) (w : World) (h : s.size < 16777216) :
    Calls Try.prog 21 #[.string s, .int .i64 3] w fun e w' => e = .returned (.tuple #[.string (beS s.size 3 ++ s), .int .i64 0]) ∧ Below w.heap.size w w' := by
  have hc : decide ((16777216 : Int) ≤ s.size) = false := by simp; omega
  have hl : s.size ≤ 16777216 := by omega
  have hd := Lib.hid (rbe_3 s.size w h)
  clear h
  have hz : ∀ x k, (beS x k).size = k := beS_size
  go_enter Try.func21, Try.ntmps21
  go_wp2_with (go_at_call 28; refine hd.out.mono ?_; rintro e w' ⟨rfl, hbel⟩)
  go_ret2
  exact ⟨rfl, hbel⟩
set_option maxHeartbeats 400000 in
theorem rputVec_3no (s : ByteArray) (w : World) (h : 16777216 ≤ s.size) :
    Calls Try.prog 21 #[.string s, .int .i64 3] w fun e w' => e = .returned (.tuple #[.string ⟨#[]⟩, .int .i64 101]) ∧ w = w' := by
  have hc : decide ((16777216 : Int) ≤ s.size) = true := by simp; omega
  clear h
  go_enter Try.func21, Try.ntmps21
  go_wp2
  go_ret2
  exact ⟨rfl, rfl⟩
theorem rputVec_yes (s : ByteArray) (k : Int) (w : World) (h : lenB s.size k = true) :
    Calls Try.prog 21 #[.string s, .int .i64 k] w fun e w' => e = .returned (.tuple #[.string (beS s.size k.toNat ++ s), .int .i64 0]) ∧ Below w.heap.size w w' := by
  have hh : 1 ≤ k ∧ k ≤ 3 ∧ s.size < 256 ^ k.toNat := by simpa [lenB] using h
  obtain ⟨h1, h3, hx⟩ := hh
  have hk : k = 1 ∨ k = 2 ∨ k = 3 := by omega
  rcases hk with rfl | rfl | rfl
  · exact rputVec_1 s w (by simpa using hx)
  · exact rputVec_2 s w (by simpa using hx)
  · exact rputVec_3 s w (by simpa using hx)
set_option maxHeartbeats 400000 in
theorem rputVec_no (s : ByteArray) (k : Int) (w : World) (h : lenB s.size k = false) :
    Calls Try.prog 21 #[.string s, .int .i64 k] w fun e w' => e = .returned (.tuple #[.string ⟨#[]⟩, .int .i64 101]) ∧ w = w' := by
  by_cases h1 : k < 1
  · clear h
    go_enter Try.func21, Try.ntmps21
    go_wp2
    go_ret2
    exact ⟨rfl, rfl⟩
  · by_cases h3 : 3 < k
    · clear h
      go_enter Try.func21, Try.ntmps21
      go_wp2
      go_ret2
      exact ⟨rfl, rfl⟩
    · have hh : ¬ (s.size < 256 ^ k.toNat) := by
        intro hx
        have : lenB s.size k = true := by simp [lenB]; exact ⟨by omega, by omega, hx⟩
        rw [h] at this; cases this
      have hk : k = 1 ∨ k = 2 ∨ k = 3 := by omega
      rcases hk with rfl | rfl | rfl
      · exact rputVec_1no s w (by simpa using hh)
      · exact rputVec_2no s w (by simpa using hh)
      · exact rputVec_3no s w (by simpa using hh)
end Go.Proofs.Ytfgcbdmhkehhlaa
