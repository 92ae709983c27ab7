/-
  The developers' poly: a reduced number's words, sums of 128 bits, eight bytes as a word, a text filled up to a block.
-/
import Derived.Test.YtljhenjbjondkaaJobi
import Derived.Laws.Externs
namespace Go.Proofs.Pd
open Go.RowKit
open Go.Proofs.Aes (byt byt_lt get_byt)
open Go.Proofs.Pol (lmL lmA lmA_get lmA_congr lmA_one lmA_size lt5 leB leB_lt leB_congr zS zS_size)
open Go.Proofs.Im (wpList_box_to wp_region_quiet_tail)
theorem shl_at (x k : Nat) (K : Int) (hK : K = (k : Int)) : IntKind.u64.wrap ((x : Int) * K) = ((x * k % 18446744073709551616 : Nat) : Int) := by
  subst hK
  show _ % 18446744073709551616 = _
  omega
theorem shl_of (x k y : Nat) (K : Int) (hK : K = (k : Int)) (h : x * k % 18446744073709551616 = y) : IntKind.u64.wrap ((x : Int) * K) = (y : Int) := by rw [shl_at x k K hK, h]
theorem mod_same (x y : Nat) (h : x = y) (hy : y < 18446744073709551616) : x % 18446744073709551616 = y := by rw [h]; exact Nat.mod_eq_of_lt hy
set_option maxHeartbeats 2000000 in
theorem words_any (d : Nat → Nat) (w : World) (hd : ∀ i, i < 5 → d i < 67108864) :
    Calls Try.prog 62 #[.agg (lmA d)] w fun e w' => e = .returned (.tuple #[.int .u64 (lowW d : Nat), .int .u64 (highW d : Nat)]) ∧ Below w.heap.size w w' := by
  have hR := RQ.new w d
  have c0 := hR.at_ 0 (d 0) (by decide) rfl
  have c1 := hR.at_ 1 (d 1) (by decide) rfl
  have c2 := hR.at_ 2 (d 2) (by decide) rfl
  have c3 := hR.at_ 3 (d 3) (by decide) rfl
  have c4 := hR.at_ 4 (d 4) (by decide) rfl
  have HB : Hid (Below w.heap.size w (w.alloc (.cells (lmA d) 72))) := (Below.refl _ _).alloc (Nat.le_refl _) _
  have HL : Hid (lowW d = d 0 + d 1 * 67108864 + d 2 * 4503599627370496 % 18446744073709551616) := rfl
  have HH : Hid (highW d = d 2 / 4096 + d 3 * 16384 + d 4 * 1099511627776 % 18446744073709551616) := rfl
  have h0 := hd 0 (by decide)
  have h1 := hd 1 (by decide)
  have h2 := hd 2 (by decide)
  have h3 := hd 3 (by decide)
  have h4 := hd 4 (by decide)
  generalize lowW d = lo at HL ⊢
  generalize highW d = hi at HH ⊢
  generalize d 0 = d0 at *
  generalize d 1 = d1 at *
  generalize d 2 = d2 at *
  generalize d 3 = d3 at *
  generalize d 4 = d4 at *
  obtain ⟨p1, e1⟩ : ∃ z, d1 * 67108864 = z := ⟨_, rfl⟩
  obtain ⟨p2, e2⟩ : ∃ z, d2 * 4503599627370496 % 18446744073709551616 = z := ⟨_, rfl⟩
  obtain ⟨p3, e3⟩ : ∃ z, d3 * 16384 = z := ⟨_, rfl⟩
  obtain ⟨p4, e4⟩ : ∃ z, d4 * 1099511627776 % 18446744073709551616 = z := ⟨_, rfl⟩
  obtain ⟨t2, e5⟩ : ∃ z, d2 / 4096 = z := ⟨_, rfl⟩
  obtain ⟨q1, e6⟩ : ∃ z, d0 + p1 = z := ⟨_, rfl⟩
  obtain ⟨q3, e7⟩ : ∃ z, t2 + p3 = z := ⟨_, rfl⟩
  have b1 : p1 < 18446744073709551616 := by omega
  have b3 : p3 < 18446744073709551616 := by omega
  have s1 := shl_of d1 67108864 p1 67108864 rfl (mod_same _ _ e1 b1)
  have s2 := shl_of d2 4503599627370496 p2 4503599627370496 rfl e2
  have s3 := shl_of d3 16384 p3 16384 rfl (mod_same _ _ e3 b3)
  have s4 := shl_of d4 1099511627776 p4 1099511627776 rfl e4
  have k2 : p2 % 4503599627370496 = 0 ∧ p2 < 18446744073709551616 := by rw [← e2]; omega
  have k4 : p4 % 1099511627776 = 0 ∧ p4 < 18446744073709551616 := by rw [← e4]; omega
  have s5 : (d2 : Int) / 4096 = (t2 : Int) := by omega
  have o1 := or_add d0 p1 26 h0 (by rw [show (2 : Nat) ^ 26 = 67108864 from rfl]; omega) (by omega) (by decide)
  have o2 := or_add q1 p2 52 (by rw [show (2 : Nat) ^ 52 = 4503599627370496 from rfl]; omega) k2.1 k2.2 (by decide)
  have o3 := or_add t2 p3 14 (by rw [show (2 : Nat) ^ 14 = 16384 from rfl]; omega) (by rw [show (2 : Nat) ^ 14 = 16384 from rfl]; omega) (by omega) (by decide)
  have o4 := or_add q3 p4 40 (by rw [show (2 : Nat) ^ 40 = 1099511627776 from rfl]; omega) k4.1 k4.2 (by decide)
  rw [e6] at o1
  rw [e7] at o3
  have HL : Hid (q1 + p2 = lo) := by show _ = _; rw [HL.out, e2, e1, e6]
  have HH : Hid (q3 + p4 = hi) := by show _ = _; rw [HH.out, e4, e3, e5, e7]
  rw [HL.out] at o2
  rw [HH.out] at o4
  clear k2 k4 b1 b3 e1 e2 e3 e4 e5 e6 e7 h0 h1 h2 h3 h4 hR hd
  generalize hA : lmA d = A at *
  go_enter Try.func62, Try.ntmps62
  go_upto_region 0 with (fail)
  apply wp_region_lit
  refine wpList_box_to rfl 72 _ rfl A (by kernel_rfl) w.heap.size rfl ?_
  simp only [Act.put, List.setIfInBounds_toArray, List.set_cons_zero, List.set_cons_succ]
  clear hA
  generalize w.alloc (.cells A 72) = w1 at HB c0 c1 c2 c3 c4 ⊢
  go_wp2_with (fail)
  go_quiet (fail)
  go_wp2_with (fail)
  go_ret2
  exact ⟨rfl, Lw.below_drewN HB.out nq⟩
theorem add64_at (x y c : Int) (hx : 0 ≤ x) (hy : 0 ≤ y) (hc0 : 0 ≤ c) (hc : c ≤ 1) (w : World) : (callFunc 78 #[.int .u64 x, .int .u64 y, .int .u64 c]).run Try.prog w =
    .ok (.value (.tuple #[.int .u64 ((x + y + c) % 18446744073709551616), .int .u64 ((x + y + c) / 18446744073709551616)])) w := by
  rw [run_callFunc_extern Try.func78 (by kernel_rfl) (by kernel_rfl) (by kernel_rfl) (e := add64Entry) (by kernel_rfl), run_add64 x y c hx hy hc0 hc]
  rfl
set_option maxHeartbeats 1000000 in
theorem sum128_any (a b c d : Nat) (w : World) (ha : a < 18446744073709551616) (hc : c < 18446744073709551616) :
    Calls Try.prog 63 #[.int .u64 a, .int .u64 b, .int .u64 c, .int .u64 d] w fun e w' => e = .returned (.tuple #[.int .u64 ((a + c + 0) % 18446744073709551616 : Nat), .int .u64 ((b + d + (a + c + 0) / 18446744073709551616) % 18446744073709551616 : Nat)]) ∧ w' = w := by
  obtain ⟨k, hk⟩ : ∃ k, (a + c + 0) / 18446744073709551616 = k := ⟨_, rfl⟩
  obtain ⟨x, hx⟩ : ∃ x, (a + c + 0) % 18446744073709551616 = x := ⟨_, rfl⟩
  obtain ⟨y, hy⟩ : ∃ y, (b + d + k) % 18446744073709551616 = y := ⟨_, rfl⟩
  have h1 : (callFunc 78 #[.int .u64 (a : Int), .int .u64 (c : Int), .int .u64 0]).run Try.prog w = .ok (.value (.tuple #[.int .u64 (x : Int), .int .u64 (k : Int)])) w := by
    have e1 : ((a : Int) + (c : Int) + 0) % 18446744073709551616 = (x : Int) := by omega
    have e2 : ((a : Int) + (c : Int) + 0) / 18446744073709551616 = (k : Int) := by omega
    rw [add64_at a c 0 (by omega) (by omega) (by omega) (by omega), e1, e2]
  obtain ⟨z, h2⟩ : ∃ z : Int, (callFunc 78 #[.int .u64 (b : Int), .int .u64 (d : Int), .int .u64 (k : Int)]).run Try.prog w = .ok (.value (.tuple #[.int .u64 (y : Int), .int .u64 z])) w := by
    have e1 : ((b : Int) + (d : Int) + (k : Int)) % 18446744073709551616 = (y : Int) := by omega
    rw [add64_at b d k (by omega) (by omega) (by omega) (by omega), e1]
    exact ⟨_, rfl⟩
  rw [hk, hx, hy]
  clear hk hx hy ha hc
  go_enter Try.func63, Try.ntmps63
  go_wp2_with (first | simp only [h1] | simp only [h2])
  go_ret2
  exact ⟨rfl, rfl⟩
theorem shl_var (b z : Nat) (hb : b < 256) (hz : z ≤ 56) : IntKind.u64.wrap ((b : Int) * 2 ^ z) = ((b * 2 ^ z : Nat) : Int) := by
  have h1 : 2 ^ z ≤ 2 ^ 56 := Nat.pow_le_pow_right (by decide) hz
  have h2 : b * 2 ^ z ≤ 255 * 2 ^ 56 := Nat.mul_le_mul (by omega) h1
  rw [show (2 : Nat) ^ 56 = 72057594037927936 from rfl] at h2
  have e : (b : Int) * 2 ^ z = ((b * 2 ^ z : Nat) : Int) := by rw [Int.natCast_mul, Int.natCast_pow]; rfl
  rw [e]
  show _ % 18446744073709551616 = _
  omega
theorem or_next (s : ByteArray) (i : Nat) (hi : i < 8) : bits .or .u64 ((leB (byt s) i : Nat) : Int) ((byt s i * 2 ^ (8 * i) : Nat) : Int) = ((leB (byt s) (i + 1) : Nat) : Int) := by
  have h1 := leB_lt (byt_lt s) i
  have h2 := leB_lt (byt_lt s) (i + 1)
  have e : (256 : Nat) ^ i = 2 ^ (8 * i) := by rw [Nat.pow_mul]
  have h3 : (256 : Nat) ^ (i + 1) ≤ 256 ^ 8 := Nat.pow_le_pow_right (by decide) (by omega)
  rw [two64] at h3
  have e2 : leB (byt s) (i + 1) = leB (byt s) i + byt s i * 2 ^ (8 * i) := by show leB (byt s) i + byt s i * 256 ^ i = _; rw [e]
  rw [e] at h1
  rw [e2] at h2 ⊢
  exact or_add _ _ (8 * i) h1 (Nat.mul_mod_left _ _) (by omega) (by omega)
set_option maxHeartbeats 1000000 in
theorem word_any (s : ByteArray) (w : World) (hs : 8 ≤ s.size) :
    Calls Try.prog 56 #[.string s] w fun e w' => e = .returned (.int .u64 ((leB (byt s) 8 : Nat) : Int)) ∧ w' = w := by
  have HS := Lib.hid hs
  clear hs
  go_enter Try.func56, Try.ntmps56
  go_wp2_with (fail)
  go_loopw [3, 5] (fun x v wx => ∃ i : Nat, Hid (i ≤ 8) ∧ v = .int .i64 i ∧ x = .int .u64 ((leB (byt s) i : Nat) : Int) ∧ Hid (wx = w)) (fun _ v _ => 8 - (intOf v).toNat)
  case atStart => exact ⟨0, Nat.zero_le _, rfl, rfl, rfl⟩
  case round =>
    obtain ⟨i, hi, rfl, rfl, HW⟩ := hrel
    by_cases hlt : i < 8
    · have il : ((i : Int) < 8) = True := eq_true (by omega)
      have i1 : (i : Int) < (s.size : Int) := by have := HS.out; omega
      have HI := Lib.hid hlt
      have v1 : ∀ h : i < s.size, (s[i]'h).toNat = byt s i := fun h => get_byt s _ h
      have HO := Lib.hid (or_next s i hlt)
      have HL := Lib.hid (byt_lt s i)
      obtain ⟨Y, hY⟩ : ∃ Y, leB (byt s) (i + 1) = Y := ⟨_, rfl⟩
      rw [hY] at HO
      have HY := Lib.hid hY
      clear hY
      generalize leB (byt s) i = X at HO ⊢
      generalize byt s i = b at v1 HO HL
      clear hlt
      go_upto_region 5 with (fail)
      clear il
      apply wp_region_lit
      refine Lw.wpList_val rfl (.int .u64 (X : Int)) wr (by go_simp) ?_
      refine Lw.wpList_val rfl (.string s) wr (by go_simp) ?_
      refine Lw.wpList_val rfl (.int .i64 (i : Int)) wr (by go_simp) ?_
      refine Lw.wpList_val rfl (.int .u8 (b : Int)) wr (by go_simp) ?_
      refine Lw.wpList_val rfl (.int .u64 (b : Int)) wr (by
        have e : IntKind.u64.wrap (b : Int) = (b : Int) := by (show (b : Int) % 18446744073709551616 = _; have := HL.out; omega)
        go_simp) ?_
      refine Lw.wpList_val rfl (.int .i64 (i : Int)) wr (by go_simp) ?_
      refine Lw.wpList_val rfl (.int .i64 ((8 * i : Nat) : Int)) wr (by
        have e : IntKind.i64.wrap (8 * (i : Int)) = ((8 * i : Nat) : Int) := by rw [IntWalk.i64_in _ (by have := HI.out; omega)]; omega
        generalize 8 * i = z at e
        go_simp) ?_
      have HZ : Hid (8 * i ≤ 56) := by show 8 * i ≤ 56; have := HI.out; omega
      generalize 8 * i = z at HO HZ ⊢
      refine Lw.wpList_val rfl (.int .u64 ((b * 2 ^ z : Nat) : Int)) wr (by
        have e := shl_var b z HL.out HZ.out
        have m : min z 64 = z := Nat.min_eq_left (by have := HZ.out; omega)
        generalize b * 2 ^ z = t at e
        go_simp) ?_
      generalize b * 2 ^ z = t at HO ⊢
      refine Lw.wpList_val rfl (.int .u64 (Y : Int)) wr (by have e := HO.out; go_simp) ?_
      simp only [Act.put, List.setIfInBounds_toArray, List.set_cons_zero, List.set_cons_succ]
      clear i1 v1
      have i8 : (i : Int) < 8 := by have := HI.out; omega
      go_wp2_with (fail)
      exact ⟨⟨i + 1, HI.out, by go_num, by rw [HY.out], HW⟩, Lw.meas 8 i HI.out⟩
    · have il : ((i : Int) < 8) = False := eq_false (by omega)
      obtain rfl : i = 8 := by have := hi.out; omega
      rw [show ((8 : Nat) : Int) = 8 from rfl]
      clear hlt hi
      generalize hX : leB (byt s) 8 = X
      have HX := Lib.hid hX
      clear hX
      go_wp2_with (fail)
      go_ret
      exact ⟨by rw [HX.out]; rfl, HW.out⟩
set_option maxHeartbeats 1000000 in
theorem filled_any (s : ByteArray) (w : World) (hs : s.size ≤ 16) :
    Calls Try.prog 58 #[.string s] w fun e w' => e = .returned (.string (s ++ zS (16 - s.size))) ∧ Below w.heap.size w w' := by
  obtain ⟨m, hm⟩ : ∃ m, 16 - s.size = m := ⟨_, rfl⟩
  rw [hm]
  obtain ⟨M, hM, hMc, hmk⟩ := Lw.zeros m (by omega)
  have hcv := fun W => (Lw.rowB_new W M m hM hMc).text 0 m m (by omega)
  have HZ : Hid (Lw.pieceS (fun _ => 0) 0 m = zS m) := rfl
  rw [HZ.out] at hcv
  have z1 := zS_size m
  have q1 : 16 - (s.size : Int) = (m : Int) := by omega
  have m16 : m ≤ 16 := by omega
  have q2 : ¬ 9223372036854775807 < s.size + m := by omega
  clear hMc hM hm HZ
  go_enter Try.func58, Try.ntmps58
  go_wp2_with (fail)
  go_ret
  exact ⟨rfl, (Below.refl _ _).alloc (Nat.le_refl _) _⟩
end Go.Proofs.Pd
