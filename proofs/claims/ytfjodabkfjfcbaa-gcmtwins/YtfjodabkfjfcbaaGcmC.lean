/-
  The document's own answer: GHASH.
-/
import Derived.Test.YtfjodabkfjfcbaaGcmB
namespace Go.Proofs.Gcm
open Go.RowKit
open Go.Proofs.Aes (byt byt_lt get_byt)
/-- The sum behind k blocks. -/
def gSum (c d : Nat) (s : ByteArray) : Nat → Nat × Nat
  | 0 => (0, 0)
  | k + 1 => (mulX ((gSum c d s k).1 ^^^ nv s (16 * k) 8) ((gSum c d s k).2 ^^^ nv s (16 * k + 8) 8) c d, mulY ((gSum c d s k).1 ^^^ nv s (16 * k) 8) ((gSum c d s k).2 ^^^ nv s (16 * k + 8) 8) c d)
def ghS (h s : ByteArray) : ByteArray := wholeS (gSum (nv h 0 8) (nv h 8 8) s (s.size / 16)).1 (gSum (nv h 0 8) (nv h 8 8) s (s.size / 16)).2
theorem ghS_size (h s : ByteArray) : (ghS h s).size = 16 := wholeS_size _ _
theorem nv64 (s : ByteArray) (a : Nat) : nv s a 8 < 18446744073709551616 := nv_lt s a 8
theorem mul_lt (a b c d : Nat) (ha : a < 18446744073709551616) (hb : b < 18446744073709551616) (hc : c < 18446744073709551616) (hd : d < 18446744073709551616) : mulX a b c d < 18446744073709551616 ∧ mulY a b c d < 18446744073709551616 := by
  have h := tRun_lt ⟨a, b, c, d, 0, 0⟩ ⟨ha, hb, hc, hd, (by decide : (0 : Nat) < 18446744073709551616), (by decide : (0 : Nat) < 18446744073709551616)⟩ 128
  exact ⟨h.2.2.2.2.1, h.2.2.2.2.2⟩
theorem gSum_lt (c d : Nat) (s : ByteArray) (hc : c < 18446744073709551616) (hd : d < 18446744073709551616) (k : Nat) : (gSum c d s k).1 < 18446744073709551616 ∧ (gSum c d s k).2 < 18446744073709551616 := by
  induction k with
  | zero => exact ⟨(by decide : (0 : Nat) < 18446744073709551616), (by decide : (0 : Nat) < 18446744073709551616)⟩
  | succ k ih => exact mul_lt _ _ c d (xor64_lt ih.1 (nv64 _ _)) (xor64_lt ih.2 (nv64 _ _)) hc hd
theorem byt_extract (s : ByteArray) (a n i : Nat) (h : i < n) : byt (s.extract a (a + n)) i = byt s (a + i) := by
  unfold byt
  rw [show (s.extract a (a + n)).data.toList = (s.data.toList.drop a).take n by simp [List.extract_eq_take_drop], List.getD_eq_getElem?_getD, List.getElem?_take, if_pos h, List.getElem?_drop, ← List.getD_eq_getElem?_getD]
theorem nv_extract (s : ByteArray) (a n o k : Nat) (h : o + k ≤ n) : nv (s.extract a (a + n)) o k = nv s (a + o) k := by
  induction k with
  | zero => rfl
  | succ k ih =>
    show nv (s.extract a (a + n)) o k * 256 + byt (s.extract a (a + n)) (o + k) = nv s (a + o) k * 256 + byt s (a + o + k)
    rw [ih (by omega), byt_extract s a n (o + k) (by omega), Nat.add_assoc]
set_option maxHeartbeats 1000000 in
theorem ghash_any (h s : ByteArray) (w : World) (hh : h.size = 16) (hs : s.size ≤ 140737488355328) :
    Calls Try.prog 29 #[.string h, .string s] w fun e w' => e = .returned (.string (ghS h s)) ∧ Below w.heap.size w w' := by
  have HH := Lib.hid hh
  have HC0 := Lib.hid (halves_any h w hh)
  have HC := Lib.hid (nv64 h 0)
  have HD := Lib.hid (nv64 h 8)
  have HSz := Lib.hid hs
  unfold ghS
  clear hh hs
  generalize nv h 0 8 = c at HC HC0 ⊢
  generalize nv h 8 8 = d at HD HC0 ⊢
  go_enter Try.func29, Try.ntmps29
  go_wp2_with (fail)
  refine HC0.out.mono ?_
  rintro e u ⟨rfl, rfl⟩
  clear HC0
  go_wp2_with (fail)
  go_loop [7, 8, 9] (fun vx vy vi => ∃ (k m x y : Nat), Hid (m = 16 * k ∧ m ≤ s.size) ∧ vi = .int .i64 m ∧ vx = .int .u64 x ∧ vy = .int .u64 y ∧ Hid (gSum c d s k = (x, y))) (fun _ _ i => s.size - (intOf i).toNat)
  case atStart => exact ⟨0, 0, 0, 0, ⟨rfl, Nat.zero_le _⟩, rfl, rfl, rfl, rfl⟩
  case round =>
    obtain ⟨k, m, x, y, hm, rfl, rfl, rfl, HG⟩ := hrel
    have hl := gSum_lt c d s HC.out HD.out k
    rw [HG.out] at hl
    have HLt := Lib.hid hl
    clear hl
    have sz := HSz.out
    have mz := hm.out.2
    by_cases hlt : m + 16 ≤ s.size
    · have l1 : ((m : Int) + 16 ≤ (s.size : Int)) = True := eq_true (by omega)
      have l2 : (m + 16 ≤ s.size) = True := eq_true hlt
      have HL := Lib.hid hlt
      have HZ : Hid ((s.extract m (m + 16)).size = 16) := by show (s.extract m (m + 16)).size = 16; rw [ByteArray.size_extract]; omega
      have HN1 : Hid (nv (s.extract m (m + 16)) 0 8 = nv s (16 * k) 8) := by show nv (s.extract m (m + 16)) 0 8 = _; rw [nv_extract s m 16 0 8 (by decide), hm.out.1, Nat.add_zero]
      have HN2 : Hid (nv (s.extract m (m + 16)) 8 8 = nv s (16 * k + 8) 8) := by show nv (s.extract m (m + 16)) 8 8 = _; rw [nv_extract s m 16 8 8 (by decide), hm.out.1]
      clear hlt
      have HP : Hid (nv s (16 * k) 8 < 18446744073709551616) := nv64 _ _
      have HQ : Hid (nv s (16 * k + 8) 8 < 18446744073709551616) := nv64 _ _
      have HG2 : Hid (gSum c d s (k + 1) = (mulX (x ^^^ nv s (16 * k) 8) (y ^^^ nv s (16 * k + 8) 8) c d, mulY (x ^^^ nv s (16 * k) 8) (y ^^^ nv s (16 * k + 8) 8) c d)) := by
        show (mulX ((gSum c d s k).1 ^^^ nv s (16 * k) 8) ((gSum c d s k).2 ^^^ nv s (16 * k + 8) 8) c d, mulY ((gSum c d s k).1 ^^^ nv s (16 * k) 8) ((gSum c d s k).2 ^^^ nv s (16 * k + 8) 8) c d) = _
        rw [HG.out]
      generalize nv s (16 * k) 8 = p at HN1 HP HG2
      generalize nv s (16 * k + 8) 8 = q at HN2 HQ HG2
      have o1 := u64_xor_nat x p HLt.out.1 HP.out
      have o2 := u64_xor_nat y q HLt.out.2 HQ.out
      have HX := Lib.hid (xor64_lt HLt.out.1 HP.out)
      have HY := Lib.hid (xor64_lt HLt.out.2 HQ.out)
      generalize x ^^^ p = x' at o1 HX HG2
      generalize y ^^^ q = y' at o2 HY HG2
      have HM := Lib.hid (mul_lt x' y' c d HX.out HY.out HC.out HD.out)
      go_wp2_with (fail)
      refine (halves_any (s.extract m (m + 16)) _ HZ.out).mono ?_
      rw [HN1.out, HN2.out]
      rintro e u ⟨rfl, rfl⟩
      go_wp2_with (fail)
      refine (times_any x' y' c d _ HX.out HY.out HC.out HD.out).mono ?_
      rintro e u ⟨rfl, rfl⟩
      go_wp2_with (fail)
      go_round
      case rel => exact ⟨k + 1, m + 16, _, _, ⟨by have := hm.out.1; omega, HL.out⟩, by go_num, rfl, rfl, HG2.out⟩
      case measure => have := HL.out; simp [intOf]; omega
    · have l1 : ((m : Int) + 16 ≤ (s.size : Int)) = False := eq_false (by omega)
      have l2 : (m + 16 ≤ s.size) = False := eq_false hlt
      have HK : Hid (s.size / 16 = k) := by show s.size / 16 = k; have := hm.out.1; omega
      clear hlt
      go_wp2_with (fail)
      refine (whole_any x y _ HLt.out.1 HLt.out.2).mono ?_
      rintro e v ⟨rfl, hv⟩
      go_wp2_with (fail)
      go_ret
      refine ⟨?_, hv⟩
      rw [HK.out, HG.out]
      rfl
end Go.Proofs.Gcm
