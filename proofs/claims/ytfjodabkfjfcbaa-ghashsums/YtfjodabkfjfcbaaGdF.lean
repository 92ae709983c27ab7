/-
  The developers' gcm: a text written into a hasher.
-/
import Derived.Test.YtfjodabkfjfcbaaGdE
namespace Go.Proofs.Gd
open Go.RowKit Go.Proofs.Gcm
open Go.Proofs.Aes (byt byt_lt get_byt ciphS encS)
def tsz : Value → Nat
  | .string s => s.size
  | _ => 0
/-- A text filled up, block by block. -/
theorem fill_block (s : ByteArray) (k : Nat) (h : 16 * k + 16 ≤ s.size) (T : ByteArray) (hT : T = s.extract (16 * k) s.size) :
    nv (T.extract 0 16) 0 8 = nv (fillS s) (16 * k) 8 ∧ nv (T.extract 0 16) 8 8 = nv (fillS s) (16 * k + 8) 8 := by
  subst hT
  have e : (s.extract (16 * k) s.size).extract 0 16 = s.extract (16 * k) (16 * k + 16) := by
    rw [ByteArray.extract_extract, Nat.min_eq_left h, Nat.add_zero]
  unfold fillS
  rw [e, nv_extract s (16 * k) 16 0 8 (by decide), nv_extract s (16 * k) 16 8 8 (by decide), nv_left _ _ _ _ (by omega), nv_left _ _ _ _ (by omega), Nat.add_zero]
  exact ⟨rfl, rfl⟩
theorem fill_last (s : ByteArray) (k n : Nat) (h : 16 * k + n = s.size) (hn : n < 16) (h0 : 0 < n) (T : ByteArray) (hT : T = s.extract (16 * k) s.size) :
    nv (T ++ zS (16 - n)) 0 8 = nv (fillS s) (16 * k) 8 ∧ nv (T ++ zS (16 - n)) 8 8 = nv (fillS s) (16 * k + 8) 8 := by
  subst hT
  have e : fillS s = s.extract 0 (16 * k) ++ (s.extract (16 * k) s.size ++ zS (16 - n)) := by
    unfold fillS
    rw [← ByteArray.append_assoc, ByteArray.extract_append_extract, Nat.min_eq_left (by omega), Nat.max_eq_right (by omega), ByteArray.extract_zero_size, show (16 - s.size % 16) % 16 = 16 - n by omega]
  have z : (s.extract 0 (16 * k)).size = 16 * k := by rw [ByteArray.size_extract]; omega
  rw [e]
  generalize s.extract (16 * k) s.size ++ zS (16 - n) = U
  have h1 := nv_right (s.extract 0 (16 * k)) U 0 8
  have h2 := nv_right (s.extract 0 (16 * k)) U 8 8
  rw [z] at h1 h2
  exact ⟨h1.symm, h2.symm⟩
theorem read_of (T : ByteArray) (w : World) (x y : Nat) (hs : T.size = 16) (hx : nv T 0 8 = x) (hy : nv T 8 8 = y) :
    Calls Try.prog 26 #[.string T] w fun e w' => e = .returned (.agg (elA (x, y))) ∧ Below w.heap.size w w' := by subst hx hy; exact read_any T w hs
set_option maxHeartbeats 2000000 in
theorem write_any (K S : Nat × Nat) (s : ByteArray) (g : Nat) (w : World) (h : Ha w g K S) (hs : s.size ≤ 140737488355328) :
    Calls Try.prog 27 #[.pointer (some ⟨g, 0, none⟩), .string s] w fun e w' => e = .returned (.tuple #[]) ∧ But g w w' ∧ Ha w' g K (wrS K S s) := by
  have H0 := Lib.hid h
  have HS := Lib.hid hs
  clear h hs
  go_enter Try.func27, Try.ntmps27
  go_wp2_with (fail)
  go_loopw [1] (fun v wx => ∃ (k n : Nat) (T : ByteArray), v = .string T ∧ T.size = n ∧ Hid (16 * k + n = s.size) ∧ Hid (T = s.extract (16 * k) s.size) ∧ Hid (But g w wx) ∧ Hid (Ha wx g K (gW K (fillS s) S k))) (fun v _ => tsz v)
  case atStart => exact ⟨0, s.size, s, rfl, rfl, by show 16 * 0 + s.size = s.size; omega, by show s = s.extract 0 s.size; rw [ByteArray.extract_zero_size], But.refl g w, H0⟩
  case round =>
    clear H0
    obtain ⟨k, n, T, rfl, hn, hk, hT, HB, HH⟩ := hrel
    by_cases hlt : 16 ≤ n
    · have nl : ((16 : Int) ≤ (n : Int)) = True := eq_true (by omega)
      have HF := Lib.hid (fill_block s k (by have := hk.out; omega) T hT.out)
      have HN := Lib.hid hlt
      have HZ : Hid ((T.extract 0 16).size = 16) := by show (T.extract 0 16).size = 16; rw [ByteArray.size_extract]; omega
      clear hlt
      go_wp2_with (first
        | (go_at_call 26; refine (read_of (T.extract 0 16) _ _ _ HZ.out HF.out.1 HF.out.2).mono ?_; rintro e u ⟨rfl, hbu⟩; have HB := Lib.hid (HB.out.on hbu); have HH := Lib.hid (HH.out.on hbu); clear hbu)
        | (go_at_call 33; refine (add_any _ K _ g _ HH.out (nv_ok _ _ _)).mono ?_; rintro e v ⟨rfl, hbv, hv⟩; have HB := Lib.hid (HB.out.trans hbv); have HH := Lib.hid hv; clear hbv hv))
      refine ⟨⟨k + 1, n - 16, T.extract 16 n, rfl, by rw [ByteArray.size_extract]; omega, by show 16 * (k + 1) + (n - 16) = s.size; have := hk.out; have := HN.out; omega, ?_, HB, HH⟩, ?_⟩
      · show T.extract 16 n = s.extract (16 * (k + 1)) s.size
        have := hk.out
        rw [hT.out, ByteArray.extract_extract, show min (16 * k + n) s.size = s.size by omega, show 16 * k + 16 = 16 * (k + 1) by omega]
      · show (T.extract 16 n).size < T.size
        have := HN.out
        rw [ByteArray.size_extract]; omega
    · have nl : ((16 : Int) ≤ (n : Int)) = False := eq_false (by omega)
      by_cases h0 : 0 < n
      · have n0 : ((0 : Int) < (n : Int)) = True := eq_true (by omega)
        have n1 : (0 < n) = True := eq_true h0
        have HF := Lib.hid (fill_last s k n hk.out (by omega) h0 T hT.out)
        obtain ⟨m, hm⟩ : ∃ m, 16 - n = m := ⟨_, rfl⟩
        obtain ⟨M, _, hMc, hmk⟩ := zeros m (by omega)
        have hcv := fun W => conv_new W M m hMc
        have z1 := zS_size m
        have q1 : (16 - (n : Int)) = (m : Int) := by omega
        have q2 : ¬ 9223372036854775807 < n + m := by omega
        have HZ : Hid ((T ++ zS m).size = 16) := by show (T ++ zS m).size = 16; rw [ByteArray.size_append, z1]; omega
        rw [hm] at HF
        have HW : Hid (wrS K S s = addS K (gW K (fillS s) S k) (nv (fillS s) (16 * k) 8, nv (fillS s) (16 * k + 8) 8)) := by
          show gW K (fillS s) S ((s.size + 15) / 16) = gW K (fillS s) S (k + 1)
          rw [show (s.size + 15) / 16 = k + 1 by have := hk.out; omega]
        have HB0 : Hid (But g w (wr.alloc (.cells M 5))) := HB.out.on ((Below.refl _ _).alloc (Nat.le_refl _) _)
        have HH0 : Hid (Ha (wr.alloc (.cells M 5)) g K (gW K (fillS s) S k)) := HH.out.on ((Below.refl _ _).alloc (Nat.le_refl _) _)
        clear hlt h0 hMc hm HB HH
        go_wp2_with (first
          | (go_at_call 26; refine (read_of (T ++ zS m) _ _ _ HZ.out HF.out.1 HF.out.2).mono ?_; rintro e u ⟨rfl, hbu⟩; have HB := Lib.hid (HB0.out.on hbu); have HH := Lib.hid (HH0.out.on hbu); clear hbu)
          | (go_at_call 33; refine (add_any _ K _ g _ HH.out (nv_ok _ _ _)).mono ?_; rintro e v ⟨rfl, hbv, hv⟩))
        go_end0
        exact ⟨rfl, HB.out.trans hbv, HW.out ▸ hv⟩
      · have n0 : ((0 : Int) < (n : Int)) = False := eq_false (by omega)
        have n1 : (0 < n) = False := eq_false h0
        have HW : Hid (wrS K S s = gW K (fillS s) S k) := by
          show gW K (fillS s) S ((s.size + 15) / 16) = gW K (fillS s) S k
          rw [show (s.size + 15) / 16 = k by have := hk.out; omega]
        clear hlt h0
        go_wp2_with (fail)
        go_end0
        exact ⟨rfl, HB.out, HW.out ▸ HH.out⟩
end Go.Proofs.Gd
