/-
  GHASH by writes, as plain functions: texts one behind the other, a block's words, a tag's bytes.
-/
import Derived.Test.YtljhenjbjondkaaJoas
import Derived.Test.YtljhenjbjondkaaJoam
import Derived.Test.YtljhenjbjondkaaProg
import Derived.Test.YtljhenjbjondkaaJoak
import Derived.WalkKit
import Derived.WalkSpells
import Derived.WalkLawsBesides
import Derived.Lib.Hide
import Derived.Laws.MakeOwn
import Derived.Laws.BytesArg
namespace Go.Proofs.Gd
open Go.RowKit Go.Proofs.Gcm
open Go.Proofs.Aes (byt byt_lt get_byt ciphS encS)
open Go.Proofs.Be (beS beL beS_size)
/-- The sum behind k blocks of a text. -/
def gW (K : Nat × Nat) (s : ByteArray) (S : Nat × Nat) : Nat → Nat × Nat
  | 0 => S
  | k + 1 => addS K (gW K s S k) (nv s (16 * k) 8, nv s (16 * k + 8) 8)
theorem addS_mul (K S p : Nat × Nat) (hK : Ok K) (hS : Ok S) (hp : Ok p) : addS K S p = (mulX (S.1 ^^^ p.1) (S.2 ^^^ p.2) K.1 K.2, mulY (S.1 ^^^ p.1) (S.2 ^^^ p.2) K.1 K.2) := by
  have o := pl_ok hS hp
  exact hor_mul (pl S p).1 (pl S p).2 K.1 K.2 o.1 o.2 hK.1 hK.2
theorem addS_ok {K S p : Nat × Nat} (hK : Ok K) : Ok (addS K S p) := hor_ok _ _ hK 32
theorem nv_ok (s : ByteArray) (a b : Nat) : Ok (nv s a 8, nv s b 8) := ⟨nv64 s a, nv64 s b⟩
theorem gW_ok {K : Nat × Nat} (s : ByteArray) {S : Nat × Nat} (hK : Ok K) (hS : Ok S) (k : Nat) : Ok (gW K s S k) := by
  cases k with
  | zero => exact hS
  | succ k => exact addS_ok hK
theorem gW_gSum (K : Nat × Nat) (s : ByteArray) (hK : Ok K) (k : Nat) : gW K s (0, 0) k = gSum K.1 K.2 s k := by
  induction k with
  | zero => rfl
  | succ k ih =>
    show addS K (gW K s (0, 0) k) (nv s (16 * k) 8, nv s (16 * k + 8) 8) = _
    rw [addS_mul K _ _ hK (gW_ok s hK ok_zero k) (nv_ok s _ _), ih]
    rfl
theorem gW_congr (K S : Nat × Nat) (s t : ByteArray) (k : Nat) (h : ∀ a, a + 8 ≤ 16 * k → nv s a 8 = nv t a 8) : gW K s S k = gW K t S k := by
  induction k with
  | zero => rfl
  | succ k ih =>
    show addS K (gW K s S k) (nv s (16 * k) 8, nv s (16 * k + 8) 8) = addS K (gW K t S k) (nv t (16 * k) 8, nv t (16 * k + 8) 8)
    rw [ih fun a ha => h a (by omega), h (16 * k) (by omega), h (16 * k + 8) (by omega)]
theorem byt_left (s t : ByteArray) (i : Nat) (h : i < s.size) : byt (s ++ t) i = byt s i := by
  unfold byt
  rw [ByteArray.data_append, Array.toList_append, List.getD_eq_getElem?_getD, List.getElem?_append_left (by simpa using h), ← List.getD_eq_getElem?_getD]
theorem byt_right (s t : ByteArray) (i : Nat) : byt (s ++ t) (s.size + i) = byt t i := by
  unfold byt
  have e : s.data.toList.length = s.size := by simp
  rw [ByteArray.data_append, Array.toList_append, List.getD_eq_getElem?_getD, List.getElem?_append_right (by omega), e, Nat.add_sub_cancel_left, ← List.getD_eq_getElem?_getD]
theorem nv_left (s t : ByteArray) (a k : Nat) (h : a + k ≤ s.size) : nv (s ++ t) a k = nv s a k := by
  induction k with
  | zero => rfl
  | succ k ih =>
    show nv (s ++ t) a k * 256 + byt (s ++ t) (a + k) = nv s a k * 256 + byt s (a + k)
    rw [ih (by omega), byt_left s t (a + k) (by omega)]
theorem nv_right (s t : ByteArray) (a k : Nat) : nv (s ++ t) (s.size + a) k = nv t a k := by
  induction k with
  | zero => rfl
  | succ k ih =>
    show nv (s ++ t) (s.size + a) k * 256 + byt (s ++ t) (s.size + a + k) = nv t a k * 256 + byt t (a + k)
    rw [ih, Nat.add_assoc, byt_right]
theorem gW_append (K S : Nat × Nat) (s t : ByteArray) (m k : Nat) (h : s.size = 16 * m) : gW K (s ++ t) S (m + k) = gW K t (gW K s S m) k := by
  induction k with
  | zero => exact gW_congr K S (s ++ t) s m fun a ha => nv_left s t a 8 (by omega)
  | succ k ih =>
    show addS K (gW K (s ++ t) S (m + k)) (nv (s ++ t) (16 * (m + k)) 8, nv (s ++ t) (16 * (m + k) + 8) 8) = addS K (gW K t (gW K s S m) k) (nv t (16 * k) 8, nv t (16 * k + 8) 8)
    rw [ih, show 16 * (m + k) = s.size + 16 * k by omega, nv_right, Nat.add_assoc, nv_right]
/-- The sum behind a text that is filled up. -/
def wrS (K S : Nat × Nat) (s : ByteArray) : Nat × Nat := gW K (fillS s) S ((s.size + 15) / 16)
theorem fillS_size (s : ByteArray) : (fillS s).size = 16 * ((s.size + 15) / 16) := by unfold fillS; rw [ByteArray.size_append, zS_size]; omega
theorem wrS_ok {K S : Nat × Nat} (s : ByteArray) (hK : Ok K) (hS : Ok S) : Ok (wrS K S s) := gW_ok _ hK hS _
theorem nv_beS (x k : Nat) (h : x < 256 ^ k) : nv (beS x k) 0 k = x := by
  induction k generalizing x with
  | zero => rw [Nat.pow_zero] at h; show 0 = x; omega
  | succ k ih =>
    have e : beS x (k + 1) = beS (x / 256) k ++ ⟨#[UInt8.ofNat (x % 256)]⟩ := by
      apply ByteArray.ext; apply Array.ext'
      rw [ByteArray.data_append, Array.toList_append]
      simp [Be.beS, Be.beL]
    have hz := beS_size (x / 256) k
    show nv (beS x (k + 1)) 0 k * 256 + byt (beS x (k + 1)) (0 + k) = x
    have hk : byt (beS (x / 256) k ++ ⟨#[UInt8.ofNat (x % 256)]⟩) k = byt ⟨#[UInt8.ofNat (x % 256)]⟩ 0 := by
      have := byt_right (beS (x / 256) k) ⟨#[UInt8.ofNat (x % 256)]⟩ 0
      rwa [hz, Nat.add_zero] at this
    rw [e, nv_left _ _ _ _ (by omega), ih (x / 256) (by rw [Nat.pow_succ] at h; omega), Nat.zero_add, hk]
    show x / 256 * 256 + (UInt8.ofNat (x % 256)).toNat = x
    rw [UInt8.toNat_ofNat']
    omega
theorem nv_two (x y : Nat) (hx : x < 18446744073709551616) (hy : y < 18446744073709551616) : nv (beS x 8 ++ beS y 8) 0 8 = x ∧ nv (beS x 8 ++ beS y 8) 8 8 = y := by
  have hz := beS_size x 8
  constructor
  · rw [nv_left _ _ _ _ (by omega), nv_beS x 8 hx]
  · have := nv_right (beS x 8) (beS y 8) 0 8
    rw [hz, Nat.add_zero, nv_beS y 8 hy] at this
    exact this
/-- The hash that a tag is of. -/
theorem auth_sum (K : Nat × Nat) (aad c : ByteArray) (hK : Ok K) (ha : aad.size ≤ 100000) (hc : c.size ≤ 100000) :
    addS K (wrS K (wrS K (0, 0) aad) c) (8 * aad.size, 8 * c.size) = gSum K.1 K.2 (authS aad c) ((authS aad c).size / 16) := by
  have hz1 := beS_size (8 * aad.size) 8
  have hz2 := beS_size (8 * c.size) 8
  have hn := nv_two (8 * aad.size) (8 * c.size) (by omega) (by omega)
  have f1 := fillS_size aad
  have f2 := fillS_size c
  rw [← gW_gSum K _ hK]
  unfold authS
  rw [show (fillS aad ++ fillS c ++ (beS (8 * aad.size) 8 ++ beS (8 * c.size) 8)).size / 16 = ((aad.size + 15) / 16 + (c.size + 15) / 16) + 1 by rw [ByteArray.size_append, ByteArray.size_append, ByteArray.size_append, hz1, hz2, f1, f2]; omega]
  rw [gW_append K (0, 0) (fillS aad ++ fillS c) _ ((aad.size + 15) / 16 + (c.size + 15) / 16) 1 (by rw [ByteArray.size_append, f1, f2]; omega), gW_append K (0, 0) (fillS aad) (fillS c) ((aad.size + 15) / 16) ((c.size + 15) / 16) f1]
  show _ = addS K _ (nv _ (16 * 0) 8, nv _ (16 * 0 + 8) 8)
  rw [show 16 * 0 = 0 from rfl, Nat.zero_add, hn.1, hn.2]
  rfl
/-- A text's bytes out of its number. -/
theorem nv_digit (s : ByteArray) (a k j : Nat) (h : j < k) : nv s a k / 256 ^ j % 256 = byt s (a + (k - 1 - j)) := by
  induction k generalizing j with
  | zero => omega
  | succ k ih =>
    have hb := byt_lt s (a + k)
    show (nv s a k * 256 + byt s (a + k)) / 256 ^ j % 256 = _
    cases j with
    | zero => rw [Nat.pow_zero, Nat.div_one, show k + 1 - 1 - 0 = k by omega]; omega
    | succ j => rw [Nat.pow_succ, Nat.mul_comm (256 ^ j), ← Nat.div_div_eq_div_mul, show (nv s a k * 256 + byt s (a + k)) / 256 = nv s a k by omega, ih j (by omega), show k + 1 - 1 - (j + 1) = k - 1 - j by omega]
theorem wB_nv (s : ByteArray) (t : Nat) (h : t < 16) : wB (nv s 0 8) (nv s 8 8) t = byt s t := by
  unfold wB
  split
  · rw [nv_digit s 0 8 (7 - t) (by omega), show 0 + (8 - 1 - (7 - t)) = t by omega]
  · rw [nv_digit s 8 8 (15 - t) (by omega), show 8 + (8 - 1 - (15 - t)) = t by omega]
/-- A tag out of the hash and the first block. -/
theorem tag_whole (wk : Nat → Nat) (n : Nat) (nonce : ByteArray) (a b : Nat) :
    wholeS (a ^^^ nv (ciphS wk n (nonce ++ beS 1 4)) 0 8) (b ^^^ nv (ciphS wk n (nonce ++ beS 1 4)) 8 8) = ctrS wk n nonce 1 (wholeS a b) := by
  unfold ctrS
  rw [wholeS_size]
  show strOfNums _ = strOfNums _
  congr 1
  apply List.map_congr_left
  intro t ht
  have ht := List.mem_range.1 ht
  have e : ctrB wk n nonce 1 (wholeS a b) t = wB a b t ^^^ byt (ciphS wk n (nonce ++ beS 1 4)) t := by
    unfold ctrB
    rw [wholeS_byt a b t ht, show 1 + t / 16 = 1 by omega, show t % 16 = t by omega]
  rw [e, wB_sum, wB_nv _ t ht]
end Go.Proofs.Gd
/-
  The developers' gcm: a text written into a hasher.
-/
namespace Go.Proofs.Gd
open Go.RowKit Go.Proofs.Gcm
open Go.Proofs.Aes (byt byt_lt get_byt ciphS encS)
def tsz : Value → Nat
  | .string s => s.size
  | _ => 0
/-- A text filled up, block by block. -/
theorem fill_block (s : ByteArray) (k : Nat) (h : 16 * k + 16 ≤ s.size) (T : ByteArray) (hT : T = s.extract (16 * k) s.size) :
    nv (T.extract 0 16) 0 8 = nv (fillS s) (16 * k) 8 ∧ nv (T.extract 0 16) 8 8 = nv (fillS s) (16 * k + 8) 8 := by
  subst hT
  have e : (s.extract (16 * k) s.size).extract 0 16 = s.extract (16 * k) (16 * k + 16) := by
    rw [ByteArray.extract_extract, Nat.min_eq_left h, Nat.add_zero]
  unfold fillS
  rw [e, nv_extract s (16 * k) 16 0 8 (by decide), nv_extract s (16 * k) 16 8 8 (by decide), nv_left _ _ _ _ (by omega), nv_left _ _ _ _ (by omega), Nat.add_zero]
  exact ⟨rfl, rfl⟩
theorem fill_last (s : ByteArray) (k n : Nat) (h : 16 * k + n = s.size) (hn : n < 16) (h0 : 0 < n) (T : ByteArray) (hT : T = s.extract (16 * k) s.size) :
    nv (T ++ zS (16 - n)) 0 8 = nv (fillS s) (16 * k) 8 ∧ nv (T ++ zS (16 - n)) 8 8 = nv (fillS s) (16 * k + 8) 8 := by
  subst hT
  have e : fillS s = s.extract 0 (16 * k) ++ (s.extract (16 * k) s.size ++ zS (16 - n)) := by
    unfold fillS
    rw [← ByteArray.append_assoc, ByteArray.extract_append_extract, Nat.min_eq_left (by omega), Nat.max_eq_right (by omega), ByteArray.extract_zero_size, show (16 - s.size % 16) % 16 = 16 - n by omega]
  have z : (s.extract 0 (16 * k)).size = 16 * k := by rw [ByteArray.size_extract]; omega
  rw [e]
  generalize s.extract (16 * k) s.size ++ zS (16 - n) = U
  have h1 := nv_right (s.extract 0 (16 * k)) U 0 8
  have h2 := nv_right (s.extract 0 (16 * k)) U 8 8
  rw [z] at h1 h2
  exact ⟨h1.symm, h2.symm⟩
theorem read_of (T : ByteArray) (w : World) (x y : Nat) (hs : T.size = 16) (hx : nv T 0 8 = x) (hy : nv T 8 8 = y) :
    Calls Try.prog 32 #[.string T] w fun e w' => e = .returned (.agg (elA (x, y))) ∧ Below w.heap.size w w' := by subst hx hy; exact read_any T w hs
set_option maxHeartbeats 2000000 in
theorem write_any (K S : Nat × Nat) (s : ByteArray) (g : Nat) (w : World) (h : Ha w g K S) (hs : s.size ≤ 140737488355328) :
    Calls Try.prog 35 #[.pointer (some ⟨g, 0, none⟩), .string s] w fun e w' => e = .returned (.tuple #[]) ∧ But g w w' ∧ Ha w' g K (wrS K S s) := by
  have H0 := Lib.hid h
  have HS := Lib.hid hs
  clear h hs
  go_enter Try.func35, Try.ntmps35
  go_wp2_with (fail)
  go_loopw [1] (fun v wx => ∃ (k n : Nat) (T : ByteArray), v = .string T ∧ T.size = n ∧ Hid (16 * k + n = s.size) ∧ Hid (T = s.extract (16 * k) s.size) ∧ Hid (But g w wx) ∧ Hid (Ha wx g K (gW K (fillS s) S k))) (fun v _ => tsz v)
  case atStart => exact ⟨0, s.size, s, rfl, rfl, by show 16 * 0 + s.size = s.size; omega, by show s = s.extract 0 s.size; rw [ByteArray.extract_zero_size], But.refl g w, H0⟩
  case round =>
    clear H0
    obtain ⟨k, n, T, rfl, hn, hk, hT, HB, HH⟩ := hrel
    by_cases hlt : 16 ≤ n
    · have nl : ((16 : Int) ≤ (n : Int)) = True := eq_true (by omega)
      have HF := Lib.hid (fill_block s k (by have := hk.out; omega) T hT.out)
      have HN := Lib.hid hlt
      have HZ : Hid ((T.extract 0 16).size = 16) := by show (T.extract 0 16).size = 16; rw [ByteArray.size_extract]; omega
      clear hlt
      go_wp2_with (first
        | (go_at_call 32; refine (read_of (T.extract 0 16) _ _ _ HZ.out HF.out.1 HF.out.2).mono ?_; rintro e u ⟨rfl, hbu⟩; have HB := Lib.hid (HB.out.on hbu); have HH := Lib.hid (HH.out.on hbu); clear hbu)
        | (go_at_call 36; refine (add_any _ K _ g _ HH.out (nv_ok _ _ _)).mono ?_; rintro e v ⟨rfl, hbv, hv⟩; have HB := Lib.hid (HB.out.trans hbv); have HH := Lib.hid hv; clear hbv hv))
      refine ⟨⟨k + 1, n - 16, T.extract 16 n, rfl, by rw [ByteArray.size_extract]; omega, by show 16 * (k + 1) + (n - 16) = s.size; have := hk.out; have := HN.out; omega, ?_, HB, HH⟩, ?_⟩
      · show T.extract 16 n = s.extract (16 * (k + 1)) s.size
        have := hk.out
        rw [hT.out, ByteArray.extract_extract, show min (16 * k + n) s.size = s.size by omega, show 16 * k + 16 = 16 * (k + 1) by omega]
      · show (T.extract 16 n).size < T.size
        have := HN.out
        rw [ByteArray.size_extract]; omega
    · have nl : ((16 : Int) ≤ (n : Int)) = False := eq_false (by omega)
      by_cases h0 : 0 < n
      · have n0 : ((0 : Int) < (n : Int)) = True := eq_true (by omega)
        have n1 : (0 < n) = True := eq_true h0
        have HF := Lib.hid (fill_last s k n hk.out (by omega) h0 T hT.out)
        obtain ⟨m, hm⟩ : ∃ m, 16 - n = m := ⟨_, rfl⟩
        obtain ⟨M, _, hMc, hmk⟩ := zeros m (by omega)
        have hcv := fun W => conv_new W M m hMc
        have z1 := zS_size m
        have q1 : (16 - (n : Int)) = (m : Int) := by omega
        have q2 : ¬ 9223372036854775807 < n + m := by omega
        have HZ : Hid ((T ++ zS m).size = 16) := by show (T ++ zS m).size = 16; rw [ByteArray.size_append, z1]; omega
        rw [hm] at HF
        have HW : Hid (wrS K S s = addS K (gW K (fillS s) S k) (nv (fillS s) (16 * k) 8, nv (fillS s) (16 * k + 8) 8)) := by
          show gW K (fillS s) S ((s.size + 15) / 16) = gW K (fillS s) S (k + 1)
          rw [show (s.size + 15) / 16 = k + 1 by have := hk.out; omega]
        have HB0 : Hid (But g w (wr.alloc (.cells M 5))) := HB.out.on ((Below.refl _ _).alloc (Nat.le_refl _) _)
        have HH0 : Hid (Ha (wr.alloc (.cells M 5)) g K (gW K (fillS s) S k)) := HH.out.on ((Below.refl _ _).alloc (Nat.le_refl _) _)
        clear hlt h0 hMc hm HB HH
        go_wp2_with (first
          | (go_at_call 32; refine (read_of (T ++ zS m) _ _ _ HZ.out HF.out.1 HF.out.2).mono ?_; rintro e u ⟨rfl, hbu⟩; have HB := Lib.hid (HB0.out.on hbu); have HH := Lib.hid (HH0.out.on hbu); clear hbu)
          | (go_at_call 36; refine (add_any _ K _ g _ HH.out (nv_ok _ _ _)).mono ?_; rintro e v ⟨rfl, hbv, hv⟩))
        go_end0
        exact ⟨rfl, HB.out.trans hbv, HW.out ▸ hv⟩
      · have n0 : ((0 : Int) < (n : Int)) = False := eq_false (by omega)
        have n1 : (0 < n) = False := eq_false h0
        have HW : Hid (wrS K S s = gW K (fillS s) S k) := by
          show gW K (fillS s) S ((s.size + 15) / 16) = gW K (fillS s) S k
          rw [show (s.size + 15) / 16 = k by have := hk.out; omega]
        clear hlt h0
        go_wp2_with (fail)
        go_end0
        exact ⟨rfl, HB.out, HW.out ▸ HH.out⟩
end Go.Proofs.Gd
/-
  Package wire's Put with four bytes.
-/
namespace Go.Proofs.Wp
open Go.RowKit
open Go.Proofs.Be (beS lt4 retS beS4)
theorem make4 (w : World) : (Instr.makeSlice 27 (.int .i64 0) (.int .i64 4)).run Try.prog w = .ok (.slice (some ⟨w.heap.size, 0, none⟩) 0 4) (w.alloc (.cells #[.int .u8 0, .int .u8 0, .int .u8 0, .int .u8 0] 5)) := by kernel_rfl
set_option maxRecDepth 20000 in
set_option maxHeartbeats 400000 in
theorem digits_4 (x : Nat) (w : World) (hx : x < 4294967296) :
    Calls Try.prog 74 #[.int .i64 x, .int .i64 4] w fun e w' => e = .returned (.string (beS x 4)) ∧ Below w.heap.size w w' := by
  have hmk := make4
  go_enter Try.func74, Try.ntmps74
  go_wp2
  rw [run_convert_bytes_arg (P := Try.prog) _ 27 5 Try.underlying27 Try.underlying5 w.heap.size 0 4 4 [(x : Int) / 16777216, (x : Int) / 65536 % 256, (x : Int) / 256 % 256, (x : Int) % 256] rfl (lt4 (by simp [go_sem]) (by simp [go_sem]) (by simp [go_sem]) (by simp [go_sem])) 9 Try.underlying9]
  go_wp2
  go_ret
  refine ⟨retS ?_, ?_⟩
  · rw [← beS4 x, show (x : Int) / 16777216 = (x : Int) / 256 / 256 / 256 % 256 by omega, show (x : Int) / 65536 % 256 = (x : Int) / 256 / 256 % 256 by omega]
  · repeat (first | exact Below.refl _ _ | refine Below.alloc ?_ (by simp; try omega) _)
set_option maxHeartbeats 400000 in
theorem put_4 (n : Nat) (w : World) (hx : n < 4294967296) :
    Calls Try.prog 49 #[.int .i64 n, .int .i64 4] w fun e w' => e = .returned (.tuple #[.string (beS n 4), .int .i64 0]) ∧ Below w.heap.size w w' := by
  have hd := Lib.hid (digits_4 n w hx)
  have hc : (n : Int) ≤ 4294967295 := by omega
  clear hx
  go_enter Try.func49, Try.ntmps49
  go_wp2_with (first | (go_at_call 74; refine hd.out.mono ?_; rintro e w' ⟨rfl, hbel⟩) | (go_at_call 73; go_in))
  go_ret2
  exact ⟨rfl, hbel⟩
end Go.Proofs.Wp
