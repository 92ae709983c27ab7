/-
  The document's own answer: Expand.
-/
import Derived.Test.YtbfkbinkfboklaaDoorHkB
namespace Go.Proofs.Hk
open Go.RowKit Go.Proofs.Be Go.Proofs.Sha
def lastS (b : Int) (key info : ByteArray) : Nat → ByteArray
  | 0 => ⟨#[]⟩
  | n + 1 => macS b key (lastS b key info n ++ info ++ strOfNums [(n : Int) + 1])
def outS (b : Int) (key info : ByteArray) : Nat → ByteArray
  | 0 => ⟨#[]⟩
  | n + 1 => outS b key info n ++ lastS b key info (n + 1)
theorem lastS_le (b : Int) (key info : ByteArray) (n : Nat) : (lastS b key info n).size ≤ 48 := by
  cases n with
  | zero => exact Nat.zero_le _
  | succ n => exact macS_le _ _ _
theorem outS_size (b : Int) (key info : ByteArray) (n : Nat) (h : may b = true) : (outS b key info n).size = (b / 8).toNat * n := by
  induction n with
  | zero => rfl
  | succ n ih => show (outS b key info n ++ macS b key _).size = _; rw [ByteArray.size_append, ih, macS_size _ _ _ h, Nat.mul_add, Nat.mul_one]
theorem conv1 (W : World) (x : Int) : (convert 35 9 (.slice (some ⟨W.heap.size, 0, none⟩) 1 1)).run Tryd.prog (W.alloc (.cells #[.int .u8 x] 5)) = .ok (.string (strOfNums [x])) (W.alloc (.cells #[.int .u8 x] 5)) :=
  run_convert_bytes_arg (P := Tryd.prog) _ 35 5 Tryd.underlying35 Tryd.underlying5 W.heap.size 0 1 1 [x] rfl (fun i hi => by
    have h : i = 0 := by omega
    subst h
    simp [go_sem]) 9 Tryd.underlying9
/-- So many bytes, of digests of d bytes: how many digests? -/
def upTo (d z : Nat) : Nat := (z + d - 1) / d
def mayE (b z : Int) : Bool := may b && (decide (0 ≤ z) && decide (z ≤ 255 * b / 8))
def expS (b : Int) (key info : ByteArray) (z : Int) : ByteArray := bif mayE b z then (outS b key info (upTo (b / 8).toNat z.toNat)).extract 0 z.toNat else ⟨#[]⟩
def expE (b z : Int) : Int := bif mayE b z then 0 else 300
set_option maxHeartbeats 1000000 in
set_option maxRecDepth 100000 in
theorem rexpand_256 (key info : ByteArray) (z : Nat) (w : World) (hz : z ≤ 8160) (hk : key.size ≤ 288230376151711744) (hi : info.size ≤ 72057594037927936) :
    Calls Tryd.prog 12 #[.int .i64 256, .string key, .string info, .int .i64 z] w fun e w' => e = .returned (.tuple #[.string ((outS 256 key info (upTo 32 z)).extract 0 z), .int .i64 0]) ∧ Below w.heap.size w w' := by
  have m0 : may 256 = true := rfl
  have z1 : ¬ (z : Int) < 0 := by omega
  have z2 : ¬ (8160 : Int) < (z : Int) := by omega
  go_enter Tryd.func12, Tryd.ntmps12
  go_wp2_with (fail)
  refine (may_any 256 _).mono ?_
  rintro e u ⟨rfl, rfl⟩
  rw [m0]
  go_wp2_with (fail)
  clear m0 z1 z2
  go_loopw [10, 11, 12] (fun out last i wx => ∃ (n : Nat) (O L : ByteArray), (n = 0 ∨ 32 * n < z + 32) ∧ i = .int .i64 ((n : Int) + 1) ∧ out = .string O ∧ last = .string L ∧ Hid (O = outS 256 key info n) ∧ Hid (L = lastS 256 key info n) ∧ O.size = 32 * n ∧ L.size ≤ 48 ∧ Below w.heap.size w wx) (fun _ _ i _ => z + 1 - (intOf i).toNat)
  case atStart => exact ⟨0, ⟨#[]⟩, ⟨#[]⟩, Or.inl rfl, rfl, rfl, rfl, rfl, rfl, rfl, by decide, Below.refl _ _⟩
  case round =>
    obtain ⟨n, O, L, hn, rfl, rfl, rfl, HO, HL, hO, hL, hbl⟩ := hrel
    by_cases hlt : 32 * n < z
    · have o1 : ((O.size : Nat) : Int) < z := by omega
      have n1 : n ≤ 254 := by omega
      go_wp2_with (fail)
      rw [conv1]
      have q1 : (strOfNums [(n : Int) + 1]).size = 1 := by simp [strOfNums_size]
      have q2 : ¬ 9223372036854775807 < L.size + info.size + 1 := by omega
      go_wp2_with (fail)
      refine (mac_any 256 key (L ++ info ++ strOfNums [(n : Int) + 1]) _ hk (by rw [ByteArray.size_append, ByteArray.size_append, q1]; omega)).mono ?_
      rintro e u ⟨rfl, hbu⟩
      have q3 : (macS 256 key (L ++ info ++ strOfNums [(n : Int) + 1])).size = 32 := macS_size 256 _ _ rfl
      have HM : Hid (macS 256 key (L ++ info ++ strOfNums [(n : Int) + 1]) = lastS 256 key info (n + 1)) := by rw [HL.out]; rfl
      generalize macS 256 key (L ++ info ++ strOfNums [(n : Int) + 1]) = T at q3 HM ⊢
      go_wp2_with (fail)
      go_roundw
      case rel =>
        refine ⟨n + 1, O ++ T, T, Or.inr (by omega), by go_num, rfl, rfl, ?_, HM, by rw [ByteArray.size_append, q3, hO]; omega, by omega, ?_⟩
        · show O ++ T = outS 256 key info n ++ lastS 256 key info (n + 1)
          rw [HO.out, HM.out]
        · exact (hbl.alloc hbl.size _).trans (hbu.mono (by have := hbl.size; simp; omega))
      case measure => simp [intOf]; omega
    · have o1 : ¬ ((O.size : Nat) : Int) < z := by omega
      have HN : Hid (upTo 32 z = n) := by show (z + 32 - 1) / 32 = n; omega
      go_wp2_with (fail)
      go_ret2
      refine ⟨?_, hbl⟩
      rw [HN.out, ← HO.out]
      rfl
set_option maxHeartbeats 1000000 in
set_option maxRecDepth 100000 in
theorem rexpand_384 (key info : ByteArray) (z : Nat) (w : World) (hz : z ≤ 12240) (hk : key.size ≤ 288230376151711744) (hi : info.size ≤ 72057594037927936) :
    Calls Tryd.prog 12 #[.int .i64 384, .string key, .string info, .int .i64 z] w fun e w' => e = .returned (.tuple #[.string ((outS 384 key info (upTo 48 z)).extract 0 z), .int .i64 0]) ∧ Below w.heap.size w w' := by
  have m0 : may 384 = true := rfl
  have z1 : ¬ (z : Int) < 0 := by omega
  have z2 : ¬ (12240 : Int) < (z : Int) := by omega
  go_enter Tryd.func12, Tryd.ntmps12
  go_wp2_with (fail)
  refine (may_any 384 _).mono ?_
  rintro e u ⟨rfl, rfl⟩
  rw [m0]
  go_wp2_with (fail)
  clear m0 z1 z2
  go_loopw [10, 11, 12] (fun out last i wx => ∃ (n : Nat) (O L : ByteArray), (n = 0 ∨ 48 * n < z + 48) ∧ i = .int .i64 ((n : Int) + 1) ∧ out = .string O ∧ last = .string L ∧ Hid (O = outS 384 key info n) ∧ Hid (L = lastS 384 key info n) ∧ O.size = 48 * n ∧ L.size ≤ 48 ∧ Below w.heap.size w wx) (fun _ _ i _ => z + 1 - (intOf i).toNat)
  case atStart => exact ⟨0, ⟨#[]⟩, ⟨#[]⟩, Or.inl rfl, rfl, rfl, rfl, rfl, rfl, rfl, by decide, Below.refl _ _⟩
  case round =>
    obtain ⟨n, O, L, hn, rfl, rfl, rfl, HO, HL, hO, hL, hbl⟩ := hrel
    by_cases hlt : 48 * n < z
    · have o1 : ((O.size : Nat) : Int) < z := by omega
      have n1 : n ≤ 254 := by omega
      go_wp2_with (fail)
      rw [conv1]
      have q1 : (strOfNums [(n : Int) + 1]).size = 1 := by simp [strOfNums_size]
      have q2 : ¬ 9223372036854775807 < L.size + info.size + 1 := by omega
      go_wp2_with (fail)
      refine (mac_any 384 key (L ++ info ++ strOfNums [(n : Int) + 1]) _ hk (by rw [ByteArray.size_append, ByteArray.size_append, q1]; omega)).mono ?_
      rintro e u ⟨rfl, hbu⟩
      have q3 : (macS 384 key (L ++ info ++ strOfNums [(n : Int) + 1])).size = 48 := macS_size 384 _ _ rfl
      have HM : Hid (macS 384 key (L ++ info ++ strOfNums [(n : Int) + 1]) = lastS 384 key info (n + 1)) := by rw [HL.out]; rfl
      generalize macS 384 key (L ++ info ++ strOfNums [(n : Int) + 1]) = T at q3 HM ⊢
      go_wp2_with (fail)
      go_roundw
      case rel =>
        refine ⟨n + 1, O ++ T, T, Or.inr (by omega), by go_num, rfl, rfl, ?_, HM, by rw [ByteArray.size_append, q3, hO]; omega, by omega, ?_⟩
        · show O ++ T = outS 384 key info n ++ lastS 384 key info (n + 1)
          rw [HO.out, HM.out]
        · exact (hbl.alloc hbl.size _).trans (hbu.mono (by have := hbl.size; simp; omega))
      case measure => simp [intOf]; omega
    · have o1 : ¬ ((O.size : Nat) : Int) < z := by omega
      have HN : Hid (upTo 48 z = n) := by show (z + 48 - 1) / 48 = n; omega
      go_wp2_with (fail)
      go_ret2
      refine ⟨?_, hbl⟩
      rw [HN.out, ← HO.out]
      rfl
end Go.Proofs.Hk
