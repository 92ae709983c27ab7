/-
  The developers' chacha: turns, words, a quarter of a round.
-/
import Derived.Test.YtljhenjbjondkaaJoag
namespace Go.Proofs.Cd
open Go.RowKit
open Go.Proofs.Cha
open Go.Proofs.Aes (byt byt_lt get_byt)
theorem rotl_16 (x : Nat) (w : World) (hx : x < 4294967296) :
    Calls Try.prog 66 #[.int .u32 x, .int .i64 16] w fun e w' => e = .returned (.int .u32 (rol 16 x : Nat)) ∧ w' = w := by
  have hb : bits .and .u64 16 31 = 16 := by decide
  go_enter Try.func66, Try.ntmps66
  go_wp2
  go_ret
  refine ⟨retI ?_, rfl⟩
  have h := u32_or_nat (x * 65536 % 4294967296) (x / 65536) (by omega) (by omega)
  rw [show ((x / 65536 : Nat) : Int) = (x : Int) / 65536 by omega, show ((x * 65536 % 4294967296 : Nat) : Int) = (x : Int) * 65536 % 4294967296 by omega] at h
  exact h
theorem rotl_12 (x : Nat) (w : World) (hx : x < 4294967296) :
    Calls Try.prog 66 #[.int .u32 x, .int .i64 12] w fun e w' => e = .returned (.int .u32 (rol 12 x : Nat)) ∧ w' = w := by
  have hb : bits .and .u64 12 31 = 12 := by decide
  go_enter Try.func66, Try.ntmps66
  go_wp2
  go_ret
  refine ⟨retI ?_, rfl⟩
  have h := u32_or_nat (x * 4096 % 4294967296) (x / 1048576) (by omega) (by omega)
  rw [show ((x / 1048576 : Nat) : Int) = (x : Int) / 1048576 by omega, show ((x * 4096 % 4294967296 : Nat) : Int) = (x : Int) * 4096 % 4294967296 by omega] at h
  exact h
theorem rotl_8 (x : Nat) (w : World) (hx : x < 4294967296) :
    Calls Try.prog 66 #[.int .u32 x, .int .i64 8] w fun e w' => e = .returned (.int .u32 (rol 8 x : Nat)) ∧ w' = w := by
  have hb : bits .and .u64 8 31 = 8 := by decide
  go_enter Try.func66, Try.ntmps66
  go_wp2
  go_ret
  refine ⟨retI ?_, rfl⟩
  have h := u32_or_nat (x * 256 % 4294967296) (x / 16777216) (by omega) (by omega)
  rw [show ((x / 16777216 : Nat) : Int) = (x : Int) / 16777216 by omega, show ((x * 256 % 4294967296 : Nat) : Int) = (x : Int) * 256 % 4294967296 by omega] at h
  exact h
theorem rotl_7 (x : Nat) (w : World) (hx : x < 4294967296) :
    Calls Try.prog 66 #[.int .u32 x, .int .i64 7] w fun e w' => e = .returned (.int .u32 (rol 7 x : Nat)) ∧ w' = w := by
  have hb : bits .and .u64 7 31 = 7 := by decide
  go_enter Try.func66, Try.ntmps66
  go_wp2
  go_ret
  refine ⟨retI ?_, rfl⟩
  have h := u32_or_nat (x * 128 % 4294967296) (x / 33554432) (by omega) (by omega)
  rw [show ((x / 33554432 : Nat) : Int) = (x : Int) / 33554432 by omega, show ((x * 128 % 4294967296 : Nat) : Int) = (x : Int) * 128 % 4294967296 by omega] at h
  exact h
set_option maxHeartbeats 1000000 in
theorem word_any (s : ByteArray) (i : Nat) (w : World) (hi : 4 * i + 4 ≤ s.size) (hs : s.size ≤ 1000) :
    Calls Try.prog 75 #[.string s, .int .i64 i] w fun e w' => e = .returned (.int .u32 (leN s (4 * i) : Nat)) ∧ ∃ n, w' = w.drewN n := by
  have l0 : 4 * (i : Int) < (s.size : Int) := by omega
  have p0 : (0 : Int) ≤ 4 * (i : Int) := by omega
  have t0 : (4 * (i : Int)).toNat = 4 * i := by omega
  have w0 : IntKind.i64.wrap (4 * (i : Int)) = 4 * (i : Int) := IntWalk.i64_in _ (by omega)
  have v0 : ∀ h : 4 * i < s.size, (s[4 * i]'h).toNat = byt s (4 * i) := fun h => get_byt s _ h
  have l1 : 4 * (i : Int) + 1 < (s.size : Int) := by omega
  have p1 : (0 : Int) ≤ 4 * (i : Int) + 1 := by omega
  have t1 : (4 * (i : Int) + 1).toNat = 4 * i + 1 := by omega
  have w1 : IntKind.i64.wrap (4 * (i : Int) + 1) = 4 * (i : Int) + 1 := IntWalk.i64_in _ (by omega)
  have v1 : ∀ h : 4 * i + 1 < s.size, (s[4 * i + 1]'h).toNat = byt s (4 * i + 1) := fun h => get_byt s _ h
  have l2 : 4 * (i : Int) + 2 < (s.size : Int) := by omega
  have p2 : (0 : Int) ≤ 4 * (i : Int) + 2 := by omega
  have t2 : (4 * (i : Int) + 2).toNat = 4 * i + 2 := by omega
  have w2 : IntKind.i64.wrap (4 * (i : Int) + 2) = 4 * (i : Int) + 2 := IntWalk.i64_in _ (by omega)
  have v2 : ∀ h : 4 * i + 2 < s.size, (s[4 * i + 2]'h).toNat = byt s (4 * i + 2) := fun h => get_byt s _ h
  have l3 : 4 * (i : Int) + 3 < (s.size : Int) := by omega
  have p3 : (0 : Int) ≤ 4 * (i : Int) + 3 := by omega
  have t3 : (4 * (i : Int) + 3).toNat = 4 * i + 3 := by omega
  have w3 : IntKind.i64.wrap (4 * (i : Int) + 3) = 4 * (i : Int) + 3 := IntWalk.i64_in _ (by omega)
  have v3 : ∀ h : 4 * i + 3 < s.size, (s[4 * i + 3]'h).toNat = byt s (4 * i + 3) := fun h => get_byt s _ h
  go_enter Try.func75, Try.ntmps75
  go_wp2
  go_quiet (fail)
  go_wp2
  go_ret
  refine ⟨retI ?_, nq, rfl⟩
  exact le_bits _ _ _ _ (byt_lt s (4 * i)) (byt_lt s (4 * i + 1)) (byt_lt s (4 * i + 2)) (byt_lt s (4 * i + 3))
/-- A quarter's words, one behind the other. -/
def qA1 (a b : Nat) : Nat := add32 a b
def qD1 (a b d : Nat) : Nat := rol 16 (d ^^^ qA1 a b)
def qC1 (a b c d : Nat) : Nat := add32 c (qD1 a b d)
def qB1 (a b c d : Nat) : Nat := rol 12 (b ^^^ qC1 a b c d)
def qA (a b c d : Nat) : Nat := add32 (qA1 a b) (qB1 a b c d)
def qD (a b c d : Nat) : Nat := rol 8 (qD1 a b d ^^^ qA a b c d)
def qC (a b c d : Nat) : Nat := add32 (qC1 a b c d) (qD a b c d)
def qB (a b c d : Nat) : Nat := rol 7 (qB1 a b c d ^^^ qC a b c d)
theorem add32_lt (a b : Nat) : add32 a b < 4294967296 := Nat.mod_lt _ (by decide)
theorem add32_int (a b : Nat) : ((a : Int) + (b : Int)) % 4294967296 = ((add32 a b : Nat) : Int) := by unfold add32; omega
theorem quart_four (X : Nat → Nat) (a b c d : Nat) (h1 : a ≠ b) (h2 : a ≠ c) (h3 : a ≠ d) (h4 : b ≠ c) (h5 : b ≠ d) (h6 : c ≠ d) :
    put (put (put (put X a (qA (X a) (X b) (X c) (X d))) b (qB (X a) (X b) (X c) (X d))) c (qC (X a) (X b) (X c) (X d))) d (qD (X a) (X b) (X c) (X d)) = quart X a b c d := by
  have h1' := h1.symm; have h2' := h2.symm; have h3' := h3.symm; have h4' := h4.symm; have h5' := h5.symm; have h6' := h6.symm
  funext t
  unfold quart q1 q2
  by_cases ta : t = a
  · subst ta; simp [put, qA, qA1, qB1, qC1, qD1, *]
  · by_cases tb : t = b
    · subst tb; simp [put, qB, qC, qD, qA, qA1, qB1, qC1, qD1, *]
    · by_cases tc : t = c
      · subst tc; simp [put, qC, qD, qA, qA1, qB1, qC1, qD1, *]
      · by_cases td : t = d
        · subst td; simp [put, qD, qA, qA1, qB1, qC1, qD1, *]
        · simp [put, ta, tb, tc, td]
set_option maxHeartbeats 1000000 in
theorem quarter_any (a b c d : Nat) (w : World) (hb : b < 4294967296) (hd : d < 4294967296) :
    Calls Try.prog 79 #[.int .u32 a, .int .u32 b, .int .u32 c, .int .u32 d] w fun e w' => e = .returned (.tuple #[.int .u32 (qA a b c d : Nat), .int .u32 (qB a b c d : Nat), .int .u32 (qC a b c d : Nat), .int .u32 (qD a b c d : Nat)]) ∧ w' = w := by
  have s1 := add32_int a b
  obtain ⟨a1, e1⟩ : ∃ x, x = add32 a b := ⟨_, rfl⟩
  rw [← e1] at s1
  have L1 : Hid (a1 < 4294967296) := by rw [e1]; exact add32_lt _ _
  have o2 := u32_xor_nat d a1 hd L1.out
  obtain ⟨x2, e2⟩ : ∃ x, x = d ^^^ a1 := ⟨_, rfl⟩
  rw [← e2] at o2
  have X2 : Hid (x2 < 4294967296) := by rw [e2]; exact xor32_lt hd L1.out
  obtain ⟨d1, e3⟩ : ∃ x, x = rol 16 x2 := ⟨_, rfl⟩
  have L3 : Hid (d1 < 4294967296) := by rw [e3]; exact rol_lt _ _ X2.out
  have s4 := add32_int c d1
  obtain ⟨c1, e4⟩ : ∃ x, x = add32 c d1 := ⟨_, rfl⟩
  rw [← e4] at s4
  have L4 : Hid (c1 < 4294967296) := by rw [e4]; exact add32_lt _ _
  have o5 := u32_xor_nat b c1 hb L4.out
  obtain ⟨x5, e5⟩ : ∃ x, x = b ^^^ c1 := ⟨_, rfl⟩
  rw [← e5] at o5
  have X5 : Hid (x5 < 4294967296) := by rw [e5]; exact xor32_lt hb L4.out
  obtain ⟨b1, e6⟩ : ∃ x, x = rol 12 x5 := ⟨_, rfl⟩
  have L6 : Hid (b1 < 4294967296) := by rw [e6]; exact rol_lt _ _ X5.out
  have s7 := add32_int a1 b1
  obtain ⟨a2, e7⟩ : ∃ x, x = add32 a1 b1 := ⟨_, rfl⟩
  rw [← e7] at s7
  have L7 : Hid (a2 < 4294967296) := by rw [e7]; exact add32_lt _ _
  have o8 := u32_xor_nat d1 a2 L3.out L7.out
  obtain ⟨x8, e8⟩ : ∃ x, x = d1 ^^^ a2 := ⟨_, rfl⟩
  rw [← e8] at o8
  have X8 : Hid (x8 < 4294967296) := by rw [e8]; exact xor32_lt L3.out L7.out
  obtain ⟨d2, e9⟩ : ∃ x, x = rol 8 x8 := ⟨_, rfl⟩
  have L9 : Hid (d2 < 4294967296) := by rw [e9]; exact rol_lt _ _ X8.out
  have s10 := add32_int c1 d2
  obtain ⟨c2, e10⟩ : ∃ x, x = add32 c1 d2 := ⟨_, rfl⟩
  rw [← e10] at s10
  have L10 : Hid (c2 < 4294967296) := by rw [e10]; exact add32_lt _ _
  have o11 := u32_xor_nat b1 c2 L6.out L10.out
  obtain ⟨x11, e11⟩ : ∃ x, x = b1 ^^^ c2 := ⟨_, rfl⟩
  rw [← e11] at o11
  have X11 : Hid (x11 < 4294967296) := by rw [e11]; exact xor32_lt L6.out L10.out
  have EA : Hid (qA a b c d = a2) := by show _ = _; rw [e7, e6, e5, e4, e3, e2, e1]; rfl
  have EB : Hid (qB a b c d = rol 7 x11) := by show _ = _; rw [e11, e10, e9, e8, e7, e6, e5, e4, e3, e2, e1]; rfl
  have EC : Hid (qC a b c d = c2) := by show _ = _; rw [e10, e9, e8, e7, e6, e5, e4, e3, e2, e1]; rfl
  have ED : Hid (qD a b c d = d2) := by show _ = _; rw [e9, e8, e7, e6, e5, e4, e3, e2, e1]; rfl
  rw [EA.out, EB.out, EC.out, ED.out]
  clear e1 e2 e4 e5 e7 e8 e10 e11 EA EB EC ED hb hd
  have E3 := Lib.hid e3
  have E6 := Lib.hid e6
  have E9 := Lib.hid e9
  clear e3 e6 e9
  go_enter Try.func79, Try.ntmps79
  go_wp2_with (first
    | (go_at_call_of 66 (Value.int IntKind.i64 16); refine (rotl_16 x2 _ X2.out).mono ?_; rintro e u ⟨rfl, rfl⟩; rw [← E3.out])
    | (go_at_call_of 66 (Value.int IntKind.i64 12); refine (rotl_12 x5 _ X5.out).mono ?_; rintro e u ⟨rfl, rfl⟩; rw [← E6.out])
    | (go_at_call_of 66 (Value.int IntKind.i64 8); refine (rotl_8 x8 _ X8.out).mono ?_; rintro e u ⟨rfl, rfl⟩; rw [← E9.out])
    | (go_at_call_of 66 (Value.int IntKind.i64 7); refine (rotl_7 x11 _ X11.out).mono ?_; rintro e u ⟨rfl, rfl⟩))
  exact bodyPost_ret (v := .tuple #[.int .u32 (a2 : Nat), .int .u32 (rol 7 x11 : Nat), .int .u32 (c2 : Nat), .int .u32 (d2 : Nat)]) (by simp [results, Try.results79, go_sem]) rfl ⟨rfl, rfl⟩
end Go.Proofs.Cd
