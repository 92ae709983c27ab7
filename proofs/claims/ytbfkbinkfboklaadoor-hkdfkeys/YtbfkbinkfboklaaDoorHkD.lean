/-
  The document's own answer: Expand at every input, Be of 1 and 2 bytes, V, Label.
-/
import Derived.Test.YtbfkbinkfboklaaDoorHkC
namespace Go.Proofs.Hk
open Go.RowKit Go.Proofs.Be Go.Proofs.Sha
set_option maxHeartbeats 400000 in
theorem rexpand_nobits (b z : Int) (key info : ByteArray) (w : World) (hm : may b = false) :
    Calls Tryd.prog 12 #[.int .i64 b, .string key, .string info, .int .i64 z] w fun e w' => e = .returned (.tuple #[.string ⟨#[]⟩, .int .i64 300]) ∧ Below w.heap.size w w' := by
  go_enter Tryd.func12, Tryd.ntmps12
  go_wp2_with (fail)
  refine (may_any b _).mono ?_
  rintro e u ⟨rfl, rfl⟩
  rw [hm]
  go_wp2_with (fail)
  go_ret2
  exact ⟨rfl, Below.refl _ _⟩
set_option maxHeartbeats 400000 in
theorem rexpand_256_neg (z : Int) (key info : ByteArray) (w : World) (hz : z < 0) :
    Calls Tryd.prog 12 #[.int .i64 256, .string key, .string info, .int .i64 z] w fun e w' => e = .returned (.tuple #[.string ⟨#[]⟩, .int .i64 300]) ∧ Below w.heap.size w w' := by
  have m0 : may 256 = true := rfl
  go_enter Tryd.func12, Tryd.ntmps12
  go_wp2_with (fail)
  refine (may_any 256 _).mono ?_
  rintro e u ⟨rfl, rfl⟩
  rw [m0]
  go_wp2_with (fail)
  go_ret2
  exact ⟨rfl, Below.refl _ _⟩
set_option maxHeartbeats 400000 in
theorem rexpand_256_great (z : Int) (key info : ByteArray) (w : World) (hz : 8160 < z) :
    Calls Tryd.prog 12 #[.int .i64 256, .string key, .string info, .int .i64 z] w fun e w' => e = .returned (.tuple #[.string ⟨#[]⟩, .int .i64 300]) ∧ Below w.heap.size w w' := by
  have m0 : may 256 = true := rfl
  go_enter Tryd.func12, Tryd.ntmps12
  go_wp2_with (fail)
  refine (may_any 256 _).mono ?_
  rintro e u ⟨rfl, rfl⟩
  rw [m0]
  go_wp2_with (fail)
  go_ret2
  exact ⟨rfl, Below.refl _ _⟩
set_option maxHeartbeats 400000 in
theorem rexpand_384_neg (z : Int) (key info : ByteArray) (w : World) (hz : z < 0) :
    Calls Tryd.prog 12 #[.int .i64 384, .string key, .string info, .int .i64 z] w fun e w' => e = .returned (.tuple #[.string ⟨#[]⟩, .int .i64 300]) ∧ Below w.heap.size w w' := by
  have m0 : may 384 = true := rfl
  go_enter Tryd.func12, Tryd.ntmps12
  go_wp2_with (fail)
  refine (may_any 384 _).mono ?_
  rintro e u ⟨rfl, rfl⟩
  rw [m0]
  go_wp2_with (fail)
  go_ret2
  exact ⟨rfl, Below.refl _ _⟩
set_option maxHeartbeats 400000 in
theorem rexpand_384_great (z : Int) (key info : ByteArray) (w : World) (hz : 12240 < z) :
    Calls Tryd.prog 12 #[.int .i64 384, .string key, .string info, .int .i64 z] w fun e w' => e = .returned (.tuple #[.string ⟨#[]⟩, .int .i64 300]) ∧ Below w.heap.size w w' := by
  have m0 : may 384 = true := rfl
  go_enter Tryd.func12, Tryd.ntmps12
  go_wp2_with (fail)
  refine (may_any 384 _).mono ?_
  rintro e u ⟨rfl, rfl⟩
  rw [m0]
  go_wp2_with (fail)
  go_ret2
  exact ⟨rfl, Below.refl _ _⟩
theorem rexpand_any (b z : Int) (key info : ByteArray) (w : World) (hk : key.size ≤ 288230376151711744) (hi : info.size ≤ 72057594037927936) :
    Calls Tryd.prog 12 #[.int .i64 b, .string key, .string info, .int .i64 z] w fun e w' => e = .returned (.tuple #[.string (expS b key info z), .int .i64 (expE b z)]) ∧ Below w.heap.size w w' := by
  cases hm : may b
  · rw [show expS b key info z = ⟨#[]⟩ by simp [expS, mayE, hm], show expE b z = 300 by simp [expE, mayE, hm]]
    exact rexpand_nobits b z key info w hm
  · rcases (of_decide_eq_true hm : b = 256 ∨ b = 384) with rfl | rfl
    · by_cases h1 : z < 0
      · have hd : mayE 256 z = false := by
          show (true && (decide (0 ≤ z) && decide (z ≤ 8160))) = false
          simp; omega
        rw [show expS 256 key info z = ⟨#[]⟩ by unfold expS; rw [hd]; rfl, show expE 256 z = 300 by unfold expE; rw [hd]; rfl]
        exact rexpand_256_neg z key info w h1
      · by_cases h2 : 8160 < z
        · have hd : mayE 256 z = false := by
            show (true && (decide (0 ≤ z) && decide (z ≤ 8160))) = false
            simp; omega
          rw [show expS 256 key info z = ⟨#[]⟩ by unfold expS; rw [hd]; rfl, show expE 256 z = 300 by unfold expE; rw [hd]; rfl]
          exact rexpand_256_great z key info w h2
        · obtain ⟨n, rfl⟩ := Int.eq_ofNat_of_zero_le (Int.not_lt.mp h1)
          have hd : mayE 256 (n : Int) = true := by
            show (true && (decide (0 ≤ (n : Int)) && decide ((n : Int) ≤ 8160))) = true
            simp; omega
          rw [show expS 256 key info (n : Int) = (outS 256 key info (upTo 32 n)).extract 0 n by unfold expS; rw [hd]; rfl, show expE 256 (n : Int) = 0 by unfold expE; rw [hd]; rfl]
          exact rexpand_256 key info n w (by omega) hk hi
    · by_cases h1 : z < 0
      · have hd : mayE 384 z = false := by
          show (true && (decide (0 ≤ z) && decide (z ≤ 12240))) = false
          simp; omega
        rw [show expS 384 key info z = ⟨#[]⟩ by unfold expS; rw [hd]; rfl, show expE 384 z = 300 by unfold expE; rw [hd]; rfl]
        exact rexpand_384_neg z key info w h1
      · by_cases h2 : 12240 < z
        · have hd : mayE 384 z = false := by
            show (true && (decide (0 ≤ z) && decide (z ≤ 12240))) = false
            simp; omega
          rw [show expS 384 key info z = ⟨#[]⟩ by unfold expS; rw [hd]; rfl, show expE 384 z = 300 by unfold expE; rw [hd]; rfl]
          exact rexpand_384_great z key info w h2
        · obtain ⟨n, rfl⟩ := Int.eq_ofNat_of_zero_le (Int.not_lt.mp h1)
          have hd : mayE 384 (n : Int) = true := by
            show (true && (decide (0 ≤ (n : Int)) && decide ((n : Int) ≤ 12240))) = true
            simp; omega
          rw [show expS 384 key info (n : Int) = (outS 384 key info (upTo 48 n)).extract 0 n by unfold expS; rw [hd]; rfl, show expE 384 (n : Int) = 0 by unfold expE; rw [hd]; rfl]
          exact rexpand_384 key info n w (by omega) hk hi

theorem beS1 (x : Nat) : strOfNums [(x : Int) % 256] = beS x 1 := by
  simp only [strOfNums, beS, beL, List.map, List.nil_append]
  rw [show ((x : Int) % 256).toNat = x % 256 by omega]
theorem beS2 (x : Nat) : strOfNums [(x : Int) / 256 % 256, (x : Int) % 256] = beS x 2 := by
  simp only [strOfNums, beS, beL, List.map, List.nil_append, List.cons_append]
  rw [show ((x : Int) / 256 % 256).toNat = x / 256 % 256 by omega, show ((x : Int) % 256).toNat = x % 256 by omega]
theorem makeN1 (w : World) : (Instr.makeSlice 35 (.int .i64 1) (.int .i64 1)).run Tryd.prog w = .ok (.slice (some ⟨w.heap.size, 0, none⟩) 1 1) (w.alloc (.cells #[.int .u8 0] 5)) := by kernel_rfl
theorem makeN2 (w : World) : (Instr.makeSlice 35 (.int .i64 2) (.int .i64 2)).run Tryd.prog w = .ok (.slice (some ⟨w.heap.size, 0, none⟩) 2 2) (w.alloc (.cells #[.int .u8 0, .int .u8 0] 5)) := by kernel_rfl
theorem lt1 {P : Nat → Prop} (h0 : P 0) (i : Nat) (hi : i < 1) : P i := by
  match i, hi with
  | 0, _ => exact h0
theorem lt2 {P : Nat → Prop} (h0 : P 0) (h1 : P 1) (i : Nat) (hi : i < 2) : P i := by
  match i, hi with
  | 0, _ => exact h0
  | 1, _ => exact h1
set_option maxHeartbeats 2000000 in
set_option maxRecDepth 100000 in
theorem be_1 (x : Nat) (w : World) (hx : x < 4611686018427387904) :
    Calls Tryd.prog 25 #[.int .i64 x, .int .i64 1] w fun e w' => e = .returned (.string (beS x 1)) ∧ Below w.heap.size w w' := by
  have hmk := makeN1
  have b0 : (x : Int) < 4611686018427387904 := by omega
  go_enter Tryd.func25, Tryd.ntmps25
  go_wp2
  go_rounds 2
  rw [run_convert_bytes_arg (P := Tryd.prog) _ 35 5 Tryd.underlying35 Tryd.underlying5 w.heap.size 0 1 1 [bits .and .i64 ((x : Int)) 255 % 256] rfl (lt1 (by simp [go_sem])) 9 Tryd.underlying9]
  go_wp2
  go_ret
  refine ⟨retS ?_, Below.alloc (Below.refl _ _) (Nat.le_refl _) _⟩
  rw [and255i ((x : Int)) (by omega) (by omega)]
  exact beS1 x
set_option maxHeartbeats 2000000 in
set_option maxRecDepth 100000 in
theorem be_2 (x : Nat) (w : World) (hx : x < 4611686018427387904) :
    Calls Tryd.prog 25 #[.int .i64 x, .int .i64 2] w fun e w' => e = .returned (.string (beS x 2)) ∧ Below w.heap.size w w' := by
  have hmk := makeN2
  have b0 : (x : Int) < 4611686018427387904 := by omega
  go_enter Tryd.func25, Tryd.ntmps25
  go_wp2
  go_rounds 3
  rw [run_convert_bytes_arg (P := Tryd.prog) _ 35 5 Tryd.underlying35 Tryd.underlying5 w.heap.size 0 2 2 [bits .and .i64 ((x : Int) / 256) 255 % 256, bits .and .i64 ((x : Int)) 255 % 256] rfl (lt2 (by simp [go_sem]) (by simp [go_sem])) 9 Tryd.underlying9]
  go_wp2
  go_ret
  refine ⟨retS ?_, Below.alloc (Below.refl _ _) (Nat.le_refl _) _⟩
  rw [and255i ((x : Int) / 256) (by omega) (by omega), and255i ((x : Int)) (by omega) (by omega)]
  exact beS2 x
def vS (s : ByteArray) (k : Nat) : ByteArray := beS s.size k ++ s
theorem vS_size (s : ByteArray) (k : Nat) : (vS s k).size = k + s.size := by unfold vS; rw [ByteArray.size_append, beS_size]
set_option maxHeartbeats 400000 in
theorem rv_1 (s : ByteArray) (w : World) (hs : s.size ≤ 288230376151711744) :
    Calls Tryd.prog 26 #[.string s, .int .i64 1] w fun e w' => e = .returned (.string (vS s 1)) ∧ Below w.heap.size w w' := by
  have z1 := beS_size s.size 1
  go_enter Tryd.func26, Tryd.ntmps26
  go_wp2_with (fail)
  refine (be_1 s.size _ (by omega)).mono ?_
  rintro e u ⟨rfl, hb⟩
  go_wp2_with (fail)
  go_ret
  exact ⟨rfl, hb⟩
/-- "tls13 " -/
def tls13 : ByteArray := ⟨#[116, 108, 115, 49, 51, 32]⟩
def infoS (label context : ByteArray) (z : Nat) : ByteArray := beS z 2 ++ vS (tls13 ++ label) 1 ++ vS context 1
theorem infoS_size (label context : ByteArray) (z : Nat) : (infoS label context z).size = 10 + label.size + context.size := by
  unfold infoS; rw [ByteArray.size_append, ByteArray.size_append, vS_size, vS_size, beS_size, ByteArray.size_append, show tls13.size = 6 from rfl]; omega
def mayL (label context : ByteArray) (z : Int) : Bool := decide (label.size ≤ 249) && (decide (context.size ≤ 255) && (decide (0 ≤ z) && decide (z ≤ 65535)))
def labS (b : Int) (key label context : ByteArray) (z : Int) : ByteArray := bif mayL label context z then expS b key (infoS label context z.toNat) z else ⟨#[]⟩
def labE (b : Int) (label context : ByteArray) (z : Int) : Int := bif mayL label context z then expE b z else 300
set_option maxHeartbeats 1000000 in
theorem rlabel_none (b z : Int) (key label context : ByteArray) (w : World) (hl : label.size ≤ 288230376151711744) (hc : context.size ≤ 288230376151711744) (h : 249 < label.size ∨ 255 < context.size ∨ z < 0 ∨ 65535 < z) :
    Calls Tryd.prog 14 #[.int .i64 b, .string key, .string label, .string context, .int .i64 z] w fun e w' => e = .returned (.tuple #[.string ⟨#[]⟩, .int .i64 300]) ∧ Below w.heap.size w w' := by
  have g : (decide ((249 : Int) < label.size) || (decide ((255 : Int) < context.size) || (decide (z < 0) || decide (65535 < z)))) = true := by simp; omega
  clear h
  generalize h1 : decide ((249 : Int) < label.size) = c1 at g
  generalize h2 : decide ((255 : Int) < context.size) = c2 at g
  generalize h3 : decide (z < 0) = c3 at g
  generalize h4 : decide ((65535 : Int) < z) = c4 at g
  cases c1
  · cases c2
    · cases c3
      · cases c4
        · cases g
        · go_enter Tryd.func14, Tryd.ntmps14
          go_wp2_with (fail)
          go_ret2
          exact ⟨rfl, Below.refl _ _⟩
      · go_enter Tryd.func14, Tryd.ntmps14
        go_wp2_with (fail)
        go_ret2
        exact ⟨rfl, Below.refl _ _⟩
    · go_enter Tryd.func14, Tryd.ntmps14
      go_wp2_with (fail)
      go_ret2
      exact ⟨rfl, Below.refl _ _⟩
  · go_enter Tryd.func14, Tryd.ntmps14
    go_wp2_with (fail)
    go_ret2
    exact ⟨rfl, Below.refl _ _⟩
set_option maxHeartbeats 1000000 in
theorem rlabel_ok (b : Int) (z : Nat) (key label context : ByteArray) (w : World) (hk : key.size ≤ 288230376151711744) (hl : label.size ≤ 249) (hc : context.size ≤ 255) (hz : z ≤ 65535) :
    Calls Tryd.prog 14 #[.int .i64 b, .string key, .string label, .string context, .int .i64 z] w fun e w' => e = .returned (.tuple #[.string (expS b key (infoS label context z) z), .int .i64 (expE b z)]) ∧ Below w.heap.size w w' := by
  have h1 : ¬ (249 : Int) < label.size := by omega
  have h2 : ¬ (255 : Int) < context.size := by omega
  have h3 : ¬ (z : Int) < 0 := by omega
  have h4 : ¬ (65535 : Int) < z := by omega
  have t6 : (⟨#[116, 108, 115, 49, 51, 32]⟩ : ByteArray).size = 6 := rfl
  have zi := infoS_size label context z
  have y1 := beS_size z 2
  have y2 : (vS (tls13 ++ label) 1).size = 7 + label.size := by rw [vS_size, ByteArray.size_append, show tls13.size = 6 from rfl]; omega
  have y3 := vS_size context 1
  go_enter Tryd.func14, Tryd.ntmps14
  go_wp2_with (fail)
  refine (be_2 z _ (by omega)).mono ?_
  rintro e u1 ⟨rfl, hb1⟩
  go_wp2_with (fail)
  refine (rv_1 (tls13 ++ label) _ (by rw [ByteArray.size_append, show tls13.size = 6 from rfl]; omega)).mono ?_
  rintro e u2 ⟨rfl, hb2⟩
  go_wp2_with (fail)
  refine (rv_1 context _ (by omega)).mono ?_
  rintro e u3 ⟨rfl, hb3⟩
  go_wp2_with (fail)
  refine (rexpand_any b z key (infoS label context z) _ hk (by omega)).mono ?_
  rintro e u4 ⟨rfl, hb4⟩
  go_wp2_with (fail)
  go_ret2
  have c2 := hb1.trans (hb2.mono hb1.size)
  have c3 := c2.trans (hb3.mono c2.size)
  exact ⟨rfl, c3.trans (hb4.mono c3.size)⟩
theorem rlabel_any (b z : Int) (key label context : ByteArray) (w : World) (hk : key.size ≤ 288230376151711744) (hl : label.size ≤ 288230376151711744) (hc : context.size ≤ 288230376151711744) :
    Calls Tryd.prog 14 #[.int .i64 b, .string key, .string label, .string context, .int .i64 z] w fun e w' => e = .returned (.tuple #[.string (labS b key label context z), .int .i64 (labE b label context z)]) ∧ Below w.heap.size w w' := by
  cases hm : mayL label context z
  · rw [show labS b key label context z = ⟨#[]⟩ by simp [labS, hm], show labE b label context z = 300 by simp [labE, hm]]
    refine rlabel_none b z key label context w hl hc ?_
    simp [mayL] at hm
    omega
  · rw [show labS b key label context z = expS b key (infoS label context z.toNat) z by simp [labS, hm], show labE b label context z = expE b z by simp [labE, hm]]
    simp [mayL] at hm
    obtain ⟨n, rfl⟩ := Int.eq_ofNat_of_zero_le hm.2.2.1
    exact rlabel_ok b n key label context w hk hm.1 hm.2.1 (by omega)
end Go.Proofs.Hk
