/-
  For layer 9's NumFolds: a list summed up and taken away again.
-/
import Derived.Test.YtbkfpaodicfmhaaNwC
namespace Go.Proofs.Nw
open Go.RowKit Go.Proofs.Nu
open Go.Proofs.Nt
/-- A list's first numbers' sum. -/
def sumX (X : Nat → Nat) : Nat → Nat
  | 0 => 0
  | i + 1 => sumX X i + X i
theorem mask20 (z : Int) : ∃ n : Nat, n ≤ 1048575 ∧ bits .and .i64 z 1048575 = (n : Int) := ⟨_, Nat.and_le_right, Lw.and_of z 1048575 (by omega)⟩
theorem add_on (m S x : Nat) : (S % m + x) % m = (S + x) % m := Nat.mod_add_mod S m x
theorem mul_on (m A i : Nat) : (i * A % m + A) % m = (i + 1) * A % m := by rw [Nat.mod_add_mod, Nat.add_mul, Nat.one_mul]
/-- What is left of a sum S when R of it was taken. -/
theorem sub_on {m S R x : Nat} (hx : x < m) (h : R + x ≤ S) : ((S - R) % m + m - x) % m = (S - (R + x)) % m := by
  rw [Nat.add_sub_assoc (Nat.le_of_lt hx), Nat.mod_add_mod, show S - R + (m - x) = S - (R + x) + m by omega, Nat.add_mod_right]
theorem sum_mono (X : Nat → Nat) {i n : Nat} (h : i ≤ n) : sumX X i ≤ sumX X n := by
  induction n with
  | zero => rw [Nat.le_zero.1 h]; exact Nat.le_refl _
  | succ n ih =>
    rcases Nat.lt_or_ge i (n + 1) with h2 | h2
    · exact Nat.le_trans (ih (by omega)) (by show sumX X n ≤ sumX X n + X n; omega)
    · rw [show i = n + 1 by omega]; exact Nat.le_refl _
set_option maxHeartbeats 2000000 in
set_option maxRecDepth 100000 in
theorem folds_any (a0 : Int) (a1 : Option Addr) (len1 cap1 : Nat) (a2 : ByteArray) (f : Nat → Int) (w : World)
    (HC0 : ∀ i, i < len1 → ∃ b off, a1 = some ⟨b, off, none⟩ ∧ b < w.heap.size ∧ w.cell? ⟨b, off + i, none⟩ = some (.int .i64 (f i))) :
    Calls Try.prog 7 #[.int .i64 a0, .slice a1 len1 cap1, .string a2] w fun e w' => e = .returned (.bool true) ∧ Below w.heap.size w w' := by
  have HC := Lib.hid HC0
  clear HC0
  have HB : Hid (Below w.heap.size w w) := Below.refl _ _
  obtain ⟨q, hq, hq1, hq2⟩ := third_of a0
  have hz : 0 ≤ (q : Int) ∧ (q : Int) ≤ 2 := by omega
  have hqw : IntKind.i64.wrap (q : Int) = (q : Int) := IntWalk.i64_in _ (by omega)
  obtain ⟨A, hA, eA⟩ := red_num q a2 hz
  have dA : Hid (∀ w, Calls Try.prog 16 #[.int .i64 (q : Int), .string a2] w fun e w' => e = .returned (.string (t32 A)) ∧ Below w.heap.size w w') := fun w => by have h := reduced_any q a2 w; rw [eA] at h; exact h
  have hm := md_pos (q : Int)
  have n0 : Hid (∀ w, Calls Try.prog 17 #[.int .i64 0] w fun e w' => e = .returned (.string (t32 (0 % md q))) ∧ Below w.heap.size w w') := fun w => by rw [Nat.zero_mod]; exact word_any 0 w (by omega)
  obtain ⟨X, hX⟩ : ∃ X : Nat → Nat, ∀ i, X i ≤ 1048575 ∧ bits .and .i64 (f i) 1048575 = (X i : Int) := ⟨fun i => Classical.choose (mask20 (f i)), fun i => Classical.choose_spec (mask20 (f i))⟩
  have HX := Lib.hid hX
  have HW : Hid (∀ i w, Calls Try.prog 17 #[.int .i64 (X i : Int)] w fun e w' => e = .returned (.string (t32 (X i))) ∧ Below w.heap.size w w') := fun i w => word_any (X i) w (by have := (hX i).1; omega)
  have HS : Hid (∀ i w, Calls Try.prog 8 #[.int .i64 (q : Int), .string (t32 (sumX X i % md q)), .string (t32 (X i))] w fun e w' => e = .returned (.tuple #[.string (t32 (sumX X (i + 1) % md q)), .int .i64 0]) ∧ Below w.heap.size w w') := fun i w => by
    have h := add_num hz (Nat.mod_lt (sumX X i) hm) (small_lt q (show X i < 1000000000000 by have := (hX i).1; omega)) w
    rw [add_on] at h
    exact h
  have HM : Hid (∀ (i : Nat) w, Calls Try.prog 8 #[.int .i64 (q : Int), .string (t32 (i * A % md q)), .string (t32 A)] w fun e w' => e = .returned (.tuple #[.string (t32 ((i + 1) * A % md q)), .int .i64 0]) ∧ Below w.heap.size w w') := fun i w => by
    have h := add_num hz (Nat.mod_lt (i * A) hm) hA w
    rw [mul_on] at h
    exact h
  have HP : Hid (∀ (i : Nat) w, i ≤ 40 → Calls Try.prog 11 #[.int .i64 (q : Int), .string (t32 A), .string (t32 i)] w fun e w' => e = .returned (.tuple #[.string (t32 (i * A % md q)), .int .i64 0]) ∧ Below w.heap.size w w') := fun i w hi => by
    have h := mul_num hz hA (small_lt q (show i < 1000000000000 by omega)) w
    rw [Nat.mul_comm] at h
    exact h
  have HD : Hid (∀ i n w, i < n → Calls Try.prog 10 #[.int .i64 (q : Int), .string (t32 ((sumX X n - sumX X i) % md q)), .string (t32 (X i))] w fun e w' => e = .returned (.tuple #[.string (t32 ((sumX X n - sumX X (i + 1)) % md q)), .int .i64 0]) ∧ Below w.heap.size w w') := fun i n w hi => by
    have hx := small_lt (q : Int) (show X i < 1000000000000 by have := (hX i).1; omega)
    have h := sub_num hz (Nat.mod_lt (sumX X n - sumX X i) hm) hx w
    rw [sub_on hx (show sumX X i + X i ≤ sumX X n from sum_mono X (show i + 1 ≤ n by omega))] at h
    exact h
  have HN : Hid (∀ (k : Nat) w, k ≤ 40 → Calls Try.prog 17 #[.int .i64 (k : Int)] w fun e w' => e = .returned (.string (t32 k)) ∧ Below w.heap.size w w') := fun k w hk => word_any k w (by omega)
  have n1 : Hid (∀ w, Calls Try.prog 17 #[.int .i64 0] w fun e w' => e = .returned (.string (t32 0)) ∧ Below w.heap.size w w') := fun w => word_any 0 w (by omega)
  clear hX eA hA hm hz
  generalize hM : md q = M at *
  clear hM
  have z0 : t32 (0 % M) = t32 (sumX X 0 % M) := rfl
  have z1 : t32 (0 % M) = t32 (0 * A % M) := by rw [Nat.zero_mul]
  go_enter Try.func7, Try.ntmps7
  go_wp2_with (first
    | (go_at_call 15; refine (Nw.awake9_any _).mono ?_; rintro e u ⟨rfl, hb⟩; have HB := Lib.hid (Lw.go_on HB.out hb); clear hb)
    | (go_at_call 16; refine (dA.out _).mono ?_; rintro e u ⟨rfl, hb⟩; have HB := Lib.hid (Lw.go_on HB.out hb); clear hb)
    | (go_at_call 17; refine (n0.out _).mono ?_; rintro e u ⟨rfl, hb⟩; have HB := Lib.hid (Lw.go_on HB.out hb); clear hb))
  go_loopw [8, 10, 11, 12] (fun vs vm vk vi wx => ∃ i : Nat, Hid (i ≤ min 40 len1) ∧ vs = .string (t32 (sumX X i % M)) ∧ vm = .string (t32 (i * A % M)) ∧ vk = .int .i64 i ∧ vi = .int .i64 i ∧ Hid (Below w.heap.size w wx)) (fun _ _ _ vi _ => 40 - (intOf vi).toNat)
  case atStart => exact ⟨0, Nat.zero_le _, congrArg Value.string z0, congrArg Value.string z1, rfl, rfl, HB⟩
  case round =>
    clear HB z0 z1 n0
    obtain ⟨i, hi, rfl, rfl, rfl, rfl, HB⟩ := hrel
    by_cases hlt : i < 40 ∧ i < len1
    · have il : ((i : Int) < 40) = True := eq_true (by omega)
      have il' : (i : Int) < 40 := by omega
      have jl : ((i : Int) < (len1 : Int)) = True := eq_true (by omega)
      have jl' : (i : Int) < (len1 : Int) := by omega
      have HI := Lib.hid hlt
      obtain ⟨b, off, rfl, hbw, hcl⟩ := HC.out i hlt.2
      have hc : wr.cell? ⟨b, off + i, none⟩ = some (.int .i64 (f i)) := by rw [HB.out.cell (p := ⟨b, off + i, none⟩) hbw]; exact hcl
      have hx := (HX.out i).2
      have iw : wrap64 ((i : Int) + 1) = ((i + 1 : Nat) : Int) := by unfold wrap64; omega
      clear hlt hcl hbw
      go_wp2_with (first
        | (go_at_call 17; refine (HW.out i _).mono ?_; rintro e u ⟨rfl, hb⟩; have HB := Lib.hid (Lw.go_on HB.out hb); clear hb)
        | (go_at_call_of 8 (Value.string (t32 A)); refine (HM.out i _).mono ?_; rintro e u ⟨rfl, hb⟩; have HB := Lib.hid (Lw.go_on HB.out hb); clear hb)
        | (go_at_call_of 8 (Value.string (t32 (sumX X i % M))); refine (HS.out i _).mono ?_; rintro e u ⟨rfl, hb⟩; have HB := Lib.hid (Lw.go_on HB.out hb); clear hb)
        | (go_at_call 14; refine (Lw.num_same _ _).mono ?_; rintro e u ⟨rfl, rfl⟩))
      exact ⟨⟨i + 1, by have := HI.out; show i + 1 ≤ min 40 len1; omega, rfl, rfl, by go_num, by go_num, HB⟩, Lw.meas 40 i HI.out.1⟩
    · obtain ⟨n, hn⟩ : ∃ n, i = n := ⟨_, rfl⟩
      have hnm : n = min 40 len1 := by have := hi.out; omega
      have hn40 : n ≤ 40 := by omega
      have hnl : n ≤ len1 := by omega
      rw [hn]
      rw [hn] at hlt
      clear hi hn
      have s0 : t32 (sumX X n % M) = t32 ((sumX X n - sumX X 0) % M) := rfl
      by_cases h40 : n < len1
      · have HL := Lib.hid h40
        have il : ((n : Int) < 40) = False := eq_false (by omega)
        have jl : ((n : Int) < (len1 : Int)) = True := eq_true (by omega)
        have HN1 := Lib.hid (fun w => HN.out n w hn40)
        have HP1 := Lib.hid (fun w => HP.out n w hn40)
        have HK : Hid (n ≤ 40 ∧ n ≤ len1) := ⟨hn40, hnl⟩
        have HE : Hid (n = min 40 len1) := hnm
        clear hlt h40 hn40 hnl hnm
        go_wp2_with (first | (go_at_call 17; refine (HN1.out _).mono ?_; rintro e u ⟨rfl, hb⟩; have HB := Lib.hid (Lw.go_on HB.out hb); clear hb) | (go_at_call 11; refine (HP1.out _).mono ?_; rintro e u ⟨rfl, hb⟩; have HB := Lib.hid (Lw.go_on HB.out hb); clear hb))
        clear il jl
        go_loopw [8, 19] (fun vs vi wx => ∃ j : Nat, Hid (j ≤ n) ∧ vs = .string (t32 ((sumX X n - sumX X j) % M)) ∧ vi = .int .i64 j ∧ Hid (Below w.heap.size w wx)) (fun _ vi _ => 40 - (intOf vi).toNat)
        case atStart => exact ⟨0, Nat.zero_le _, congrArg Value.string s0, rfl, HB⟩
        case round =>
          clear HB s0
          obtain ⟨j, hj, rfl, rfl, HB⟩ := hrel
          by_cases hlt : j < n
          · have il : ((j : Int) < 40) = True := eq_true (by have := HK.out; omega)
            have il' : (j : Int) < 40 := by have := HK.out; omega
            have jl : ((j : Int) < (len1 : Int)) = True := eq_true (by have := HK.out; omega)
            have jl' : (j : Int) < (len1 : Int) := by have := HK.out; omega
            have HJ := Lib.hid hlt
            obtain ⟨b, off, rfl, hbw, hcl⟩ := HC.out j (by have := HK.out; omega)
            have hc : wr.cell? ⟨b, off + j, none⟩ = some (.int .i64 (f j)) := by rw [HB.out.cell (p := ⟨b, off + j, none⟩) hbw]; exact hcl
            have hx := (HX.out j).2
            have iw : wrap64 ((j : Int) + 1) = ((j + 1 : Nat) : Int) := by unfold wrap64; omega
            have HD1 := Lib.hid (fun w => HD.out j n w hlt)
            clear hlt hcl hbw
            go_wp2_with (first | (go_at_call 17; refine (HW.out j _).mono ?_; rintro e u ⟨rfl, hb⟩; have HB := Lib.hid (Lw.go_on HB.out hb); clear hb) | (go_at_call 10; refine (HD1.out _).mono ?_; rintro e u ⟨rfl, hb⟩; have HB := Lib.hid (Lw.go_on HB.out hb); clear hb))
            exact ⟨⟨j + 1, HJ.out, rfl, by go_num, HB⟩, Lw.meas 40 j (by have := HJ.out; have := HK.out; omega)⟩
          · obtain rfl : j = n := by have := hj.out; omega
            have e0 : (sumX X j - sumX X j) % M = 0 := by rw [Nat.sub_self, Nat.zero_mod]
            rw [e0]
            have HE2 := HE.out
            have il : ((j : Int) < 40) = False := eq_false (by have := HL.out; omega)
            have jl : ((j : Int) < (len1 : Int)) = True := eq_true (by have := HL.out; omega)
            clear hlt HE2 hj
            go_wp2_with (first | (go_at_call 14; refine (Lw.num_same _ _).mono ?_; rintro e u ⟨rfl, rfl⟩) | (go_at_call 17; refine (n1.out _).mono ?_; rintro e u ⟨rfl, hb⟩; have HB := Lib.hid (Lw.go_on HB.out hb); clear hb))
            go_ret
            exact ⟨rfl, HB.out⟩
      · have HL := Lib.hid h40
        have jl : ((n : Int) < (len1 : Int)) = False := eq_false (by omega)
        have HN1 := Lib.hid (fun w => HN.out n w hn40)
        have HP1 := Lib.hid (fun w => HP.out n w hn40)
        have HK : Hid (n ≤ 40 ∧ n ≤ len1) := ⟨hn40, hnl⟩
        have HE : Hid (n = min 40 len1) := hnm
        clear hlt h40 hn40 hnl hnm
        go_wp2_with (first | (go_at_call 17; refine (HN1.out _).mono ?_; rintro e u ⟨rfl, hb⟩; have HB := Lib.hid (Lw.go_on HB.out hb); clear hb) | (go_at_call 11; refine (HP1.out _).mono ?_; rintro e u ⟨rfl, hb⟩; have HB := Lib.hid (Lw.go_on HB.out hb); clear hb))
        clear jl
        go_loopw [8, 19] (fun vs vi wx => ∃ j : Nat, Hid (j ≤ n) ∧ vs = .string (t32 ((sumX X n - sumX X j) % M)) ∧ vi = .int .i64 j ∧ Hid (Below w.heap.size w wx)) (fun _ vi _ => 40 - (intOf vi).toNat)
        case atStart => exact ⟨0, Nat.zero_le _, congrArg Value.string s0, rfl, HB⟩
        case round =>
          clear HB s0
          obtain ⟨j, hj, rfl, rfl, HB⟩ := hrel
          by_cases hlt : j < n
          · have il : ((j : Int) < 40) = True := eq_true (by have := HK.out; omega)
            have il' : (j : Int) < 40 := by have := HK.out; omega
            have jl : ((j : Int) < (len1 : Int)) = True := eq_true (by have := HK.out; omega)
            have jl' : (j : Int) < (len1 : Int) := by have := HK.out; omega
            have HJ := Lib.hid hlt
            obtain ⟨b, off, rfl, hbw, hcl⟩ := HC.out j (by have := HK.out; omega)
            have hc : wr.cell? ⟨b, off + j, none⟩ = some (.int .i64 (f j)) := by rw [HB.out.cell (p := ⟨b, off + j, none⟩) hbw]; exact hcl
            have hx := (HX.out j).2
            have iw : wrap64 ((j : Int) + 1) = ((j + 1 : Nat) : Int) := by unfold wrap64; omega
            have HD1 := Lib.hid (fun w => HD.out j n w hlt)
            clear hlt hcl hbw
            go_wp2_with (first | (go_at_call 17; refine (HW.out j _).mono ?_; rintro e u ⟨rfl, hb⟩; have HB := Lib.hid (Lw.go_on HB.out hb); clear hb) | (go_at_call 10; refine (HD1.out _).mono ?_; rintro e u ⟨rfl, hb⟩; have HB := Lib.hid (Lw.go_on HB.out hb); clear hb))
            exact ⟨⟨j + 1, HJ.out, rfl, by go_num, HB⟩, Lw.meas 40 j (by have := HJ.out; have := HK.out; omega)⟩
          · obtain rfl : j = n := by have := hj.out; omega
            have e0 : (sumX X j - sumX X j) % M = 0 := by rw [Nat.sub_self, Nat.zero_mod]
            rw [e0]
            have HE2 := HE.out
            have jl : ((j : Int) < (len1 : Int)) = False := eq_false (by have := HL.out; omega)
            clear hlt HE2 hj
            go_wp2_with (first | (go_at_call 14; refine (Lw.num_same _ _).mono ?_; rintro e u ⟨rfl, rfl⟩) | (go_at_call 17; refine (n1.out _).mono ?_; rintro e u ⟨rfl, hb⟩; have HB := Lib.hid (Lw.go_on HB.out hb); clear hb))
            go_ret
            exact ⟨rfl, HB.out⟩
end Go.Proofs.Nw
