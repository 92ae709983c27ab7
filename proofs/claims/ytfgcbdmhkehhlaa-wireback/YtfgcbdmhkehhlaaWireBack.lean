/-
  For every list of numbers and every text the law WireBack answers true, and its arguments read as before. Conditions: none.
-/
import Derived.Test.YtfgcbdmhkehhlaaC
import Derived.Test.YtfgcbdmhkehhlaaE
import Derived.Deep.RegionHeld
import Derived.Test.YtfgcbdmhkehhlaaRows
import Derived.WalkKit
import Derived.ProofKit
import Derived.OpenShut
import Derived.ShutString
import Derived.ChangeOld
import Derived.Below
namespace Go.Proofs.Ytfgcbdmhkehhlaa.wireBack
open Go.ChangeShapes Go.WideShapes Go.ChangeAt Go.RowKit
open Go.ChangeMaps (open_string shut_string)
set_option linter.unusedVariables false

theorem own : ownKnob Try.prog.godebug = none := by kernel_rfl
theorem laidOut : laidOutB Try.prog = true := by kernel_rfl

/-- A slice of integers that came in: nil, or a row of cells that hold zs. -/
def IsRow (k : IntKind) (w : World) (a : Option Addr) (len cap : Nat) (zs : List Int) : Prop :=
  (a = none ∧ len = 0 ∧ cap = 0 ∧ zs = []) ∨
  ∃ x, a = some x ∧ len ≤ cap ∧ cap ≤ maxLen ∧ zs.length = cap ∧ (∀ i, i < zs.length → w.cell? (x.add i) = some (.int k (zs.getD i 0))) ∧ ∀ n ∈ zs, (Lit.int k n).wf = true

theorem and_nat (b : Int) (m : Nat) (hm : m < 9223372036854775808) : ∃ A : Nat, bits .and .i64 b (m : Int) = A ∧ A ≤ m := by
  refine ⟨(BitVec.ofInt 64 b).toNat &&& m, ?_, Nat.and_le_right⟩
  have hx : (BitVec.ofInt 64 b).toNat &&& m ≤ m := Nat.and_le_right
  show IntKind.i64.wrap ((BitVec.ofInt 64 b &&& BitVec.ofInt 64 (m : Int)).toNat : Int) = _
  rw [BitVec.toNat_and, ofInt_u64 m (by omega)]
  exact IntWalk.i64_in _ (by omega)
/-- What one round writes. -/
def recL (t : ByteArray) (z : Int) (j : Nat) : List UInt8 := beL (bits .and .i64 z 4294967295).toNat 4 ++ (beL (bits .and .i64 z 16777215).toNat 3 ++ (beL t.size (1 + j % 3) ++ t.data.toList))
/-- What j rounds have written. -/
def allL (t : ByteArray) (zs : List Int) : Nat → List UInt8
  | 0 => t.data.toList
  | j + 1 => allL t zs j ++ recL t (zs.getD j 0) j
theorem allL_part (t : ByteArray) (zs : List Int) (j n : Nat) (h : j < n) : ∃ rest, allL t zs n = allL t zs j ++ (recL t (zs.getD j 0) j ++ rest) := by
  induction n with
  | zero => omega
  | succ n ih =>
    by_cases hj : j = n
    · subst hj; exact ⟨[], by simp [allL]⟩
    · obtain ⟨rest, hr⟩ := ih (by omega)
      exact ⟨rest ++ recL t (zs.getD n 0) n, by simp [allL, hr]⟩
theorem and_fit (z : Int) (m k : Nat) (hm : m < 9223372036854775808) (hk : m < 256 ^ k) : ((bits .and .i64 z (m : Int)).toNat : Int) = bits .and .i64 z (m : Int) ∧ (bits .and .i64 z (m : Int)).toNat < 256 ^ k := by
  obtain ⟨A, hA, h2⟩ := and_nat z m hm
  rw [hA, Int.toNat_natCast]; exact ⟨rfl, by omega⟩
theorem allL_length (t : ByteArray) (zs : List Int) (j : Nat) : (allL t zs (j + 1)).length = (allL t zs j).length + 4 + 3 + (1 + j % 3) + t.size := by
  simp only [allL, recL, List.length_append, beL_length, ba_size t]; omega
/-- What round i wrote is read back at its place. -/
theorem reads (S T : ByteArray) (zs : List Int) (i j : Nat) (hij : i < j) (hS : S.data.toList = allL T zs j) (hT : T.size ≤ 255) (hs : S.size ≤ 9000) :
    (∀ w, Calls Try.prog 12 #[.string S, .int .i64 (allL T zs i).length] w fun e w' => e = .returned (.tuple #[.int .i64 (bits .and .i64 (zs.getD i 0) 4294967295), .int .i64 ((allL T zs i).length + 4), .int .i64 0]) ∧ w = w') ∧
    (∀ w, Calls Try.prog 11 #[.string S, .int .i64 ((allL T zs i).length + 4)] w fun e w' => e = .returned (.tuple #[.int .i64 (bits .and .i64 (zs.getD i 0) 16777215), .int .i64 ((allL T zs i).length + 4 + 3), .int .i64 0]) ∧ w = w') ∧
    (∀ w, Calls Try.prog 13 #[.string S, .int .i64 ((allL T zs i).length + 4 + 3), .int .i64 (1 + (i : Int) % 3)] w fun e w' => e = .returned (.tuple #[.string T, .int .i64 (allL T zs (i + 1)).length, .int .i64 0]) ∧ Below w.heap.size w w') ∧ (allL T zs (i + 1)).length ≤ S.size := by
  obtain ⟨rest, hr⟩ := allL_part T zs i j hij
  have hlen := allL_length T zs i
  generalize zs.getD i 0 = z at hr ⊢
  generalize (allL T zs (i + 1)).length = p' at hlen ⊢
  obtain ⟨eA, fA⟩ := and_fit z 4294967295 4 (by omega) (by decide)
  obtain ⟨eB, fB⟩ := and_fit z 16777215 3 (by omega) (by decide)
  have eA' : ((bits .and .i64 z 4294967295).toNat : Int) = bits .and .i64 z 4294967295 := eA
  have eB' : ((bits .and .i64 z 16777215).toNat : Int) = bits .and .i64 z 16777215 := eB
  have fA' : (bits .and .i64 z 4294967295).toNat < 256 ^ 4 := fA
  have fB' : (bits .and .i64 z 16777215).toNat < 256 ^ 3 := fB
  rw [← eA', ← eB']
  rw [hr] at hS
  unfold recL at hS
  clear hr
  generalize (bits .and .i64 z 4294967295).toNat = A at *
  generalize (bits .and .i64 z 16777215).toNat = B at *
  generalize allL T zs i = P at *
  have hz : S.size = P.length + 4 + 3 + (1 + i % 3) + T.size + rest.length := by
    rw [ba_size S, hS, ba_size T]; simp [beL_length]; omega
  have hm : S.size ≤ maxLen := by unfold maxLen; omega
  have n1 : numV S P.length 4 = A := numV_be P _ S A 4 (by rw [hS, List.append_assoc]) fA'
  have n2 : numV S (P.length + 4) 3 = B := by
    have := numV_be (P ++ beL A 4) (beL T.size (1 + i % 3) ++ (T.data.toList ++ rest)) S B 3 (by rw [hS]; simp) fB'
    rwa [List.length_append, beL_length] at this
  refine ⟨fun w => ?_, fun w => ?_, fun w => ?_, by omega⟩
  · refine (u32_yes S P.length w hm (holdsB_true (by omega) (by omega) (by omega))).mono ?_
    rintro e w' ⟨rfl, rfl⟩
    rw [Int.toNat_natCast, n1]; exact ⟨rfl, rfl⟩
  · refine (u24_yes S (P.length + 4) w hm (holdsB_true (by omega) (by omega) (by omega))).mono ?_
    rintro e w' ⟨rfl, rfl⟩
    rw [show ((P.length : Int) + 4).toNat = P.length + 4 by omega, n2]; exact ⟨rfl, rfl⟩
  · refine (vec_any S _ _ w hm).mono ?_
    rintro e w' ⟨rfl, hb⟩
    have hk : (1 + (i : Int) % 3).toNat = 1 + i % 3 := by omega
    obtain ⟨x1, x2, x3⟩ := vec_back (P ++ (beL A 4 ++ beL B 3)) rest S T (1 + (i : Int) % 3) (by omega) (by omega) (Nat.lt_of_le_of_lt hT (Nat.lt_of_lt_of_le (show 255 < 256 ^ 1 by decide) (Nat.pow_le_pow_right (by omega) (by omega)))) (by rw [hS, hk]; simp)
    have hl : ((P ++ (beL A 4 ++ beL B 3)).length : Int) = (P.length : Int) + 4 + 3 := by simp [beL_length]; omega
    rw [hl] at x1 x2 x3
    rw [x1, x2, x3]
    exact ⟨ret3 rfl (int64 (by omega)) rfl, hb⟩
set_option maxHeartbeats 2000000 in
set_option maxRecDepth 100000 in
theorem walk_long (b off len0 cap0 : Nat) (z0 : List Int) (a1 : ByteArray) (w : World) (hl2 : len0 ≤ maxLen) (hbl : b < w.heap.size) (hcell : ∀ i, i < len0 → w.cell? ⟨b, off + i, none⟩ = some (.int .i64 (z0.getD i 0))) (w1 : a1.size ≤ maxLen) (hlen : (255 : Int) < a1.size) :
    Calls Try.prog 5 #[.slice (some ⟨b, off, none⟩) len0 cap0, .string a1] w fun e w' => e = .returned (.bool true) ∧ Below w.heap.size w w' := by
  unfold maxLen at w1 hl2
  have HB := Lib.hid hbl; have HCELL := Lib.hid hcell
  clear hbl hcell
  go_enter Try.func5, Try.ntmps5
  go_wp2_with (go_at_call 17; refine (awake_any _).mono ?_; rintro e u1 ⟨rfl, b1⟩)
  have t2 : (a1.extract 0 255).size ≤ 255 := by rw [ByteArray.size_extract]; omega
  generalize a1.extract 0 255 = t at t2 ⊢
  clear hlen
  go_loopw [6, 7] (fun all i wr => ∃ (j : Nat) (S : ByteArray), j ≤ len0 ∧ j ≤ 30 ∧ i = .int .i64 j ∧ all = .string S ∧ Hid (S.data.toList = allL t z0 j) ∧ S.size ≤ 255 + j * 265 ∧ Below w.heap.size w wr) (fun _ i _ => 30 - (intOf i).toNat)
  case atStart => exact ⟨0, t, by omega, by omega, rfl, rfl, rfl, by omega, b1⟩
  case round =>
    obtain ⟨j, S, hj, hj30, rfl, rfl, HS, hsz, hb⟩ := hrel
    by_cases hlt : j < len0 ∧ j < 30
    · obtain ⟨l1, l2⟩ := hlt
      obtain ⟨z, hz⟩ : ∃ z, z0.getD j 0 = z := ⟨_, rfl⟩
      have hcl : wr.cell? ⟨b, off + j, none⟩ = some (.int .i64 z) := by rw [hb.cell (p := ⟨b, off + j, none⟩) HB.out, ← hz]; exact HCELL.out j l1
      obtain ⟨A, hA, hA2⟩ := and_nat z 4294967295 (by omega)
      obtain ⟨B, hB, hB2⟩ := and_nat z 16777215 (by omega)
      have gA : bits .and .i64 z 4294967295 = A := hA
      have gB : bits .and .i64 z 16777215 = B := hB
      have HA : Hid (A < 4294967296) := by show A < 4294967296; omega
      have HB2 : Hid (B < 16777216) := by show B < 16777216; omega
      have HR : Hid (recL t (z0.getD j 0) j = beL A 4 ++ (beL B 3 ++ (beL t.size (1 + j % 3) ++ t.data.toList))) := by
        show recL t (z0.getD j 0) j = beL A 4 ++ (beL B 3 ++ (beL t.size (1 + j % 3) ++ t.data.toList))
        rw [hz]; unfold recL; rw [gA, gB, Int.toNat_natCast, Int.toNat_natCast]
      clear hA2 hB2 hz hA hB
      go_wp2_with fail
      refine (put_4 A _ HA.out).mono ?_
      rintro e u2 ⟨rfl, b2⟩
      have hc2 : u2.cell? ⟨b, off + j, none⟩ = some (.int .i64 z) := by rw [b2.cell (p := ⟨b, off + j, none⟩) (by have := hb.size; have := HB.out; simp only []; omega)]; exact hcl
      go_wp2_with fail
      refine (put_3 B _ HB2.out).mono ?_
      rintro e u3 ⟨rfl, b3⟩
      go_wp2_with fail
      refine (putVec_yes t _ _ (by simp [lenB]; refine ⟨by omega, by omega, Nat.lt_of_le_of_lt t2 (Nat.lt_of_lt_of_le (show 255 < 256 ^ 1 by decide) (Nat.pow_le_pow_right (by omega) (by omega)))⟩)).mono ?_
      rintro e u4' ⟨rfl, b4⟩
      have hvs : (beS t.size (1 + (j : Int) % 3).toNat ++ t).size ≤ 258 := by rw [ByteArray.size_append, beS_size]; omega
      have HV : Hid ((beS t.size (1 + (j : Int) % 3).toNat ++ t).data.toList = beL t.size (1 + j % 3) ++ t.data.toList) := by
        show (beS t.size (1 + (j : Int) % 3).toNat ++ t).data.toList = beL t.size (1 + j % 3) ++ t.data.toList
        rw [app_list, beS_list, show (1 + (j : Int) % 3).toNat = 1 + j % 3 by omega]
      generalize beS t.size (1 + (j : Int) % 3).toNat ++ t = v at hvs HV ⊢
      have z4 : (beS A 4).size = 4 := beS_size A 4
      have z3 : (beS B 3).size = 3 := beS_size B 3
      go_wp2_with (go_at_call 16; go_in)
      have s1 := hb.size; have s2 := b2.size; have s3 := b3.size
      refine ⟨⟨j + 1, S ++ beS A 4 ++ beS B 3 ++ v, by omega, by omega, by go_num, rfl, ?_, ?_, hb.trans ((b2.mono (by omega)).trans ((b3.mono (by omega)).trans (b4.mono (by omega))))⟩, by simp [intOf]; omega⟩
      · show (S ++ beS A 4 ++ beS B 3 ++ v).data.toList = allL t z0 j ++ recL t (z0.getD j 0) j
        rw [app_list, app_list, app_list, HS.out, HV.out, HR.out, beS_list, beS_list]; simp
      · rw [ByteArray.size_append, ByteArray.size_append, ByteArray.size_append, z4, z3]; omega
    · have hSz : S.size ≤ 9000 := by omega
      have hN : ∀ i : Nat, i < len0 → i < 30 → i < j := by omega
      have HN := Lib.hid hN
      have e0 := hb.size
      have HE : Hid (S.size = (allL t z0 j).length) := by show S.size = (allL t z0 j).length; rw [ba_size S, HS.out]
      have h12 : ¬ (j < len0) ∨ (j < len0 ∧ ¬ (j < 30)) := by omega
      clear hlt hN
      rcases h12 with hend | ⟨hend, hend2⟩
      all_goals
        go_wp2_with fail
        go_loopw [14, 15] (fun at' i ws => ∃ (m p : Nat), m ≤ j ∧ i = .int .i64 m ∧ at' = .int .i64 p ∧ Hid (p = (allL t z0 m).length) ∧ Below w.heap.size w ws) (fun _ i _ => 30 - (intOf i).toNat)
        case atStart => exact ⟨0, t.size, by omega, rfl, rfl, ba_size t, hb⟩
        case round =>
          clear hend
          obtain ⟨m, p, hm, rfl, rfl, HP, hbs⟩ := hrel
          by_cases hlt : m < len0 ∧ m < 30
          · obtain ⟨l1, l2⟩ := hlt
            obtain ⟨K1, K2, K3, K4⟩ := reads S t z0 m j (HN.out m l1 l2) HS.out t2 hSz
            rw [← HP.out] at K1 K2 K3
            obtain ⟨p', hp'⟩ : ∃ p', (allL t z0 (m + 1)).length = p' := ⟨_, rfl⟩
            rw [hp'] at K3 K4
            have HP' := Lib.hid hp'
            clear hp'
            obtain ⟨z, hz⟩ : ∃ z, z0.getD m 0 = z := ⟨_, rfl⟩
            rw [hz] at K1 K2
            have hcl : wr.cell? ⟨b, off + m, none⟩ = some (.int .i64 z) := by rw [hbs.cell (p := ⟨b, off + m, none⟩) HB.out, ← hz]; exact HCELL.out m l1
            clear hz
            have H1 := Lib.hid K1; have H2 := Lib.hid K2; have H3 := Lib.hid K3
            clear K1 K2 K3
            have hmj := HN.out m l1 l2
            go_wp2_with fail
            refine (H1.out _).mono ?_
            rintro e u2 ⟨rfl, rfl⟩
            go_wp2_with fail
            refine (H2.out _).mono ?_
            rintro e u2 ⟨rfl, rfl⟩
            go_wp2_with fail
            refine (H3.out _).mono ?_
            rintro e u2 ⟨rfl, b2⟩
            have hc2 : u2.cell? ⟨b, off + m, none⟩ = some (.int .i64 z) := by rw [b2.cell (p := ⟨b, off + m, none⟩) (by have := hbs.size; have := HB.out; simp only []; omega)]; exact hcl
            go_wp2_with (go_at_call 16; go_in)
            have s1 := hbs.size
            exact ⟨⟨m + 1, p', by omega, by go_num, rfl, HP'.out.symm, hbs.trans (b2.mono (by omega))⟩, by simp [intOf]; omega⟩
          · obtain rfl : m = j := by omega
            obtain rfl : p = S.size := by rw [HE.out]; exact HP.out
            go_wp2_with fail
            all_goals
              refine (u8_no S S.size _ (by unfold maxLen; omega) (holdsB_false (by omega))).mono ?_
              rintro e u2 ⟨rfl, rfl⟩
              go_wp2
              go_ret
              exact ⟨rfl, hbs⟩
set_option maxHeartbeats 2000000 in
set_option maxRecDepth 100000 in
theorem walk_short (b off len0 cap0 : Nat) (z0 : List Int) (a1 : ByteArray) (w : World) (hl2 : len0 ≤ maxLen) (hbl : b < w.heap.size) (hcell : ∀ i, i < len0 → w.cell? ⟨b, off + i, none⟩ = some (.int .i64 (z0.getD i 0))) (w1 : a1.size ≤ maxLen) (t2 : a1.size ≤ 255) :
    Calls Try.prog 5 #[.slice (some ⟨b, off, none⟩) len0 cap0, .string a1] w fun e w' => e = .returned (.bool true) ∧ Below w.heap.size w w' := by
  unfold maxLen at w1 hl2
  have HB := Lib.hid hbl; have HCELL := Lib.hid hcell
  clear hbl hcell
  have hlen : ¬ ((255 : Int) < a1.size) := by omega
  go_enter Try.func5, Try.ntmps5
  go_wp2_with (go_at_call 17; refine (awake_any _).mono ?_; rintro e u1 ⟨rfl, b1⟩)
  clear hlen
  go_loopw [6, 7] (fun all i wr => ∃ (j : Nat) (S : ByteArray), j ≤ len0 ∧ j ≤ 30 ∧ i = .int .i64 j ∧ all = .string S ∧ Hid (S.data.toList = allL a1 z0 j) ∧ S.size ≤ 255 + j * 265 ∧ Below w.heap.size w wr) (fun _ i _ => 30 - (intOf i).toNat)
  case atStart => exact ⟨0, a1, by omega, by omega, rfl, rfl, rfl, by omega, b1⟩
  case round =>
    obtain ⟨j, S, hj, hj30, rfl, rfl, HS, hsz, hb⟩ := hrel
    by_cases hlt : j < len0 ∧ j < 30
    · obtain ⟨l1, l2⟩ := hlt
      obtain ⟨z, hz⟩ : ∃ z, z0.getD j 0 = z := ⟨_, rfl⟩
      have hcl : wr.cell? ⟨b, off + j, none⟩ = some (.int .i64 z) := by rw [hb.cell (p := ⟨b, off + j, none⟩) HB.out, ← hz]; exact HCELL.out j l1
      obtain ⟨A, hA, hA2⟩ := and_nat z 4294967295 (by omega)
      obtain ⟨B, hB, hB2⟩ := and_nat z 16777215 (by omega)
      have gA : bits .and .i64 z 4294967295 = A := hA
      have gB : bits .and .i64 z 16777215 = B := hB
      have HA : Hid (A < 4294967296) := by show A < 4294967296; omega
      have HB2 : Hid (B < 16777216) := by show B < 16777216; omega
      have HR : Hid (recL a1 (z0.getD j 0) j = beL A 4 ++ (beL B 3 ++ (beL a1.size (1 + j % 3) ++ a1.data.toList))) := by
        show recL a1 (z0.getD j 0) j = beL A 4 ++ (beL B 3 ++ (beL a1.size (1 + j % 3) ++ a1.data.toList))
        rw [hz]; unfold recL; rw [gA, gB, Int.toNat_natCast, Int.toNat_natCast]
      clear hA2 hB2 hz hA hB
      go_wp2_with fail
      refine (put_4 A _ HA.out).mono ?_
      rintro e u2 ⟨rfl, b2⟩
      have hc2 : u2.cell? ⟨b, off + j, none⟩ = some (.int .i64 z) := by rw [b2.cell (p := ⟨b, off + j, none⟩) (by have := hb.size; have := HB.out; simp only []; omega)]; exact hcl
      go_wp2_with fail
      refine (put_3 B _ HB2.out).mono ?_
      rintro e u3 ⟨rfl, b3⟩
      go_wp2_with fail
      refine (putVec_yes a1 _ _ (by simp [lenB]; refine ⟨by omega, by omega, Nat.lt_of_le_of_lt t2 (Nat.lt_of_lt_of_le (show 255 < 256 ^ 1 by decide) (Nat.pow_le_pow_right (by omega) (by omega)))⟩)).mono ?_
      rintro e u4' ⟨rfl, b4⟩
      have hvs : (beS a1.size (1 + (j : Int) % 3).toNat ++ a1).size ≤ 258 := by rw [ByteArray.size_append, beS_size]; omega
      have HV : Hid ((beS a1.size (1 + (j : Int) % 3).toNat ++ a1).data.toList = beL a1.size (1 + j % 3) ++ a1.data.toList) := by
        show (beS a1.size (1 + (j : Int) % 3).toNat ++ a1).data.toList = beL a1.size (1 + j % 3) ++ a1.data.toList
        rw [app_list, beS_list, show (1 + (j : Int) % 3).toNat = 1 + j % 3 by omega]
      generalize beS a1.size (1 + (j : Int) % 3).toNat ++ a1 = v at hvs HV ⊢
      have z4 : (beS A 4).size = 4 := beS_size A 4
      have z3 : (beS B 3).size = 3 := beS_size B 3
      go_wp2_with (go_at_call 16; go_in)
      have s1 := hb.size; have s2 := b2.size; have s3 := b3.size
      refine ⟨⟨j + 1, S ++ beS A 4 ++ beS B 3 ++ v, by omega, by omega, by go_num, rfl, ?_, ?_, hb.trans ((b2.mono (by omega)).trans ((b3.mono (by omega)).trans (b4.mono (by omega))))⟩, by simp [intOf]; omega⟩
      · show (S ++ beS A 4 ++ beS B 3 ++ v).data.toList = allL a1 z0 j ++ recL a1 (z0.getD j 0) j
        rw [app_list, app_list, app_list, HS.out, HV.out, HR.out, beS_list, beS_list]; simp
      · rw [ByteArray.size_append, ByteArray.size_append, ByteArray.size_append, z4, z3]; omega
    · have hSz : S.size ≤ 9000 := by omega
      have hN : ∀ i : Nat, i < len0 → i < 30 → i < j := by omega
      have HN := Lib.hid hN
      have e0 := hb.size
      have HE : Hid (S.size = (allL a1 z0 j).length) := by show S.size = (allL a1 z0 j).length; rw [ba_size S, HS.out]
      have h12 : ¬ (j < len0) ∨ (j < len0 ∧ ¬ (j < 30)) := by omega
      clear hlt hN
      rcases h12 with hend | ⟨hend, hend2⟩
      all_goals
        go_wp2_with fail
        go_loopw [14, 15] (fun at' i ws => ∃ (m p : Nat), m ≤ j ∧ i = .int .i64 m ∧ at' = .int .i64 p ∧ Hid (p = (allL a1 z0 m).length) ∧ Below w.heap.size w ws) (fun _ i _ => 30 - (intOf i).toNat)
        case atStart => exact ⟨0, a1.size, by omega, rfl, rfl, ba_size a1, hb⟩
        case round =>
          clear hend
          obtain ⟨m, p, hm, rfl, rfl, HP, hbs⟩ := hrel
          by_cases hlt : m < len0 ∧ m < 30
          · obtain ⟨l1, l2⟩ := hlt
            obtain ⟨K1, K2, K3, K4⟩ := reads S a1 z0 m j (HN.out m l1 l2) HS.out t2 hSz
            rw [← HP.out] at K1 K2 K3
            obtain ⟨p', hp'⟩ : ∃ p', (allL a1 z0 (m + 1)).length = p' := ⟨_, rfl⟩
            rw [hp'] at K3 K4
            have HP' := Lib.hid hp'
            clear hp'
            obtain ⟨z, hz⟩ : ∃ z, z0.getD m 0 = z := ⟨_, rfl⟩
            rw [hz] at K1 K2
            have hcl : wr.cell? ⟨b, off + m, none⟩ = some (.int .i64 z) := by rw [hbs.cell (p := ⟨b, off + m, none⟩) HB.out, ← hz]; exact HCELL.out m l1
            clear hz
            have H1 := Lib.hid K1; have H2 := Lib.hid K2; have H3 := Lib.hid K3
            clear K1 K2 K3
            have hmj := HN.out m l1 l2
            go_wp2_with fail
            refine (H1.out _).mono ?_
            rintro e u2 ⟨rfl, rfl⟩
            go_wp2_with fail
            refine (H2.out _).mono ?_
            rintro e u2 ⟨rfl, rfl⟩
            go_wp2_with fail
            refine (H3.out _).mono ?_
            rintro e u2 ⟨rfl, b2⟩
            have hc2 : u2.cell? ⟨b, off + m, none⟩ = some (.int .i64 z) := by rw [b2.cell (p := ⟨b, off + m, none⟩) (by have := hbs.size; have := HB.out; simp only []; omega)]; exact hcl
            go_wp2_with (go_at_call 16; go_in)
            have s1 := hbs.size
            exact ⟨⟨m + 1, p', by omega, by go_num, rfl, HP'.out.symm, hbs.trans (b2.mono (by omega))⟩, by simp [intOf]; omega⟩
          · obtain rfl : m = j := by omega
            obtain rfl : p = S.size := by rw [HE.out]; exact HP.out
            go_wp2_with fail
            all_goals
              refine (u8_no S S.size _ (by unfold maxLen; omega) (holdsB_false (by omega))).mono ?_
              rintro e u2 ⟨rfl, rfl⟩
              go_wp2
              go_ret
              exact ⟨rfl, hbs⟩
set_option maxHeartbeats 1000000 in
set_option maxRecDepth 100000 in
theorem walk_zero (a0 : Option Addr) (cap0 : Nat) (a1 : ByteArray) (w : World) (w1 : a1.size ≤ maxLen) :
    Calls Try.prog 5 #[.slice a0 0 cap0, .string a1] w fun e w' => e = .returned (.bool true) ∧ Below w.heap.size w w' := by
  have hm := w1
  unfold maxLen at w1
  by_cases hlen : (255 : Int) < a1.size
  · go_enter Try.func5, Try.ntmps5
    go_wp2_with (go_at_call 17; refine (awake_any _).mono ?_; rintro e u1 ⟨rfl, b1⟩)
    have t2 : (a1.extract 0 255).size ≤ 255 := by rw [ByteArray.size_extract]; omega
    generalize a1.extract 0 255 = t at t2 ⊢
    clear hlen
    refine wp_loop_rounds 1 ?_
    rw [rounds_succ]
    go_wp2_with fail
    refine wp_loop_rounds 1 ?_
    rw [rounds_succ]
    go_wp2_with fail
    refine (u8_no t t.size _ (by unfold maxLen; omega) (holdsB_false (by omega))).mono ?_
    rintro e u2 ⟨rfl, rfl⟩
    go_wp2
    go_ret
    exact ⟨rfl, b1⟩
  · go_enter Try.func5, Try.ntmps5
    go_wp2_with (go_at_call 17; refine (awake_any _).mono ?_; rintro e u1 ⟨rfl, b1⟩)
    clear hlen
    refine wp_loop_rounds 1 ?_
    rw [rounds_succ]
    go_wp2_with fail
    refine wp_loop_rounds 1 ?_
    rw [rounds_succ]
    go_wp2_with fail
    refine (u8_no a1 a1.size _ hm (holdsB_false (by omega))).mono ?_
    rintro e u2 ⟨rfl, rfl⟩
    go_wp2
    go_ret
    exact ⟨rfl, b1⟩
theorem walk (a0 : Option Addr) (len0 cap0 : Nat) (z0 : List Int) (a1 : ByteArray) (w : World) (w0 : IsRow .i64 w a0 len0 cap0 z0) (w1 : a1.size ≤ maxLen) :
    Calls Try.prog 5 #[.slice a0 len0 cap0, .string a1] w fun e w' => e = .returned (.bool true) ∧ Below w.heap.size w w' := by
  by_cases h0 : len0 = 0
  · subst h0; exact walk_zero a0 cap0 a1 w w1
  · rcases w0 with ⟨_, h, _, _⟩ | ⟨x, rfl, hl, hm, hz, hcell, hwz⟩
    · exact absurd h h0
    · obtain ⟨b, off, spot⟩ := x
      have hc := hcell 0 (by omega)
      obtain rfl : spot = none := by simpa [Addr.add] using World.cell?_spot hc
      have hcell' : ∀ i, i < len0 → w.cell? ⟨b, off + i, none⟩ = some (.int .i64 (z0.getD i 0)) := fun i hi => by
        have := hcell i (by omega)
        rwa [show (⟨b, off, none⟩ : Addr).add i = ⟨b, off + i, none⟩ by unfold Addr.add; split <;> simp_all] at this
      have hb : b < w.heap.size := World.block_lt_of_cell? w ⟨b, off + 0, none⟩ (hcell' 0 (by omega))
      by_cases hlen : (255 : Int) < a1.size
      · exact walk_long b off len0 cap0 z0 a1 w (by omega) hb hcell' w1 hlen
      · exact walk_short b off len0 cap0 z0 a1 w (by omega) hb hcell' w1 (by omega)

set_option maxRecDepth 100000 in
theorem lifted (os : Os) (started : os.Started) (H : Type) (enc : TypeId × Value → H) :
    ReturnsInHanded {} Try.checked os 5 .any (Rows.wireBackSpec.pre6 enc Try.prog Try.f5 Rows.wireBackRow.domain false) (Rows.wireBackSpec.post enc Try.prog Try.f5 false true false false) := by
  refine returnsInHanded_of_change (C := Try.checked) own started (by kernel_rfl) Try.func5
    (ChangeSpec.witness6 (enc := enc) (C := Try.checked) false ⟨#[], #[.slice none 0 0, .string ByteArray.empty], []⟩ 8 (by kernel_rfl) (by kernel_rfl) (by kernel_rfl) (by kernel_rfl)) ?_
  intro W base args ds gs before hval0 hW hcnd _
  have hval : ∀ (j : Nat) t v, Try.f5.params[j]? = some t → args[j]? = some v → Value.okWide Try.prog W .any base t v := hval0
  have hW' := hW
  obtain ⟨p, q, hA0, hV, rfl, hfz, hnd⟩ := hW
  have hA : DataW.TrodAll enc Try.prog W 0 (fun _ => true) true Try.f5.params.toList args.toList ds p := hA0
  rw [Try.params5] at hA hval
  obtain ⟨v0, vs0, d0, ds0, p0, q0, hargs, rfl, rfl, h0, r0⟩ := trodAll_cons hA
  obtain ⟨v1, vs1, d1, ds1, p1, q1, rfl, rfl, rfl, h1, r1⟩ := trodAll_cons r0
  obtain ⟨rfl, rfl, rfl⟩ := trodAll_nil r1
  obtain rfl : args = #[v0, v1] := by cases args; simp_all
  obtain ⟨rfl, rfl⟩ := trodVars_none hV
  obtain ⟨a0, len0, cap0, rfl⟩ := okWide_slice Try.underlying41 (hval 0 41 v0 rfl rfl)
  have k0 := h0
  have lt0 : ∀ x ∈ p0, x.block < W.heap.size := by obtain ⟨m, hm⟩ := k0; exact DataW.trod_lt m _ _ _ hm
  obtain ⟨z0, w0⟩ : ∃ zs, IsRow .i64 W a0 len0 cap0 zs := by
    obtain ⟨fuel, hf⟩ := h0
    rcases open_ints Try.underlying41 Try.underlying3 (by kernel_rfl) hf with ⟨hcs, _⟩ | ⟨x, l, c, zs, hcs, _, hl, hm, hz, _, hcell, hwz⟩
    · simp [Value.cells] at hcs
      obtain ⟨rfl, rfl, rfl⟩ := hcs
      exact ⟨[], .inl ⟨rfl, rfl, rfl, rfl⟩⟩
    · simp [Value.cells] at hcs
      obtain ⟨rfl, rfl, rfl⟩ := hcs
      exact ⟨zs, .inr ⟨_, rfl, hl, hm, by simpa using hz, hcell, hwz⟩⟩
  obtain ⟨a1, rfl, rfl, rfl, w1⟩ := open_string Try.underlying9 (hval 1 9 v1 rfl rfl) h1
  clear hA0 hval0
  refine (walk a0 len0 cap0 z0 a1 W w0 w1).mono fun e W' ⟨he, bel⟩ => ?_
  subst he
  exact ⟨_, rfl, _, _, _, [], _, [], hW', trodAll_mk1 (shut_bool Try.underlying4 _), (trodAll_cons_mk (Below.trod laidOut (by kernel_rfl) (of_decide_eq_true (by kernel_rfl)) k0 bel lt0) (trodAll_cons_mk (shut_string Try.underlying9 w1) trodAll_mk0)), rfl, bel.frame _, fun h => by cases h⟩

theorem over : Rows.wireBackRow.holds Try.pinned (OpenSpec.ofChange Rows.wireBackSpec) :=
  OpenClaim.holds_of_wide 5 Try.f5 rfl rfl rfl rfl rfl rfl rfl ⟨rfl, rfl, rfl, rfl, rfl⟩ rfl rfl rfl rfl rfl (by kernel_rfl) Try.func5 (by kernel_rfl)
    (of_decide_eq_true (by kernel_rfl)) (by unfold Func.isWrapper; first | (rw [if_pos (by decide +kernel)]; kernel_rfl) | (rw [if_neg (by decide +kernel)]; exact ⟨rfl, rfl⟩))
    (fun os started H enc _ => lifted os started H enc)

theorem proved : Rows.WireBackSaid := over
#print axioms proved
end Go.Proofs.Ytfgcbdmhkehhlaa.wireBack
