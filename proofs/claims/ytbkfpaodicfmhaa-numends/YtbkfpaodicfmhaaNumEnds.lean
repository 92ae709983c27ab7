/-
  Numbers at a modulus and above, texts of another size and moduli that there are not are refused, and the number one below a modulus is minus one, modulo any of the three primes: at every input.
-/
import Derived.Test.YtbkfpaodicfmhaaNwE
import Derived.Test.YtbkfpaodicfmhaaRows
import Derived.WalkKit
import Derived.ProofKit
import Derived.OpenShut
import Derived.ShutString
import Derived.Below
import Derived.ChangeOld
namespace Go.Proofs.Ytbkfpaodicfmhaa.numEnds
open Go.ChangeShapes Go.WideShapes Go.ChangeAt Go.RowKit
open Go.ChangeMaps (open_string shut_string)
set_option linter.unusedVariables false

theorem own : ownKnob Try.prog.godebug = none := by kernel_rfl

open Go.Proofs.Nu Go.Proofs.Nt Go.Proofs.Nw
open Go.Proofs.Aes (byt byt_lt get_byt)
open Go.Proofs.Im (ready_one2)
open Go.Proofs.Rt (ready_callTo)
set_option maxHeartbeats 4000000 in
set_option maxRecDepth 100000 in
theorem walk (a0 : Int) (a1 : Int) (a2 : Int) (_w0 : (Lit.int .i64 a0).wf = true) (_w1 : (Lit.int .i64 a1).wf = true) (_w2 : (Lit.int .i64 a2).wf = true) (w : World) :
    Calls Try.prog 6 #[.int .i64 a0, .int .i64 a1, .int .i64 a2] w fun e w' => e = .returned (.bool true) ∧ Below w.heap.size w w' := by
  have HB : Hid (Below w.heap.size w w) := Below.refl _ _
  clear _w0 _w1 _w2
  obtain ⟨q, hq, hq1, hq2⟩ := third_of a0
  have hz : 0 ≤ (q : Int) ∧ (q : Int) ≤ 2 := by omega
  have hqw : IntKind.i64.wrap (q : Int) = (q : Int) := IntWalk.i64_in _ (by omega)
  obtain ⟨d, hd, hda⟩ : ∃ n : Nat, n ≤ 7 ∧ bits .and .i64 a1 7 = (n : Int) := ⟨_, Nat.and_le_right, Lw.and_of a1 7 (by omega)⟩
  obtain ⟨s, hs, hsa⟩ : ∃ n : Nat, n ≤ 1 ∧ bits .and .i64 a2 1 = (n : Int) := ⟨_, Nat.and_le_right, Lw.and_of a2 1 (by omega)⟩
  have hm := md_pos (q : Int)
  have hm1 := small_lt (q : Int) (show 1 < 1000000000000 by decide)
  have hroom := md_room (q : Int)
  have hT : md q - 1 < md q := by omega
  have k1 : Hid (∀ w, Calls Try.prog 10 #[.int .i64 (q : Int), .string (t32 0), .string (t32 1)] w fun e w' => e = .returned (.tuple #[.string (t32 (md q - 1)), .int .i64 0]) ∧ Below w.heap.size w w') := fun w => by
    have h := sub_num hz hm hm1 w
    rw [Nat.zero_add, Nat.mod_eq_of_lt hT] at h
    exact h
  have k2 : Hid (∀ w, Calls Try.prog 8 #[.int .i64 (q : Int), .string (t32 (md q - 1)), .string (t32 1)] w fun e w' => e = .returned (.tuple #[.string (t32 0), .int .i64 0]) ∧ Below w.heap.size w w') := fun w => by
    have h := add_num hz hT hm1 w
    rw [Nat.sub_add_cancel (by omega), Nat.mod_self] at h
    exact h
  have k3 : Hid (∀ w, Calls Try.prog 11 #[.int .i64 (q : Int), .string (t32 (md q - 1)), .string (t32 (md q - 1))] w fun e w' => e = .returned (.tuple #[.string (t32 1), .int .i64 0]) ∧ Below w.heap.size w w') := fun w => by
    have h := mul_num hz hT hT w
    rw [square_top hm1] at h
    exact h
  obtain ⟨V, hV⟩ : ∃ V, md q - 1 + (d + 1) = V := ⟨_, rfl⟩
  have hVno : numOk (q : Int) (t32 V) = false := by
    rw [Bool.eq_false_iff]
    intro c
    have h := ((numOk_iff _ _).1 c).2.2
    rw [bn_t32 (by omega)] at h
    omega
  have k4 : Hid (∀ w, Calls Try.prog 8 #[.int .i64 (q : Int), .string (t32 V), .string (t32 0)] w fun e w' => e = .returned (.tuple #[.string ⟨#[]⟩, .int .i64 900]) ∧ Below w.heap.size w w') := fun w => add_bad (no_left hVno) w
  have k5 : Hid (∀ w, Calls Try.prog 11 #[.int .i64 (q : Int), .string (t32 0), .string (t32 V)] w fun e w' => e = .returned (.tuple #[.string ⟨#[]⟩, .int .i64 900]) ∧ Below w.heap.size w w') := fun w => mul_bad (no_right hVno) w
  obtain ⟨Kz, hKs, hKc⟩ := Lw.nought_text (30 + s)
  have k6 : Hid (∀ w, Calls Try.prog 8 #[.int .i64 (q : Int), .string Kz, .string (t32 0)] w fun e w' => e = .returned (.tuple #[.string ⟨#[]⟩, .int .i64 900]) ∧ Below w.heap.size w w') := fun w => add_bad (no_left (by
    rw [Bool.eq_false_iff]
    intro c
    have h := ((numOk_iff _ _).1 c).2.1
    omega)) w
  have k7 : Hid (∀ w, Calls Try.prog 10 #[.int .i64 (-1 - (d : Int)), .string (t32 0), .string (t32 0)] w fun e w' => e = .returned (.tuple #[.string ⟨#[]⟩, .int .i64 900]) ∧ Below w.heap.size w w') := fun w => sub_bad (no_left (by
    rw [Bool.eq_false_iff]
    intro c
    have h := ((numOk_iff _ _).1 c).1.1
    omega)) w
  have n0 : Hid (∀ w, Calls Try.prog 17 #[.int .i64 0] w fun e w' => e = .returned (.string (t32 0)) ∧ Below w.heap.size w w') := fun w => word_any 0 w (by omega)
  have n1 : Hid (∀ w, Calls Try.prog 17 #[.int .i64 1] w fun e w' => e = .returned (.string (t32 1)) ∧ Below w.heap.size w w') := fun w => word_any 1 w (by omega)
  obtain ⟨T, hTe⟩ : ∃ T, md q - 1 = T := ⟨_, rfl⟩
  rw [hTe] at k1 k2 k3 hV
  have HV : Hid (T + (d + 1) = V) := hV
  have HV2 : Hid (V < 2 ^ 256) := by show V < 2 ^ 256; omega
  clear hm hm1 hroom hT hVno hTe hz hV
  have hTs : (t32 T).size = 32 := t32_size T
  have hbr := fun W => bytes_run W (t32 T)
  rw [hTs] at hbr
  have HSg := Lib.hid (fun W => bytes_seg W (t32 T))
  rw [hTs] at HSg
  have HWb := Lib.hid (fun W => bytes_below W (t32 T))
  have HBy : Hid (∀ r, r < 32 → byt (t32 T) r = tb T r) := fun r hr => t32_byt T r hr
  have HKs := Lib.hid hKs
  clear hKs
  generalize hTt : t32 T = Tt at *
  generalize t32 0 = T0 at *
  generalize t32 1 = T1 at *
  clear hTt
  have HD := Lib.hid hd
  have hdw : wrap64 (1 + (d : Int)) = ((d + 1 : Nat) : Int) := by unfold wrap64; omega
  go_enter Try.func6, Try.ntmps6
  go_upto_region 7 with (first
    | (go_at_call 15; refine (Nw.awake9_any _).mono ?_; rintro e u ⟨rfl, hb⟩; have HB := Lib.hid (Lw.go_on HB.out hb); clear hb)
    | (go_at_call_of 17 (Value.int IntKind.i64 0); refine (n0.out _).mono ?_; rintro e u ⟨rfl, hb⟩; have HB := Lib.hid (Lw.go_on HB.out hb); clear hb)
    | (go_at_call_of 17 (Value.int IntKind.i64 1); refine (n1.out _).mono ?_; rintro e u ⟨rfl, hb⟩; have HB := Lib.hid (Lw.go_on HB.out hb); clear hb)
    | (go_at_call 10; refine (k1.out _).mono ?_; rintro e u ⟨rfl, hb⟩; have HB := Lib.hid (Lw.go_on HB.out hb); clear hb)
    | (go_at_call 8; refine (k2.out _).mono ?_; rintro e u ⟨rfl, hb⟩; have HB := Lib.hid (Lw.go_on HB.out hb); clear hb)
    | (go_at_call 11; refine (k3.out _).mono ?_; rintro e u ⟨rfl, hb⟩; have HB := Lib.hid (Lw.go_on HB.out hb); clear hb))
  clear k1 k2 k3
  go_upto_region 10 with (fail)
  have HSe := Lib.hid ((HSg.out u).congr HBy.out)
  have HBe : Hid (Below w.heap.size w (bytesW u Tt)) := Lw.go_on HB.out (HWb.out u)
  have HG : Hid (w.heap.size ≤ u.heap.size) := HB.out.size
  clear hbr HSg HWb HB HBy
  generalize bytesW u Tt = v0 at HSe HBe ⊢
  generalize u.heap.size = g at HSe HG ⊢
  generalize grownCap u 32 0 5 = C
  go_wp2_with (fail)
  go_loopw [15, 16] (fun vc vi wx => ∃ (j c : Nat), Hid (j ≤ 32) ∧ Hid (c ≤ 8) ∧ Hid (c + T / 256 ^ j = V / 256 ^ j) ∧ vc = .int .i64 c ∧ vi = .int .i64 (31 - (j : Int)) ∧ Hid (Seg wx g 0 32 (vb T V j)) ∧ Hid (Below w.heap.size w wx)) (fun _ vi _ => (intOf vi + 1).toNat)
  case atStart => exact ⟨0, d + 1, Nat.zero_le _, small_carry HD.out, at_start HV.out, congrArg (Value.int IntKind.i64) hdw, rfl, HSe.out.congr fun r _ => by unfold vb; rw [if_neg (Nat.not_lt_zero _)], HBe⟩
  case round =>
    clear HSe HBe hdw HV
    have HDa := Lib.hid hda
    have HSa := Lib.hid hsa
    clear hda hsa
    obtain ⟨j, c, hj, hc, hcv, rfl, rfl, HSe, HB⟩ := hrel
    by_cases hlt : j < 32 ∧ 0 < c
    · obtain ⟨t, ht⟩ : ∃ t, 31 - j = t := ⟨_, rfl⟩
      have t32' : t < 32 := by omega
      have t1 : (31 : Int) - (j : Int) = (t : Int) := by omega
      have t2 : (t : Int) < 32 := by omega
      have HJ := Lib.hid hlt
      have tl : ((0 : Int) ≤ (t : Int)) = True := eq_true (by omega)
      have cl : ((0 : Int) < (c : Int)) = True := eq_true (by omega)
      have tl2 : (0 : Int) ≤ (t : Int) := by omega
      have cl2 : (0 : Int) < (c : Int) := by omega
      have c8 : (c : Int) ≤ 8 := by have := hc.out; omega
      rw [t1]
      have yc := (HSe.out.2 t t32').1
      have yf := (HSe.out.2 t t32').2
      rw [Nat.zero_add] at yc yf
      have hy : vb T V j t = tb T t := by unfold vb; rw [if_neg (by omega)]
      rw [hy] at yc
      have y8 := tb_lt T t
      obtain ⟨y, hye⟩ : ∃ y, tb T t = y := ⟨_, rfl⟩
      rw [hye] at yc y8
      have HT := Lib.hid hye
      have HTj := Lib.hid ht
      have y9 : (y : Int) < 256 := by omega
      have e1 : bits .and .i64 ((c : Int) + (y : Int)) 255 % 256 = (((c + y) % 256 : Nat) : Int) := by
        have h1 := Lw.and_of ((c : Int) + (y : Int)) 255 (by decide)
        rw [show (((c : Int) + (y : Int)) % 18446744073709551616).toNat = c + y by omega, show 255 = 2 ^ 8 - 1 from rfl, Nat.and_two_pow_sub_one_eq_mod] at h1
        rw [show bits .and .i64 ((c : Int) + (y : Int)) 255 = (((c + y) % 2 ^ 8 : Nat) : Int) from h1, show (2 : Nat) ^ 8 = 256 from rfl]
        omega
      clear hlt hy hye ht hj
      go_wp2_with (fail)
      rw [cast_div, cast_mod]
      have hco := carry_on hcv.out (byte_at HT.out HTj.out HJ.out.1)
      exact ⟨⟨j + 1, (c + y) / 256, HJ.out.1, carry_small hc.out y8, hco.1, rfl, congrArg (Value.int IntKind.i64) (down_one HTj.out HJ.out.1), (HSe.out.set t ((c + y) % 256) t32').congr fun r hr => vb_on HTj.out HJ.out.1 hco.2 r hr, HB.out.setCell HG.out _⟩, meas_down t⟩
    · have he : j = 32 ∨ V / 256 ^ j = T / 256 ^ j := by
        have h1 := hj.out
        have h2 := hcv.out
        rcases Nat.lt_or_ge j 32 with h | h
        · right
          obtain rfl : c = 0 := by omega
          rw [← h2, Nat.zero_add]
        · left; omega
      obtain ⟨X, hXe⟩ : ∃ X, vb T V j = X := ⟨_, rfl⟩
      have HCv : Hid (∀ W, Seg W g 0 32 X → (Go.convert 36 9 (.slice (some ⟨g, 0, none⟩) 32 C)).run Try.prog W = .ok (.string (t32 V)) W) := fun W h => by rw [← hXe] at h; exact seg_all h he C
      rw [hXe] at HSe
      clear hXe he hcv HV2
      generalize t32 V = TV at HCv k4 k5
      have HS : Hid (∀ W, Seg W g 0 32 X → Below w.heap.size w W → (Go.convert 36 9 (.slice (some ⟨g, 0, none⟩) 32 C)).run Try.prog W = .ok (.string TV) W ∧ Seg W g 0 32 X ∧ Below w.heap.size w W) := fun W h1 h2 => ⟨HCv.out W h1, h1, h2⟩
      have N0 : Hid (∀ W, (Go.convert 36 9 (.slice (some ⟨g, 0, none⟩) 32 C)).run Try.prog W = .ok (.string TV) W ∧ Seg W g 0 32 X ∧ Below w.heap.size w W → Calls Try.prog 17 #[.int .i64 0] W fun e w' => e = .returned (.string T0) ∧ (Go.convert 36 9 (.slice (some ⟨g, 0, none⟩) 32 C)).run Try.prog w' = .ok (.string TV) w' ∧ Seg w' g 0 32 X ∧ Below w.heap.size w w') := fun W hS => by
        refine (n0.out W).mono ?_
        rintro e w' ⟨rfl, hb⟩
        exact ⟨rfl, HS.out _ (hS.2.1.on hb) (Lw.go_on hS.2.2 hb)⟩
      have K4 : Hid (∀ W, (Go.convert 36 9 (.slice (some ⟨g, 0, none⟩) 32 C)).run Try.prog W = .ok (.string TV) W ∧ Seg W g 0 32 X ∧ Below w.heap.size w W → Calls Try.prog 8 #[.int .i64 (q : Int), .string TV, .string T0] W fun e w' => e = .returned (.tuple #[.string ⟨#[]⟩, .int .i64 900]) ∧ (Go.convert 36 9 (.slice (some ⟨g, 0, none⟩) 32 C)).run Try.prog w' = .ok (.string TV) w' ∧ Seg w' g 0 32 X ∧ Below w.heap.size w w') := fun W hS => by
        refine (k4.out W).mono ?_
        rintro e w' ⟨rfl, hb⟩
        exact ⟨rfl, HS.out _ (hS.2.1.on hb) (Lw.go_on hS.2.2 hb)⟩
      have K5 : Hid (∀ W, (Go.convert 36 9 (.slice (some ⟨g, 0, none⟩) 32 C)).run Try.prog W = .ok (.string TV) W ∧ Seg W g 0 32 X ∧ Below w.heap.size w W → Calls Try.prog 11 #[.int .i64 (q : Int), .string T0, .string TV] W fun e w' => e = .returned (.tuple #[.string ⟨#[]⟩, .int .i64 900]) ∧ (Go.convert 36 9 (.slice (some ⟨g, 0, none⟩) 32 C)).run Try.prog w' = .ok (.string TV) w' ∧ Seg w' g 0 32 X ∧ Below w.heap.size w w') := fun W hS => by
        refine (k5.out W).mono ?_
        rintro e w' ⟨rfl, hb⟩
        exact ⟨rfl, HS.out _ (hS.2.1.on hb) (Lw.go_on hS.2.2 hb)⟩
      obtain ⟨I, hI⟩ : ∃ I : Int, 31 - (j : Int) = I := ⟨_, rfl⟩
      rw [hI]
      have hc0 := hc.out
      rcases Nat.lt_or_ge j 32 with hl | hl
      · obtain rfl : c = 0 := by omega
        have I0 : ((0 : Int) ≤ I) = True := eq_true (by omega)
        have I1 : (0 : Int) ≤ I := by omega
        clear hlt hj hI hl hc0 hc
        rw [show ((0 : Nat) : Int) = 0 from rfl]
        go_upto_region 17 with (fail)
        clear I0 I1
        have hSd := HS.out wr.drew HSe.out.drew HB.out.drew
        clear HSe HB k4 k5
        go_region_held3 (fun W => (Go.convert 36 9 (.slice (some ⟨g, 0, none⟩) 32 C)).run Try.prog W = .ok (.string TV) W ∧ Seg W g 0 32 X ∧ Below w.heap.size w W) (first | exact hS2 | exact hS1 | exact hSd)
          (first | (go_at_call 17; refine (N0.out _ hSd).mono ?_; rintro e u1 ⟨rfl, hS1⟩) | (go_at_call 8; refine (K4.out _ hS1).mono ?_; rintro e u2 ⟨rfl, hS2⟩))
        clear hSd hS1
        go_upto_region 18 with (fail)
        have hSe := HS.out u2.drew hS2.2.1.drew hS2.2.2.drew
        clear hS2
        go_region_held3 (fun W => (Go.convert 36 9 (.slice (some ⟨g, 0, none⟩) 32 C)).run Try.prog W = .ok (.string TV) W ∧ Seg W g 0 32 X ∧ Below w.heap.size w W) (first | exact hS4 | exact hS3 | exact hSe)
          (first | (go_at_call 17; refine (N0.out _ hSe).mono ?_; rintro e u3 ⟨rfl, hS3⟩) | (go_at_call 11; refine (K5.out _ hS3).mono ?_; rintro e u4 ⟨rfl, hS4⟩))
        have HB := Lib.hid hS4.2.2
        clear hSe hS3 hS4 HS HCv N0 K4 K5
        go_upto_region 19 with (fail)
        obtain ⟨M, hM, hMc, hmk⟩ := Lw.zeros (30 + s) (by omega)
        obtain ⟨m, hm⟩ : ∃ m, 30 + s = m := ⟨_, rfl⟩
        rw [hm] at hM hMc hmk hKc
        have tm : IntKind.i64.wrap (30 + (s : Int)) = (m : Int) := by rw [← hm, IntWalk.i64_in _ (by omega)]; omega
        have hsa := HSa.out
        clear hm
        refine wp_region_any (by kernel_rfl) ?_
        change wpAny _ _ _ _ _ _ _ u4.drew
        have HB : Hid (Below w.heap.size w u4.drew) := HB.out.drew
        generalize u4.drew = W0 at HB ⊢
        refine Lw.take_to (i := 0) (some 100) (.int .i64 (q : Int)) rfl rfl (by kernel_rfl) (by kernel_rfl) (by kernel_rfl) (fun _ _ _ h => h) (Or.inl ⟨by rfl, fun w => by go_simp⟩) ?_
        simp only [Act.put, List.setIfInBounds_toArray, List.set_cons_zero, List.set_cons_succ]
        refine Lw.take_to (i := 1) (some 101) (.int .i64 a2) rfl rfl (by kernel_rfl) (by kernel_rfl) (by kernel_rfl) (fun _ _ _ h => h) (Or.inl ⟨by rfl, fun w => by go_simp⟩) ?_
        simp only [Act.put, List.setIfInBounds_toArray, List.set_cons_zero, List.set_cons_succ]
        refine Lw.take_to (i := 2) (some 102) (.int .i64 (s : Int)) rfl rfl (by kernel_rfl) (by kernel_rfl) (by kernel_rfl) (fun _ _ _ h => h) (Or.inl ⟨by rfl, fun w => by go_simp⟩) ?_
        simp only [Act.put, List.setIfInBounds_toArray, List.set_cons_zero, List.set_cons_succ]
        refine Lw.take_to (i := 3) (some 103) (.int .i64 (m : Int)) rfl rfl (by kernel_rfl) (by kernel_rfl) (by kernel_rfl) (fun _ _ _ h => h) (Or.inl ⟨by rfl, fun w => by go_simp⟩) ?_
        simp only [Act.put, List.setIfInBounds_toArray, List.set_cons_zero, List.set_cons_succ]
        clear hsa tm
        refine Lw.meetA (fun (gk : Nat) a => ((a.put (some 104) (.slice (some ⟨gk, 0, none⟩) m m)).put (some 105) (.string Kz)).put (some 106) (.string T0)) #[true, true, true, true, true, true, true, false, false, false, false, false, false] 6 (fun _ W => Below w.heap.size w W) ?_ (fun key0 => ?_)
        · rintro gk W hb
          simp only [Act.put, List.setIfInBounds_toArray, List.set_cons_zero, List.set_cons_succ]
          have HB := Lib.hid hb
          clear hb hKc hmk hMc hM
          refine wpAny_ready (rs := [7]) (by kernel_rfl) (by simp) ?_
          refine ready_callTo (some 107) rfl rfl rfl 8 _ _ rfl (fun _ _ => by go_simp) #[.int .i64 (q : Int), .string Kz, .string T0] (by kernel_rfl) ?_ AllReady.nil
          refine (k6.out _).mono ?_
          rintro e u6 ⟨rfl, hb⟩
          refine ⟨_, rfl, ?_⟩
          have HB := Lib.hid (Lw.go_on HB.out hb)
          clear hb
          simp only [Act.put, List.setIfInBounds_toArray, List.set_cons_zero, List.set_cons_succ]
          refine Lw.take_to (i := 8) (some 99) (.tuple #[.string ⟨#[]⟩, .int .i64 900]) rfl rfl (by kernel_rfl) (by kernel_rfl) (by kernel_rfl) (fun _ _ _ h => h) (Or.inl ⟨by rfl, fun w => by go_simp⟩) ?_
          simp only [Act.put, List.setIfInBounds_toArray, List.set_cons_zero, List.set_cons_succ]
          refine Lw.take_to (i := 9) (some 108) (.string ⟨#[]⟩) rfl rfl (by kernel_rfl) (by kernel_rfl) (by kernel_rfl) (fun _ _ _ h => h) (Or.inl ⟨by rfl, fun w => by go_simp⟩) ?_
          simp only [Act.put, List.setIfInBounds_toArray, List.set_cons_zero, List.set_cons_succ]
          refine Lw.take_to (i := 10) (some 109) (.int .i64 900) rfl rfl (by kernel_rfl) (by kernel_rfl) (by kernel_rfl) (fun _ _ _ h => h) (Or.inl ⟨by rfl, fun w => by go_simp⟩) ?_
          simp only [Act.put, List.setIfInBounds_toArray, List.set_cons_zero, List.set_cons_succ]
          refine Lw.take_to (i := 11) (some 21) (.string ⟨#[]⟩) rfl rfl (by kernel_rfl) (by kernel_rfl) (by kernel_rfl) (fun _ _ _ h => h) (Or.inl ⟨by rfl, fun w => by go_simp⟩) ?_
          simp only [Act.put, List.setIfInBounds_toArray, List.set_cons_zero, List.set_cons_succ]
          refine Lw.take_to (i := 12) (some 22) (.int .i64 900) rfl rfl (by kernel_rfl) (by kernel_rfl) (by kernel_rfl) (fun _ _ _ h => h) (Or.inl ⟨by rfl, fun w => by go_simp⟩) ?_
          simp only [Act.put, List.setIfInBounds_toArray, List.set_cons_zero, List.set_cons_succ]
          refine wpAny_done (by kernel_rfl) ?_ _
          have hda := HDa.out
          have hd7 : (d : Int) ≤ 7 := by have := HD.out; omega
          go_wp2_with (first
            | (go_at_call_of 17 (Value.int IntKind.i64 0); refine (n0.out _).mono ?_; rintro e u ⟨rfl, hb⟩; have HB := Lib.hid (Lw.go_on HB.out hb); clear hb)
            | (go_at_call_of 17 (Value.int IntKind.i64 1); refine (n1.out _).mono ?_; rintro e u ⟨rfl, hb⟩; have HB := Lib.hid (Lw.go_on HB.out hb); clear hb)
            | (go_at_call 10; refine (k7.out _).mono ?_; rintro e u ⟨rfl, hb⟩; have HB := Lib.hid (Lw.go_on HB.out hb); clear hb)
            | (go_at_call 14; refine (Lw.num_same _ _).mono ?_; rintro e u ⟨rfl, rfl⟩))
          go_ret
          exact ⟨rfl, HB.out⟩
        · simp only [Act.put, List.setIfInBounds_toArray, List.set_cons_zero, List.set_cons_succ] at key0
          have key := Lib.hid key0
          clear key0
          refine wpAny_ready (rs := [4, 6]) (by kernel_rfl) (by simp) ?_
          refine ready_one2 (some 104) rfl rfl rfl (.slice (some ⟨W0.heap.size, 0, none⟩) m m) (W0.alloc (.cells M 5)) (by go_simp) ?_ (ready_callTo (some 106) rfl rfl rfl 17 _ _ rfl (fun _ _ => by go_simp) #[.int .i64 0] (by kernel_rfl) ?_ AllReady.nil)
          · simp only [Act.put, List.setIfInBounds_toArray, List.set_cons_zero, List.set_cons_succ]
            have HR : Hid (Lw.RowB (W0.alloc (.cells M 5)) W0.heap.size m (fun _ => 0)) := Lw.rowB_new W0 M m hM hMc
            have HB1 : Hid (Below w.heap.size w (W0.alloc (.cells M 5))) := HB.out.alloc HB.out.size _
            clear HB hmk
            generalize W0.alloc (.cells M 5) = W1 at HR HB1 ⊢
            generalize W0.heap.size = gk at HR ⊢
            have cv := hKc W1 gk HR.out
            refine wpAny_ready (rs := [5, 6]) (by kernel_rfl) (by simp) ?_
            refine ready_one2 (some 105) rfl rfl rfl (.string Kz) W1 (by go_simp) ?_ (ready_callTo (some 106) rfl rfl rfl 17 _ _ rfl (fun _ _ => by go_simp) #[.int .i64 0] (by kernel_rfl) ?_ AllReady.nil)
            · simp only [Act.put, List.setIfInBounds_toArray, List.set_cons_zero, List.set_cons_succ]
              refine wpAny_ready (rs := [6]) (by kernel_rfl) (by simp) ?_
              refine ready_callTo (some 106) rfl rfl rfl 17 _ _ rfl (fun _ _ => by go_simp) #[.int .i64 0] (by kernel_rfl) ?_ AllReady.nil
              refine (n0.out _).mono ?_
              rintro e u7 ⟨rfl, hb⟩
              refine ⟨_, rfl, ?_⟩
              simp only [Act.put, List.setIfInBounds_toArray, List.set_cons_zero, List.set_cons_succ]
              exact key.out gk _ (Lw.go_on HB1.out hb)
            · refine (n0.out _).mono ?_
              rintro e u7 ⟨rfl, hb⟩
              refine ⟨_, rfl, ?_⟩
              have cv2 := hKc u7 gk (HR.out.on hb)
              clear cv
              simp only [Act.put, List.setIfInBounds_toArray, List.set_cons_zero, List.set_cons_succ]
              refine wpAny_ready (rs := [5]) (by kernel_rfl) (by simp) ?_
              refine ready_one2 (some 105) rfl rfl rfl (.string Kz) u7 (by go_simp) ?_ AllReady.nil
              simp only [Act.put, List.setIfInBounds_toArray, List.set_cons_zero, List.set_cons_succ]
              exact key.out gk _ (Lw.go_on HB1.out hb)
          · refine (n0.out _).mono ?_
            rintro e u7 ⟨rfl, hb⟩
            refine ⟨_, rfl, ?_⟩
            simp only [Act.put, List.setIfInBounds_toArray, List.set_cons_zero, List.set_cons_succ]
            refine wpAny_ready (rs := [4]) (by kernel_rfl) (by simp) ?_
            refine ready_one2 (some 104) rfl rfl rfl (.slice (some ⟨u7.heap.size, 0, none⟩) m m) (u7.alloc (.cells M 5)) (by go_simp) ?_ AllReady.nil
            simp only [Act.put, List.setIfInBounds_toArray, List.set_cons_zero, List.set_cons_succ]
            have cv := hKc (u7.alloc (.cells M 5)) u7.heap.size (Lw.rowB_new u7 M m hM hMc)
            refine wpAny_ready (rs := [5]) (by kernel_rfl) (by simp) ?_
            refine ready_one2 (some 105) rfl rfl rfl (.string Kz) (u7.alloc (.cells M 5)) (by go_simp) ?_ AllReady.nil
            simp only [Act.put, List.setIfInBounds_toArray, List.set_cons_zero, List.set_cons_succ]
            exact key.out u7.heap.size _ ((Lw.go_on HB.out hb).alloc (Lw.go_on HB.out hb).size _)
      · have I0 : ((0 : Int) ≤ I) = False := eq_false (by have := hj.out; omega)
        have I1 : ¬ (0 : Int) ≤ I := by omega
        clear hlt hj hI hl hc0
        go_upto_region 17 with (fail)
        clear I0 I1
        have hSd := HS.out wr.drew HSe.out.drew HB.out.drew
        clear HSe HB k4 k5
        go_region_held3 (fun W => (Go.convert 36 9 (.slice (some ⟨g, 0, none⟩) 32 C)).run Try.prog W = .ok (.string TV) W ∧ Seg W g 0 32 X ∧ Below w.heap.size w W) (first | exact hS2 | exact hS1 | exact hSd)
          (first | (go_at_call 17; refine (N0.out _ hSd).mono ?_; rintro e u1 ⟨rfl, hS1⟩) | (go_at_call 8; refine (K4.out _ hS1).mono ?_; rintro e u2 ⟨rfl, hS2⟩))
        clear hSd hS1
        go_upto_region 18 with (fail)
        have hSe := HS.out u2.drew hS2.2.1.drew hS2.2.2.drew
        clear hS2
        go_region_held3 (fun W => (Go.convert 36 9 (.slice (some ⟨g, 0, none⟩) 32 C)).run Try.prog W = .ok (.string TV) W ∧ Seg W g 0 32 X ∧ Below w.heap.size w W) (first | exact hS4 | exact hS3 | exact hSe)
          (first | (go_at_call 17; refine (N0.out _ hSe).mono ?_; rintro e u3 ⟨rfl, hS3⟩) | (go_at_call 11; refine (K5.out _ hS3).mono ?_; rintro e u4 ⟨rfl, hS4⟩))
        have HB := Lib.hid hS4.2.2
        clear hSe hS3 hS4 HS HCv N0 K4 K5
        go_upto_region 19 with (fail)
        obtain ⟨M, hM, hMc, hmk⟩ := Lw.zeros (30 + s) (by omega)
        obtain ⟨m, hm⟩ : ∃ m, 30 + s = m := ⟨_, rfl⟩
        rw [hm] at hM hMc hmk hKc
        have tm : IntKind.i64.wrap (30 + (s : Int)) = (m : Int) := by rw [← hm, IntWalk.i64_in _ (by omega)]; omega
        have hsa := HSa.out
        clear hm
        refine wp_region_any (by kernel_rfl) ?_
        change wpAny _ _ _ _ _ _ _ u4.drew
        have HB : Hid (Below w.heap.size w u4.drew) := HB.out.drew
        generalize u4.drew = W0 at HB ⊢
        refine Lw.take_to (i := 0) (some 100) (.int .i64 (q : Int)) rfl rfl (by kernel_rfl) (by kernel_rfl) (by kernel_rfl) (fun _ _ _ h => h) (Or.inl ⟨by rfl, fun w => by go_simp⟩) ?_
        simp only [Act.put, List.setIfInBounds_toArray, List.set_cons_zero, List.set_cons_succ]
        refine Lw.take_to (i := 1) (some 101) (.int .i64 a2) rfl rfl (by kernel_rfl) (by kernel_rfl) (by kernel_rfl) (fun _ _ _ h => h) (Or.inl ⟨by rfl, fun w => by go_simp⟩) ?_
        simp only [Act.put, List.setIfInBounds_toArray, List.set_cons_zero, List.set_cons_succ]
        refine Lw.take_to (i := 2) (some 102) (.int .i64 (s : Int)) rfl rfl (by kernel_rfl) (by kernel_rfl) (by kernel_rfl) (fun _ _ _ h => h) (Or.inl ⟨by rfl, fun w => by go_simp⟩) ?_
        simp only [Act.put, List.setIfInBounds_toArray, List.set_cons_zero, List.set_cons_succ]
        refine Lw.take_to (i := 3) (some 103) (.int .i64 (m : Int)) rfl rfl (by kernel_rfl) (by kernel_rfl) (by kernel_rfl) (fun _ _ _ h => h) (Or.inl ⟨by rfl, fun w => by go_simp⟩) ?_
        simp only [Act.put, List.setIfInBounds_toArray, List.set_cons_zero, List.set_cons_succ]
        clear hsa tm
        refine Lw.meetA (fun (gk : Nat) a => ((a.put (some 104) (.slice (some ⟨gk, 0, none⟩) m m)).put (some 105) (.string Kz)).put (some 106) (.string T0)) #[true, true, true, true, true, true, true, false, false, false, false, false, false] 6 (fun _ W => Below w.heap.size w W) ?_ (fun key0 => ?_)
        · rintro gk W hb
          simp only [Act.put, List.setIfInBounds_toArray, List.set_cons_zero, List.set_cons_succ]
          have HB := Lib.hid hb
          clear hb hKc hmk hMc hM
          refine wpAny_ready (rs := [7]) (by kernel_rfl) (by simp) ?_
          refine ready_callTo (some 107) rfl rfl rfl 8 _ _ rfl (fun _ _ => by go_simp) #[.int .i64 (q : Int), .string Kz, .string T0] (by kernel_rfl) ?_ AllReady.nil
          refine (k6.out _).mono ?_
          rintro e u6 ⟨rfl, hb⟩
          refine ⟨_, rfl, ?_⟩
          have HB := Lib.hid (Lw.go_on HB.out hb)
          clear hb
          simp only [Act.put, List.setIfInBounds_toArray, List.set_cons_zero, List.set_cons_succ]
          refine Lw.take_to (i := 8) (some 99) (.tuple #[.string ⟨#[]⟩, .int .i64 900]) rfl rfl (by kernel_rfl) (by kernel_rfl) (by kernel_rfl) (fun _ _ _ h => h) (Or.inl ⟨by rfl, fun w => by go_simp⟩) ?_
          simp only [Act.put, List.setIfInBounds_toArray, List.set_cons_zero, List.set_cons_succ]
          refine Lw.take_to (i := 9) (some 108) (.string ⟨#[]⟩) rfl rfl (by kernel_rfl) (by kernel_rfl) (by kernel_rfl) (fun _ _ _ h => h) (Or.inl ⟨by rfl, fun w => by go_simp⟩) ?_
          simp only [Act.put, List.setIfInBounds_toArray, List.set_cons_zero, List.set_cons_succ]
          refine Lw.take_to (i := 10) (some 109) (.int .i64 900) rfl rfl (by kernel_rfl) (by kernel_rfl) (by kernel_rfl) (fun _ _ _ h => h) (Or.inl ⟨by rfl, fun w => by go_simp⟩) ?_
          simp only [Act.put, List.setIfInBounds_toArray, List.set_cons_zero, List.set_cons_succ]
          refine Lw.take_to (i := 11) (some 21) (.string ⟨#[]⟩) rfl rfl (by kernel_rfl) (by kernel_rfl) (by kernel_rfl) (fun _ _ _ h => h) (Or.inl ⟨by rfl, fun w => by go_simp⟩) ?_
          simp only [Act.put, List.setIfInBounds_toArray, List.set_cons_zero, List.set_cons_succ]
          refine Lw.take_to (i := 12) (some 22) (.int .i64 900) rfl rfl (by kernel_rfl) (by kernel_rfl) (by kernel_rfl) (fun _ _ _ h => h) (Or.inl ⟨by rfl, fun w => by go_simp⟩) ?_
          simp only [Act.put, List.setIfInBounds_toArray, List.set_cons_zero, List.set_cons_succ]
          refine wpAny_done (by kernel_rfl) ?_ _
          have hda := HDa.out
          have hd7 : (d : Int) ≤ 7 := by have := HD.out; omega
          go_wp2_with (first
            | (go_at_call_of 17 (Value.int IntKind.i64 0); refine (n0.out _).mono ?_; rintro e u ⟨rfl, hb⟩; have HB := Lib.hid (Lw.go_on HB.out hb); clear hb)
            | (go_at_call_of 17 (Value.int IntKind.i64 1); refine (n1.out _).mono ?_; rintro e u ⟨rfl, hb⟩; have HB := Lib.hid (Lw.go_on HB.out hb); clear hb)
            | (go_at_call 10; refine (k7.out _).mono ?_; rintro e u ⟨rfl, hb⟩; have HB := Lib.hid (Lw.go_on HB.out hb); clear hb)
            | (go_at_call 14; refine (Lw.num_same _ _).mono ?_; rintro e u ⟨rfl, rfl⟩))
          go_ret
          exact ⟨rfl, HB.out⟩
        · simp only [Act.put, List.setIfInBounds_toArray, List.set_cons_zero, List.set_cons_succ] at key0
          have key := Lib.hid key0
          clear key0
          refine wpAny_ready (rs := [4, 6]) (by kernel_rfl) (by simp) ?_
          refine ready_one2 (some 104) rfl rfl rfl (.slice (some ⟨W0.heap.size, 0, none⟩) m m) (W0.alloc (.cells M 5)) (by go_simp) ?_ (ready_callTo (some 106) rfl rfl rfl 17 _ _ rfl (fun _ _ => by go_simp) #[.int .i64 0] (by kernel_rfl) ?_ AllReady.nil)
          · simp only [Act.put, List.setIfInBounds_toArray, List.set_cons_zero, List.set_cons_succ]
            have HR : Hid (Lw.RowB (W0.alloc (.cells M 5)) W0.heap.size m (fun _ => 0)) := Lw.rowB_new W0 M m hM hMc
            have HB1 : Hid (Below w.heap.size w (W0.alloc (.cells M 5))) := HB.out.alloc HB.out.size _
            clear HB hmk
            generalize W0.alloc (.cells M 5) = W1 at HR HB1 ⊢
            generalize W0.heap.size = gk at HR ⊢
            have cv := hKc W1 gk HR.out
            refine wpAny_ready (rs := [5, 6]) (by kernel_rfl) (by simp) ?_
            refine ready_one2 (some 105) rfl rfl rfl (.string Kz) W1 (by go_simp) ?_ (ready_callTo (some 106) rfl rfl rfl 17 _ _ rfl (fun _ _ => by go_simp) #[.int .i64 0] (by kernel_rfl) ?_ AllReady.nil)
            · simp only [Act.put, List.setIfInBounds_toArray, List.set_cons_zero, List.set_cons_succ]
              refine wpAny_ready (rs := [6]) (by kernel_rfl) (by simp) ?_
              refine ready_callTo (some 106) rfl rfl rfl 17 _ _ rfl (fun _ _ => by go_simp) #[.int .i64 0] (by kernel_rfl) ?_ AllReady.nil
              refine (n0.out _).mono ?_
              rintro e u7 ⟨rfl, hb⟩
              refine ⟨_, rfl, ?_⟩
              simp only [Act.put, List.setIfInBounds_toArray, List.set_cons_zero, List.set_cons_succ]
              exact key.out gk _ (Lw.go_on HB1.out hb)
            · refine (n0.out _).mono ?_
              rintro e u7 ⟨rfl, hb⟩
              refine ⟨_, rfl, ?_⟩
              have cv2 := hKc u7 gk (HR.out.on hb)
              clear cv
              simp only [Act.put, List.setIfInBounds_toArray, List.set_cons_zero, List.set_cons_succ]
              refine wpAny_ready (rs := [5]) (by kernel_rfl) (by simp) ?_
              refine ready_one2 (some 105) rfl rfl rfl (.string Kz) u7 (by go_simp) ?_ AllReady.nil
              simp only [Act.put, List.setIfInBounds_toArray, List.set_cons_zero, List.set_cons_succ]
              exact key.out gk _ (Lw.go_on HB1.out hb)
          · refine (n0.out _).mono ?_
            rintro e u7 ⟨rfl, hb⟩
            refine ⟨_, rfl, ?_⟩
            simp only [Act.put, List.setIfInBounds_toArray, List.set_cons_zero, List.set_cons_succ]
            refine wpAny_ready (rs := [4]) (by kernel_rfl) (by simp) ?_
            refine ready_one2 (some 104) rfl rfl rfl (.slice (some ⟨u7.heap.size, 0, none⟩) m m) (u7.alloc (.cells M 5)) (by go_simp) ?_ AllReady.nil
            simp only [Act.put, List.setIfInBounds_toArray, List.set_cons_zero, List.set_cons_succ]
            have cv := hKc (u7.alloc (.cells M 5)) u7.heap.size (Lw.rowB_new u7 M m hM hMc)
            refine wpAny_ready (rs := [5]) (by kernel_rfl) (by simp) ?_
            refine ready_one2 (some 105) rfl rfl rfl (.string Kz) (u7.alloc (.cells M 5)) (by go_simp) ?_ AllReady.nil
            simp only [Act.put, List.setIfInBounds_toArray, List.set_cons_zero, List.set_cons_succ]
            exact key.out u7.heap.size _ ((Lw.go_on HB.out hb).alloc (Lw.go_on HB.out hb).size _)

set_option maxRecDepth 100000 in
theorem lifted (os : Os) (started : os.Started) (H : Type) (enc : TypeId × Value → H) :
    ReturnsInHanded {} Try.checked os 6 .any (Rows.numEndsSpec.pre6 enc Try.prog Try.f6 Rows.numEndsRow.domain false) (Rows.numEndsSpec.post enc Try.prog Try.f6 false true false false) := by
  refine returnsInHanded_of_change (C := Try.checked) own started (by kernel_rfl) Try.func6
    (ChangeSpec.witness6 (enc := enc) (C := Try.checked) false ⟨#[], #[.int .i64 0, .int .i64 0, .int .i64 0], []⟩ 8 (by kernel_rfl) (by kernel_rfl) (by kernel_rfl) (by kernel_rfl)) ?_
  intro W base args ds gs before hval0 hW hcnd _
  have hval : ∀ (j : Nat) t v, Try.f6.params[j]? = some t → args[j]? = some v → Value.okWide Try.prog W .any base t v := hval0
  have hW' := hW
  obtain ⟨p, q, hA0, hV, rfl, hfz, hnd⟩ := hW
  have hA : DataW.TrodAll enc Try.prog W 0 (fun _ => true) true Try.f6.params.toList args.toList ds p := hA0
  rw [Try.params6] at hA hval
  obtain ⟨v0, vs0, d0, ds0, p0, q0, hargs, rfl, rfl, h0, r0⟩ := trodAll_cons hA
  obtain ⟨v1, vs1, d1, ds1, p1, q1, rfl, rfl, rfl, h1, r1⟩ := trodAll_cons r0
  obtain ⟨v2, vs2, d2, ds2, p2, q2, rfl, rfl, rfl, h2, r2⟩ := trodAll_cons r1
  obtain ⟨rfl, rfl, rfl⟩ := trodAll_nil r2
  obtain rfl : args = #[v0, v1, v2] := by cases args; simp_all
  obtain ⟨rfl, rfl⟩ := trodVars_none hV
  obtain ⟨a0, rfl, rfl, rfl, w0⟩ := open_int Try.underlying3 (hval 0 3 v0 rfl rfl) h0
  obtain ⟨a1, rfl, rfl, rfl, w1⟩ := open_int Try.underlying3 (hval 1 3 v1 rfl rfl) h1
  obtain ⟨a2, rfl, rfl, rfl, w2⟩ := open_int Try.underlying3 (hval 2 3 v2 rfl rfl) h2
  clear hA0 hval0
  simp only [List.append_nil] at hW'
  refine (walk a0 a1 a2 w0 w1 w2 W).mono fun e W' ⟨he, bel⟩ => ?_
  subst he
  exact ⟨_, rfl, _, _, _, [], [], [], hW', trodAll_mk1 (shut_bool Try.underlying4 _), (trodAll_cons_mk (shut_int Try.underlying3 w0) (trodAll_cons_mk (shut_int Try.underlying3 w1) (trodAll_cons_mk (shut_int Try.underlying3 w2) trodAll_mk0))), rfl, bel.frame _, fun h => by cases h⟩

theorem over : Rows.numEndsRow.holds Try.pinned (OpenSpec.ofChange Rows.numEndsSpec) :=
  OpenClaim.holds_of_wide 6 Try.f6 rfl rfl rfl rfl rfl rfl rfl ⟨rfl, rfl, rfl, rfl, rfl⟩ rfl rfl rfl rfl rfl (by kernel_rfl) Try.func6 (by kernel_rfl)
    (of_decide_eq_true (by kernel_rfl)) (by unfold Func.isWrapper; first | (rw [if_pos (by decide +kernel)]; kernel_rfl) | (rw [if_neg (by decide +kernel)]; exact ⟨rfl, rfl⟩))
    (fun os started H enc _ => lifted os started H enc)

theorem proved : Rows.NumEndsSaid :=
  over
#print axioms proved
end Go.Proofs.Ytbkfpaodicfmhaa.numEnds
