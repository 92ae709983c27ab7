/-
  The developers' poly: Mac, the tag of a sealed text.
-/
import Derived.Test.YtijpfaknbgbphaaPdI
import Derived.Test.YtijpfaknbgbphaaPolI
import Derived.Test.YtijpfaknbgbphaaCdI
namespace Go.Proofs.Ps
open Go.RowKit Go.Proofs.Pd
open Go.Proofs.Aes (byt byt_lt get_byt)
open Go.Proofs.Cha (chaS chaS_size strS strS_size byt_left byt_right byt_cut text_ext byt_nums)
open Go.Proofs.Pol (lmA leB leB_lt leB_congr val p130 rN padN blkN blkL blkB runK fillS fillS_size run_append tagS macS macS_size allS litS litS_size litB plS plE pTagS pTagS_size)
theorem litS_byt (x i : Nat) (h : i < 8) : byt (litS x) i = x / 256 ^ i % 256 := by
  unfold litS
  rw [byt_nums (litB x) 8 i h (Nat.mod_lt _ (by decide))]
  unfold litB
  rw [Nat.pow_mul]
theorem leB_digits (x n : Nat) : leB (fun i => x / 256 ^ i % 256) n = x % 256 ^ n := by
  induction n with
  | zero => show 0 = x % 1; omega
  | succ n ih => show leB _ n + x / 256 ^ n % 256 * 256 ^ n = _; rw [ih, Nat.mod_pow_succ, Nat.mul_comm]
theorem lit_leB (x : Nat) (hx : x < 18446744073709551616) : leB (byt (litS x)) 8 = x := by
  rw [leB_congr (c := fun i => x / 256 ^ i % 256) 8 fun i hi => litS_byt x i hi, leB_digits, two64, Nat.mod_eq_of_lt hx]
theorem lits_blk (x y : Nat) (hx : x < 18446744073709551616) (hy : y < 18446744073709551616) : blkN (litS x ++ litS y) 0 = x + 18446744073709551616 * y + 340282366920938463463374607431768211456 * 1 := by
  have e : blkL (litS x ++ litS y) 0 = 16 := by unfold blkL; rw [ByteArray.size_append, litS_size, litS_size]; rfl
  have h0 : leB (blkB (litS x ++ litS y) 0) 8 = x := (leB_congr (b := blkB (litS x ++ litS y) 0) (c := byt (litS x)) 8 fun i hi => by
    show byt (litS x ++ litS y) (16 * 0 + i) = _
    rw [show 16 * 0 + i = i by omega, byt_left _ _ _ (by rw [litS_size]; exact hi)]).trans (lit_leB x hx)
  have h1 : leB (fun i => blkB (litS x ++ litS y) 0 (8 + i)) 8 = y := (leB_congr (b := fun i => blkB (litS x ++ litS y) 0 (8 + i)) (c := byt (litS y)) 8 fun i hi => by
    show byt (litS x ++ litS y) (16 * 0 + (8 + i)) = _
    rw [byt_right _ _ _ (by rw [litS_size]; omega) (by rw [litS_size, litS_size]; omega), litS_size, show 16 * 0 + (8 + i) - 8 = i by omega]).trans (lit_leB y hy)
  unfold blkN
  rw [e, leB_16, h0, h1, two128, Nat.mul_one]
/-- The sum of what a seal's tag is made of. -/
theorem all_run (r : Nat) (aad c : ByteArray) (ha : aad.size < 18446744073709551616) (hc : c.size < 18446744073709551616) :
    Pol.runN r 0 (allS aad c) = (Pol.runN r (Pol.runN r 0 (fillS aad)) (fillS c) + (aad.size + 18446744073709551616 * c.size + 340282366920938463463374607431768211456 * 1)) * r % p130 := by
  have z1 := fillS_size aad
  have z2 := fillS_size c
  unfold allS
  rw [ByteArray.append_assoc, run_append r 0 (fillS aad ++ fillS c) _ (by rw [ByteArray.size_append, z1, z2]; omega), run_append r 0 (fillS aad) (fillS c) (by rw [z1]; omega), ← lits_blk _ _ ha hc]
  generalize Pol.runN r (Pol.runN r 0 (fillS aad)) (fillS c) = A
  have e : ((litS aad.size ++ litS c.size).size + 15) / 16 = 1 := by rw [ByteArray.size_append, litS_size, litS_size]
  unfold Pol.runN
  rw [e]
  rfl
set_option maxHeartbeats 1000000 in
theorem mac_any (key s : ByteArray) (w : World) (hs : s.size ≤ 140737488355328) :
    Calls Try.prog 8 #[.string key, .string s] w fun e w' => e = .returned (.tuple #[.string (plS key s), .int .i64 (plE key)]) ∧ Below w.heap.size w w' := by
  by_cases hk : key.size = 32
  · rw [show plS key s = macS key s by unfold plS; rw [decide_eq_true hk]; rfl, show plE key = 0 by unfold plE; rw [decide_eq_true hk]; rfl]
    have HK := Lib.hid (fun u => keyed_any key u hk)
    have HW := Lib.hid (fun g u h => write_any key s 0 g u h hs)
    have HTg := Lib.hid (fun g u h => tag_any key (Pol.runN (rN key) 0 s) g u h)
    have HE : Hid (tagS (Pol.runN (rN key) 0 s) (padN key) = macS key s) := rfl
    rw [HE.out] at HTg
    have ks : (key.size : Int) = 32 := by omega
    generalize macS key s = T at HTg ⊢
    clear hs hk HE
    go_enter Try.func8, Try.ntmps8
    go_wp2_with (go_at_call 18; fail)
    refine (HK.out _).mono ?_
    rintro e u ⟨g, rfl, hg, hb, ht⟩
    have HB := Lib.hid hb
    have HT := Lib.hid ht
    have HG := Lib.hid hg
    clear hb ht hg
    go_wp2_with (go_at_call 19; fail)
    refine (HW.out g _ HT.out).mono ?_
    rintro e u2 ⟨rfl, hb, ht⟩
    have HB := Lib.hid (hb.below HB.out HG.out HB.out.size)
    have HT := Lib.hid ht
    clear hb ht
    go_wp2_with (go_at_call 20; fail)
    refine (HTg.out g _ HT.out).mono ?_
    rintro e u3 ⟨rfl, hb⟩
    go_wp2_with (fail)
    go_ret2
    exact ⟨rfl, Lw.go_on HB.out hb⟩
  · rw [show plS key s = ⟨#[]⟩ by unfold plS; rw [decide_eq_false hk]; rfl, show plE key = 700 by unfold plE; rw [decide_eq_false hk]; rfl]
    have ks : ¬ (key.size : Int) = 32 := by omega
    clear hs
    go_enter Try.func8, Try.ntmps8
    go_wp2_with (fail)
    go_ret2
    exact ⟨rfl, Below.refl _ _⟩
set_option maxHeartbeats 1000000 in
theorem tagOf_any (own aad c : ByteArray) (w : World) (hk : own.size = 32) (ha : aad.size ≤ 100000) (hc : c.size ≤ 100000) :
    Calls Try.prog 24 #[.string own, .string aad, .string c] w fun e w' => e = .returned (.string (macS own (allS aad c))) ∧ Below w.heap.size w w' := by
  have HK := Lib.hid (fun u => keyed_any own u hk)
  have HW1 := Lib.hid (fun g u h => writeFilled_any own aad 0 g u h (by omega))
  have HW2 := Lib.hid (fun g u h => writeFilled_any own c (Pol.runN (rN own) 0 (fillS aad)) g u h (by omega))
  have HLm := Lib.hid (fun u => limbs_of aad.size c.size 1 u (by omega) (by omega) (by decide) 1 rfl)
  have HAd := Lib.hid (fun g u h => add_any (limF aad.size c.size 1) (aad.size + 18446744073709551616 * c.size + 340282366920938463463374607431768211456 * 1) g (Pol.runN (rN own) (Pol.runN (rN own) 0 (fillS aad)) (fillS c)) own u h (limF_lt _ _ 1 (by omega) (by decide)) (val_limF _ _ 1 (by omega) (by omega)))
  rw [← all_run (rN own) aad c (by omega) (by omega)] at HAd
  have HTg := Lib.hid (fun g u h => tag_any own (Pol.runN (rN own) 0 (allS aad c)) g u h)
  have HE : Hid (tagS (Pol.runN (rN own) 0 (allS aad c)) (padN own) = macS own (allS aad c)) := rfl
  rw [HE.out] at HTg
  generalize macS own (allS aad c) = T at HTg ⊢
  generalize Pol.runN (rN own) 0 (allS aad c) = A3 at HTg HAd
  generalize Pol.runN (rN own) (Pol.runN (rN own) 0 (fillS aad)) (fillS c) = A2 at HW2 HAd
  generalize Pol.runN (rN own) 0 (fillS aad) = A1 at HW1 HW2
  obtain ⟨na, hna⟩ : ∃ n, aad.size = n := ⟨_, rfl⟩
  obtain ⟨nc, hnc⟩ : ∃ n, c.size = n := ⟨_, rfl⟩
  rw [hna, hnc] at HLm HAd
  generalize lmA (limF na nc 1) = L at HLm HAd
  have w1 : IntKind.u64.wrap (na : Int) = (na : Int) := by show (na : Int) % 18446744073709551616 = _; omega
  have w2 : IntKind.u64.wrap (nc : Int) = (nc : Int) := by show (nc : Int) % 18446744073709551616 = _; omega
  have w3 : (na : Int) % 18446744073709551616 = (na : Int) := by omega
  have w4 : (nc : Int) % 18446744073709551616 = (nc : Int) := by omega
  clear hk ha hc HE
  go_enter Try.func24, Try.ntmps24
  go_wp2_with (go_at_call 18; fail)
  refine (HK.out _).mono ?_
  rintro e u ⟨g, rfl, hg, hb, ht⟩
  have HB := Lib.hid hb
  have HT := Lib.hid ht
  have HG := Lib.hid hg
  clear hb ht hg
  go_wp2_with (go_at_call 40; fail)
  refine (HW1.out g _ HT.out).mono ?_
  rintro e u2 ⟨rfl, hb, ht⟩
  have HB := Lib.hid (hb.below HB.out HG.out HB.out.size)
  have HT := Lib.hid ht
  clear hb ht
  go_wp2_with (go_at_call 40; fail)
  refine (HW2.out g _ HT.out).mono ?_
  rintro e u3 ⟨rfl, hb, ht⟩
  have HB := Lib.hid (hb.below HB.out HG.out HB.out.size)
  have HT := Lib.hid ht
  clear hb ht
  go_wp2_with (go_at_call 31; fail)
  refine (HLm.out _).mono ?_
  rintro e u4 ⟨rfl, hb⟩
  have HB := Lib.hid (Lw.go_on HB.out hb)
  have HT := Lib.hid (HT.out.on hb)
  clear hb
  go_wp2_with (go_at_call 33; fail)
  refine (HAd.out g _ HT.out).mono ?_
  rintro e u5 ⟨rfl, hb, ht⟩
  have HB := Lib.hid (hb.below HB.out HG.out HB.out.size)
  have HT := Lib.hid ht
  clear hb ht
  go_wp2_with (go_at_call 20; fail)
  refine (HTg.out g _ HT.out).mono ?_
  rintro e u6 ⟨rfl, hb⟩
  go_wp2_with (fail)
  go_ret
  exact ⟨rfl, Lw.go_on HB.out hb⟩
end Go.Proofs.Ps
