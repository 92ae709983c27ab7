/-
  Whatever text is laid out as key, a number below 19 and that number and the prime more are one point, and a key of 33 bytes is refused by its number: at every input, with no condition.
-/
import Derived.Test.YtpniinolkflfjaaJoca
import Derived.Test.YtpniinolkflfjaaJocb
import Derived.Test.YtpniinolkflfjaaRows
import Derived.WalkKit
import Derived.ProofKit
import Derived.OpenShut
import Derived.ShutString
import Derived.Below
import Derived.ChangeOld
namespace Go.Proofs.Ytpniinolkflfjaa.xcurveReduced
open Go.ChangeShapes Go.WideShapes Go.ChangeAt Go.RowKit
open Go.ChangeMaps (open_string shut_string)
set_option linter.unusedVariables false

theorem own : ownKnob Try.prog.godebug = none := by kernel_rfl

open Go.Proofs.Xu Go.Proofs.Xv
open Go.Proofs.Im (ready_one2 ready_call2)
open Go.Proofs.He (takeH callH)
open Go.Proofs.Aes (byt byt_lt get_byt)
set_option maxHeartbeats 4000000 in
set_option maxRecDepth 100000 in
theorem walk (a0 : ByteArray) (a1 : Int) (_w0 : a0.size ≤ maxLen) (_w1 : (Lit.int .i64 a1).wf = true) (w : World) :
    Calls Try.prog 6 #[.string a0, .int .i64 a1] w fun e w' => e = .returned (.bool true) ∧ Below w.heap.size w w' := by
  have HB : Hid (Below w.heap.size w w) := Below.refl _ _
  clear _w0 _w1
  obtain ⟨M, hM0, hmk, hK0⟩ := Xw.noughts
  have HM := Lib.hid hM0
  clear hM0 hK0
  obtain ⟨x, hx19, hx1⟩ : ∃ x : Nat, x < 19 ∧ (IntKind.u64.wrap a1).tmod 19 = (x : Int) := Xw.mod19 a1
  have hx2 : wrap64 (x : Int) = (x : Int) := by unfold wrap64; omega
  obtain ⟨y, hy⟩ : ∃ y : Nat, 237 + x = y := ⟨_, rfl⟩
  have hx3 : wrap64 (237 + (x : Int)) = (y : Int) := by unfold wrap64; omega
  have hx4 : (237 + (x : Int)) % 256 = (y : Int) := by omega
  have HY := Lib.hid hy
  clear hy
  have hx5 : (x : Int) % 256 = (x : Int) := by omega
  have HX := Lib.hid hx19
  clear hx19
  go_enter Try.func6, Try.ntmps6
  go_upto_region 3 with (go_at_call 12; refine (Xw.awake10_any _).mono ?_; rintro e u ⟨rfl, hb⟩; have HB := Lib.hid (Lw.go_on HB.out hb); clear hb)
  refine wp_region_any (by kernel_rfl) ?_
  change wpAny _ _ _ _ _ _ _ u.drew
  have HB : Hid (Below w.heap.size w u.drew) := HB.out.drew
  generalize u.drew = D at HB ⊢
  refine Lw.meetA (fun (gs : Nat × Nat × Nat) a => ((((((a.put (some 18) (.slice (some ⟨gs.1, 0, none⟩) 32 32)).put (some 19) (.slice (some ⟨gs.2.1, 0, none⟩) 32 32)).put (some 20) (.slice (some ⟨gs.2.2, 0, none⟩) 32 32)).put (some 5) (.slice (some ⟨gs.1, 0, none⟩) 32 32)).put (some 6) (.slice (some ⟨gs.2.1, 0, none⟩) 32 32)).put (some 7) (.slice (some ⟨gs.2.2, 0, none⟩) 32 32))) #[true, true, true, true, true, true] 0 (fun (gs : Nat × Nat × Nat) W => Below w.heap.size w W ∧ Lw.RowB W gs.1 32 (fun _ => 0) ∧ w.heap.size ≤ gs.1 ∧ Lw.RowB W gs.2.1 32 (fun _ => 0) ∧ w.heap.size ≤ gs.2.1 ∧ Lw.RowB W gs.2.2 32 (fun _ => 0) ∧ w.heap.size ≤ gs.2.2 ∧ ¬ gs.1 = gs.2.1 ∧ ¬ gs.1 = gs.2.2 ∧ ¬ gs.2.1 = gs.2.2) ?_ (fun key0120 => ?_)
  · rintro ⟨g0, g1, g2⟩ W ⟨hb, r0, l0, r1, l1, r2, l2, d01, d02, d12⟩
    simp only [Act.put, List.setIfInBounds_toArray, List.set_cons_zero, List.set_cons_succ]
    have HB := Lib.hid hb
    clear hb
    refine wpAny_done (by kernel_rfl) ?_ _
    have R0 := Lib.hid r0
    have L0 := Lib.hid l0
    have R1 := Lib.hid r1
    have L1 := Lib.hid l1
    have R2 := Lib.hid r2
    have L2 := Lib.hid l2
    have D01 := Lib.hid d01
    have D02 := Lib.hid d02
    have D12 := Lib.hid d12
    clear r0 l0 r1 l1 r2 l2 d01 d02 d12
    go_wp2_with (fail)
    go_loopw [8] (fun v wx => ∃ i : Nat, Hid (i ≤ 32) ∧ v = .int .i64 i ∧ Hid (Lw.RowB wx g0 32 (Xw.kb a0 i)) ∧ Hid (Lw.RowB wx g1 32 (fun _ => 0)) ∧ Hid (Lw.RowB wx g2 32 (Xw.fb i)) ∧ Hid (Below w.heap.size w wx)) (fun v _ => 32 - (intOf v).toNat)
    case atStart => exact ⟨0, Nat.zero_le _, rfl, R0.out.congr fun t _ => (Xw.kb_zero a0 t).symm, R1, R2.out.congr fun t _ => (Xw.fb_zero t).symm, HB⟩
    case round =>
      clear R0 R1 R2 HB
      obtain ⟨i, hi, rfl, R0, R1, R2, HB⟩ := hrel
      by_cases hlt : i < 32
      · have il : ((i : Int) < 32) = True := eq_true (by omega)
        have il' : (i : Int) < 32 := by omega
        have HI := Lib.hid hlt
        have y2 := World.rowIs.cell R2.out (i := i) hlt
        have z2 := World.rowIs.frozen R2.out i
        have d02 : ¬ g0 = g2 := D02.out
        by_cases hs : i < a0.size
        · have l1 : ((i : Int) < (a0.size : Int)) = True := eq_true (by omega)
          have l1' : (i : Int) < (a0.size : Int) := by omega
          have y0 := World.rowIs.cell R0.out (i := i) hlt
          have z0 := World.rowIs.frozen R0.out i
          have v0 : ∀ h : i < a0.size, (a0[i]'h).toNat = byt a0 i := fun h => get_byt a0 _ h
          have HN := Lib.hid (Xw.kb_yes a0 hs)
          generalize byt a0 i = y at v0 HN
          clear hlt
          go_wp2_with (fail)
          have R2' : Lw.RowB (wr.setCell ⟨g0, i, none⟩ (.int .u8 (y : Nat))) g2 32 (Xw.fb i) := World.rowIs.setOther R2.out (fun e => D02.out e.symm) _
          have R1' : Lw.RowB (wr.setCell ⟨g0, i, none⟩ (.int .u8 (y : Nat))) g1 32 (fun _ => 0) := World.rowIs.setOther R1.out (fun e => D01.out e.symm) _
          exact ⟨⟨i + 1, HI.out, by go_num, World.rowIs.setOther ((R0.out.set i y).congr fun t _ => HN.out t) D02.out _, World.rowIs.setOther R1' D12.out _, (R2'.set i 255).congr fun t _ => Xw.fb_next i t, (HB.out.setCell L0.out _).setCell L2.out _⟩, Lw.meas 32 i HI.out⟩
        · have l1 : ((i : Int) < (a0.size : Int)) = False := eq_false (by omega)
          have HN := Lib.hid (Xw.kb_no a0 hs)
          clear hlt hs
          go_wp2_with (fail)
          exact ⟨⟨i + 1, HI.out, by go_num, World.rowIs.setOther (R0.out.congr fun t _ => HN.out t) D02.out _, World.rowIs.setOther R1.out D12.out _, (R2.out.set i 255).congr fun t _ => Xw.fb_next i t, HB.out.setCell L2.out _⟩, Lw.meas 32 i HI.out⟩
      · have il : ((i : Int) < 32) = False := eq_false (by omega)
        obtain rfl : i = 32 := by have := hi.out; omega
        rw [show ((32 : Nat) : Int) = 32 from rfl]
        clear hlt il hi
        have c1 := World.rowIs.cell R1.out (i := 0) (by decide)
        have f1 := World.rowIs.frozen R1.out 0
        go_upto_region 12 with (fail)
        have R0 := Lib.hid (show Lw.RowB (wr.setCell ⟨g1, 0, none⟩ (.int .u8 (x : Nat))) g0 32 (Xw.kb a0 32) from World.rowIs.setOther R0.out D01.out _)
        have R2 := Lib.hid (show Lw.RowB (wr.setCell ⟨g1, 0, none⟩ (.int .u8 (x : Nat))) g2 32 (Xw.fb 32) from World.rowIs.setOther R2.out (fun e => D12.out e.symm) _)
        have R1 := Lib.hid (show Lw.RowB (wr.setCell ⟨g1, 0, none⟩ (.int .u8 (x : Nat))) g1 32 (sA x) from R1.out.set 0 x)
        have HB := Lib.hid (show Below w.heap.size w (wr.setCell ⟨g1, 0, none⟩ (.int .u8 (x : Nat))) from HB.out.setCell L1.out _)
        clear c1 f1
        generalize wr.setCell ⟨g1, 0, none⟩ (.int .u8 (x : Nat)) = w2 at R0 R1 R2 HB ⊢
        have c1 := World.rowIs.cell R2.out (i := 0) (by decide)
        have f1 := World.rowIs.frozen R2.out 0
        go_upto_region 13 with (fail)
        have R0 := Lib.hid (show Lw.RowB (w2.setCell ⟨g2, 0, none⟩ (.int .u8 (y : Nat))) g0 32 (Xw.kb a0 32) from World.rowIs.setOther R0.out D02.out _)
        have R1 := Lib.hid (show Lw.RowB (w2.setCell ⟨g2, 0, none⟩ (.int .u8 (y : Nat))) g1 32 (sA x) from World.rowIs.setOther R1.out D12.out _)
        have R2 := Lib.hid (R2.out.set 0 y)
        have HB := Lib.hid (show Below w.heap.size w (w2.setCell ⟨g2, 0, none⟩ (.int .u8 (y : Nat))) from HB.out.setCell L2.out _)
        clear c1 f1
        generalize w2.setCell ⟨g2, 0, none⟩ (.int .u8 (y : Nat)) = w3 at R0 R1 R2 HB ⊢
        have c1 := World.rowIs.cell R2.out (i := 31) (by decide)
        have f1 := World.rowIs.frozen R2.out 31
        go_upto_region 14 with (fail)
        have R0 := Lib.hid (show Lw.RowB (w3.setCell ⟨g2, 31, none⟩ (.int .u8 127)) g0 32 (Xw.ka a0) from (show Lw.RowB (w3.setCell ⟨g2, 31, none⟩ (.int .u8 127)) g0 32 (Xw.kb a0 32) from World.rowIs.setOther R0.out D02.out _).congr fun t ht => Xw.kb_end a0 t ht)
        have R1 := Lib.hid (show Lw.RowB (w3.setCell ⟨g2, 31, none⟩ (.int .u8 127)) g1 32 (sA x) from World.rowIs.setOther R1.out D12.out _)
        have R2 := Lib.hid ((R2.out.set 31 127).congr fun t ht => Xw.fb_top y t ht)
        have HB := Lib.hid (show Below w.heap.size w (w3.setCell ⟨g2, 31, none⟩ (.int .u8 127)) from HB.out.setCell L2.out _)
        clear c1 f1 hx1 hx2 hx3 hx4 hx5 hmk HM L0 L1 L2 D01 D02 D12
        change Hid (Lw.RowB (w3.setCell ⟨g2, 31, none⟩ (.int .u8 127)) g2 32 (pA y)) at R2
        generalize w3.setCell ⟨g2, 31, none⟩ (.int .u8 127) = w4 at R0 R1 R2 HB ⊢
        have hy : pA y = pA (237 + x) := by rw [HY.out]
        have hx19 := HX.out
        have hEq := sh_same (tx_size (Xw.ka a0)) (tx_size (Xw.ka a0)) (tx_size (pA y)) (tx_size (sA x)) (sF_same rfl (by rw [hy]; exact uX_reduced hx19))
        have H1 := Lib.hid (fun v : World => Xd.shared_any (tx (Xw.ka a0)) (tx (sA x)) v)
        have H2 := Lib.hid (fun v : World => Xd.shared_any (tx (Xw.ka a0)) (tx (pA y)) v)
        have H3 := Lib.hid (fun v : World => Xd.public_any (tx (Xw.ka a0) ++ ⟨#[120]⟩) v)
        have hf := (sh_form1 (k := tx (Xw.ka a0) ++ ⟨#[120]⟩) (u := nineS) (by rw [Xw.size_more]; decide)).2
        rw [hEq.1, hEq.2] at H2
        rw [hf] at H3
        have hsz : (tx (Xw.ka a0)).size = 32 := tx_size _
        have T0 : Hid (∀ (W : World), Lw.RowB W g0 32 (Xw.ka a0) → (Go.convert 32 9 (.slice (some ⟨g0, 0, none⟩) 32 32)).run Try.prog W = .ok (.string (tx (Xw.ka a0))) W) := fun W r => r.text 0 32 32 (by decide)
        have T1 : Hid (∀ (W : World), Lw.RowB W g1 32 (sA x) → (Go.convert 32 9 (.slice (some ⟨g1, 0, none⟩) 32 32)).run Try.prog W = .ok (.string (tx (sA x))) W) := fun W r => r.text 0 32 32 (by decide)
        have T2 : Hid (∀ (W : World), Lw.RowB W g2 32 (pA y) → (Go.convert 32 9 (.slice (some ⟨g2, 0, none⟩) 32 32)).run Try.prog W = .ok (.string (tx (pA y))) W) := fun W r => r.text 0 32 32 (by decide)
        generalize shS (tx (Xw.ka a0)) (tx (sA x)) = S1 at *
        generalize shE (tx (Xw.ka a0)) (tx (sA x)) = E1 at *
        generalize shS (tx (Xw.ka a0) ++ ⟨#[120]⟩) nineS = S3 at *
        generalize tx (Xw.ka a0) = TA at *
        generalize tx (sA x) = TB at *
        generalize tx (pA y) = TC at *
        have k0 : ¬ (9223372036854775807 < TA.size + 1) := by omega
        have k1 : (9223372036854775807 < TA.size + 1) = False := eq_false k0
        clear hy hx19 hEq hf hsz
        have q0 := T0.out _ R0.out
        have q1 := T1.out _ R1.out
        go_wp2_with (first | (go_at_call 7; fail))
        refine (H1.out _).mono ?_
        rintro e v1 ⟨rfl, hb⟩
        have R0 := Lib.hid (R0.out.on hb)
        have R2 := Lib.hid (R2.out.on hb)
        have HB := Lib.hid (Lw.go_on HB.out hb)
        clear hb q0 q1
        have q0 := T0.out _ R0.out
        have q2 := T2.out _ R2.out
        go_wp2_with (first | (go_at_call 7; fail))
        refine (H2.out _).mono ?_
        rintro e v2 ⟨rfl, hb⟩
        have R0 := Lib.hid (R0.out.on hb)
        have HB := Lib.hid (Lw.go_on HB.out hb)
        clear hb q0 q2
        have q0 := T0.out _ R0.out
        go_wp2_with (first | (go_at_call 9; fail))
        refine (H3.out _).mono ?_
        rintro e v3 ⟨rfl, hb⟩
        have HB := Lib.hid (Lw.go_on HB.out hb)
        clear hb q0
        go_wp2_with (go_at_call 11; refine (Lw.num_same _ _).mono ?_; rintro e u ⟨rfl, rfl⟩)
        go_ret
        exact ⟨rfl, HB.out⟩
  simp only [Act.put, List.setIfInBounds_toArray, List.set_cons_zero, List.set_cons_succ] at key0120
  have key012 := Lib.hid key0120
  clear key0120
  refine Lw.meetA (fun (gs : Nat × Nat × Nat) a => ((((a.put (some 18) (.slice (some ⟨gs.1, 0, none⟩) 32 32)).put (some 19) (.slice (some ⟨gs.2.1, 0, none⟩) 32 32)).put (some 5) (.slice (some ⟨gs.1, 0, none⟩) 32 32)).put (some 6) (.slice (some ⟨gs.2.1, 0, none⟩) 32 32))) #[true, true, false, true, true, false] 2 (fun (gs : Nat × Nat × Nat) W => Below w.heap.size w W ∧ Lw.RowB W gs.1 32 (fun _ => 0) ∧ w.heap.size ≤ gs.1 ∧ Lw.RowB W gs.2.1 32 (fun _ => 0) ∧ w.heap.size ≤ gs.2.1 ∧ ¬ gs.1 = gs.2.1) ?_ (fun key010 => ?_)
  · rintro ⟨g0, g1, g2⟩ W ⟨hb, r0, l0, r1, l1, d01⟩
    simp only [Act.put, List.setIfInBounds_toArray, List.set_cons_zero, List.set_cons_succ]
    refine wpAny_ready (rs := [2]) (by kernel_rfl) (by simp) ?_
    refine ready_one2 (some 20) rfl rfl rfl (.slice (some ⟨W.heap.size, 0, none⟩) 32 32) (W.alloc (.cells M 5)) (by go_simp) ?_ AllReady.nil
    · simp only [Act.put, List.setIfInBounds_toArray, List.set_cons_zero, List.set_cons_succ]
      refine Lw.take_to (i := 5) (some 7) (.slice (some ⟨W.heap.size, 0, none⟩) 32 32) rfl rfl (by kernel_rfl) (by kernel_rfl) (by kernel_rfl) (fun _ _ _ h => h) (Or.inl ⟨by rfl, fun w => by go_simp⟩) ?_
      simp only [Act.put, List.setIfInBounds_toArray, List.set_cons_zero, List.set_cons_succ]
      exact key012.out (g0, g1, W.heap.size) _ ⟨hb.alloc hb.size _, World.rowIs.alloc r0 _, l0, World.rowIs.alloc r1 _, l1, Lw.rowB_new W M 32 HM.out.1 HM.out.2, hb.size, d01, (fun (e : g0 = W.heap.size) => by have h : g0 < W.heap.size := World.rowIs.lt r0; omega), (fun (e : g1 = W.heap.size) => by have h : g1 < W.heap.size := World.rowIs.lt r1; omega)⟩
  simp only [Act.put, List.setIfInBounds_toArray, List.set_cons_zero, List.set_cons_succ] at key010
  have key01 := Lib.hid key010
  clear key010
  refine Lw.meetA (fun (gs : Nat × Nat × Nat) a => (((a.put (some 18) (.slice (some ⟨gs.1, 0, none⟩) 32 32)).put (some 20) (.slice (some ⟨gs.2.2, 0, none⟩) 32 32)).put (some 5) (.slice (some ⟨gs.1, 0, none⟩) 32 32))) #[true, false, true, true, false, false] 3 (fun (gs : Nat × Nat × Nat) W => Below w.heap.size w W ∧ Lw.RowB W gs.1 32 (fun _ => 0) ∧ w.heap.size ≤ gs.1 ∧ Lw.RowB W gs.2.2 32 (fun _ => 0) ∧ w.heap.size ≤ gs.2.2 ∧ ¬ gs.1 = gs.2.2) ?_ (fun key020 => ?_)
  · rintro ⟨g0, g1, g2⟩ W ⟨hb, r0, l0, r2, l2, d02⟩
    simp only [Act.put, List.setIfInBounds_toArray, List.set_cons_zero, List.set_cons_succ]
    refine wpAny_ready (rs := [1]) (by kernel_rfl) (by simp) ?_
    refine ready_one2 (some 19) rfl rfl rfl (.slice (some ⟨W.heap.size, 0, none⟩) 32 32) (W.alloc (.cells M 5)) (by go_simp) ?_ AllReady.nil
    · simp only [Act.put, List.setIfInBounds_toArray, List.set_cons_zero, List.set_cons_succ]
      refine Lw.take_to (i := 4) (some 6) (.slice (some ⟨W.heap.size, 0, none⟩) 32 32) rfl rfl (by kernel_rfl) (by kernel_rfl) (by kernel_rfl) (fun _ _ _ h => h) (Or.inl ⟨by rfl, fun w => by go_simp⟩) ?_
      simp only [Act.put, List.setIfInBounds_toArray, List.set_cons_zero, List.set_cons_succ]
      refine Lw.take_to (i := 5) (some 7) (.slice (some ⟨g2, 0, none⟩) 32 32) rfl rfl (by kernel_rfl) (by kernel_rfl) (by kernel_rfl) (fun _ _ _ h => h) (Or.inl ⟨by rfl, fun w => by go_simp⟩) ?_
      simp only [Act.put, List.setIfInBounds_toArray, List.set_cons_zero, List.set_cons_succ]
      exact key012.out (g0, W.heap.size, g2) _ ⟨hb.alloc hb.size _, World.rowIs.alloc r0 _, l0, Lw.rowB_new W M 32 HM.out.1 HM.out.2, hb.size, World.rowIs.alloc r2 _, l2, (fun (e : g0 = W.heap.size) => by have h : g0 < W.heap.size := World.rowIs.lt r0; omega), d02, (fun (e : W.heap.size = g2) => by have h : g2 < W.heap.size := World.rowIs.lt r2; omega)⟩
  simp only [Act.put, List.setIfInBounds_toArray, List.set_cons_zero, List.set_cons_succ] at key020
  have key02 := Lib.hid key020
  clear key020
  refine Lw.meetA (fun (gs : Nat × Nat × Nat) a => ((a.put (some 19) (.slice (some ⟨gs.2.1, 0, none⟩) 32 32)).put (some 20) (.slice (some ⟨gs.2.2, 0, none⟩) 32 32))) #[false, true, true, false, false, false] 4 (fun (gs : Nat × Nat × Nat) W => Below w.heap.size w W ∧ Lw.RowB W gs.2.1 32 (fun _ => 0) ∧ w.heap.size ≤ gs.2.1 ∧ Lw.RowB W gs.2.2 32 (fun _ => 0) ∧ w.heap.size ≤ gs.2.2 ∧ ¬ gs.2.1 = gs.2.2) ?_ (fun key120 => ?_)
  · rintro ⟨g0, g1, g2⟩ W ⟨hb, r1, l1, r2, l2, d12⟩
    simp only [Act.put, List.setIfInBounds_toArray, List.set_cons_zero, List.set_cons_succ]
    refine wpAny_ready (rs := [0]) (by kernel_rfl) (by simp) ?_
    refine ready_one2 (some 18) rfl rfl rfl (.slice (some ⟨W.heap.size, 0, none⟩) 32 32) (W.alloc (.cells M 5)) (by go_simp) ?_ AllReady.nil
    · simp only [Act.put, List.setIfInBounds_toArray, List.set_cons_zero, List.set_cons_succ]
      refine Lw.take_to (i := 3) (some 5) (.slice (some ⟨W.heap.size, 0, none⟩) 32 32) rfl rfl (by kernel_rfl) (by kernel_rfl) (by kernel_rfl) (fun _ _ _ h => h) (Or.inl ⟨by rfl, fun w => by go_simp⟩) ?_
      simp only [Act.put, List.setIfInBounds_toArray, List.set_cons_zero, List.set_cons_succ]
      refine Lw.take_to (i := 4) (some 6) (.slice (some ⟨g1, 0, none⟩) 32 32) rfl rfl (by kernel_rfl) (by kernel_rfl) (by kernel_rfl) (fun _ _ _ h => h) (Or.inl ⟨by rfl, fun w => by go_simp⟩) ?_
      simp only [Act.put, List.setIfInBounds_toArray, List.set_cons_zero, List.set_cons_succ]
      refine Lw.take_to (i := 5) (some 7) (.slice (some ⟨g2, 0, none⟩) 32 32) rfl rfl (by kernel_rfl) (by kernel_rfl) (by kernel_rfl) (fun _ _ _ h => h) (Or.inl ⟨by rfl, fun w => by go_simp⟩) ?_
      simp only [Act.put, List.setIfInBounds_toArray, List.set_cons_zero, List.set_cons_succ]
      exact key012.out (W.heap.size, g1, g2) _ ⟨hb.alloc hb.size _, Lw.rowB_new W M 32 HM.out.1 HM.out.2, hb.size, World.rowIs.alloc r1 _, l1, World.rowIs.alloc r2 _, l2, (fun (e : W.heap.size = g1) => by have h : g1 < W.heap.size := World.rowIs.lt r1; omega), (fun (e : W.heap.size = g2) => by have h : g2 < W.heap.size := World.rowIs.lt r2; omega), d12⟩
  simp only [Act.put, List.setIfInBounds_toArray, List.set_cons_zero, List.set_cons_succ] at key120
  have key12 := Lib.hid key120
  clear key120
  refine Lw.meetA (fun (gs : Nat × Nat × Nat) a => ((a.put (some 18) (.slice (some ⟨gs.1, 0, none⟩) 32 32)).put (some 5) (.slice (some ⟨gs.1, 0, none⟩) 32 32))) #[true, false, false, true, false, false] 4 (fun (gs : Nat × Nat × Nat) W => Below w.heap.size w W ∧ Lw.RowB W gs.1 32 (fun _ => 0) ∧ w.heap.size ≤ gs.1) ?_ (fun key00 => ?_)
  · rintro ⟨g0, g1, g2⟩ W ⟨hb, r0, l0⟩
    simp only [Act.put, List.setIfInBounds_toArray, List.set_cons_zero, List.set_cons_succ]
    refine wpAny_ready (rs := [1, 2]) (by kernel_rfl) (by simp) ?_
    refine ready_one2 (some 19) rfl rfl rfl (.slice (some ⟨W.heap.size, 0, none⟩) 32 32) (W.alloc (.cells M 5)) (by go_simp) ?_ (ready_one2 (some 20) rfl rfl rfl (.slice (some ⟨W.heap.size, 0, none⟩) 32 32) (W.alloc (.cells M 5)) (by go_simp) ?_ AllReady.nil)
    · simp only [Act.put, List.setIfInBounds_toArray, List.set_cons_zero, List.set_cons_succ]
      refine Lw.take_to (i := 4) (some 6) (.slice (some ⟨W.heap.size, 0, none⟩) 32 32) rfl rfl (by kernel_rfl) (by kernel_rfl) (by kernel_rfl) (fun _ _ _ h => h) (Or.inl ⟨by rfl, fun w => by go_simp⟩) ?_
      simp only [Act.put, List.setIfInBounds_toArray, List.set_cons_zero, List.set_cons_succ]
      exact key01.out (g0, W.heap.size, 0) _ ⟨hb.alloc hb.size _, World.rowIs.alloc r0 _, l0, Lw.rowB_new W M 32 HM.out.1 HM.out.2, hb.size, (fun (e : g0 = W.heap.size) => by have h : g0 < W.heap.size := World.rowIs.lt r0; omega)⟩
    · simp only [Act.put, List.setIfInBounds_toArray, List.set_cons_zero, List.set_cons_succ]

      exact key02.out (g0, 0, W.heap.size) _ ⟨hb.alloc hb.size _, World.rowIs.alloc r0 _, l0, Lw.rowB_new W M 32 HM.out.1 HM.out.2, hb.size, (fun (e : g0 = W.heap.size) => by have h : g0 < W.heap.size := World.rowIs.lt r0; omega)⟩
  simp only [Act.put, List.setIfInBounds_toArray, List.set_cons_zero, List.set_cons_succ] at key00
  have key0 := Lib.hid key00
  clear key00
  refine Lw.meetA (fun (gs : Nat × Nat × Nat) a => (a.put (some 19) (.slice (some ⟨gs.2.1, 0, none⟩) 32 32))) #[false, true, false, false, false, false] 5 (fun (gs : Nat × Nat × Nat) W => Below w.heap.size w W ∧ Lw.RowB W gs.2.1 32 (fun _ => 0) ∧ w.heap.size ≤ gs.2.1) ?_ (fun key10 => ?_)
  · rintro ⟨g0, g1, g2⟩ W ⟨hb, r1, l1⟩
    simp only [Act.put, List.setIfInBounds_toArray, List.set_cons_zero, List.set_cons_succ]
    refine wpAny_ready (rs := [0, 2]) (by kernel_rfl) (by simp) ?_
    refine ready_one2 (some 18) rfl rfl rfl (.slice (some ⟨W.heap.size, 0, none⟩) 32 32) (W.alloc (.cells M 5)) (by go_simp) ?_ (ready_one2 (some 20) rfl rfl rfl (.slice (some ⟨W.heap.size, 0, none⟩) 32 32) (W.alloc (.cells M 5)) (by go_simp) ?_ AllReady.nil)
    · simp only [Act.put, List.setIfInBounds_toArray, List.set_cons_zero, List.set_cons_succ]
      refine Lw.take_to (i := 3) (some 5) (.slice (some ⟨W.heap.size, 0, none⟩) 32 32) rfl rfl (by kernel_rfl) (by kernel_rfl) (by kernel_rfl) (fun _ _ _ h => h) (Or.inl ⟨by rfl, fun w => by go_simp⟩) ?_
      simp only [Act.put, List.setIfInBounds_toArray, List.set_cons_zero, List.set_cons_succ]
      refine Lw.take_to (i := 4) (some 6) (.slice (some ⟨g1, 0, none⟩) 32 32) rfl rfl (by kernel_rfl) (by kernel_rfl) (by kernel_rfl) (fun _ _ _ h => h) (Or.inl ⟨by rfl, fun w => by go_simp⟩) ?_
      simp only [Act.put, List.setIfInBounds_toArray, List.set_cons_zero, List.set_cons_succ]
      exact key01.out (W.heap.size, g1, 0) _ ⟨hb.alloc hb.size _, Lw.rowB_new W M 32 HM.out.1 HM.out.2, hb.size, World.rowIs.alloc r1 _, l1, (fun (e : W.heap.size = g1) => by have h : g1 < W.heap.size := World.rowIs.lt r1; omega)⟩
    · simp only [Act.put, List.setIfInBounds_toArray, List.set_cons_zero, List.set_cons_succ]

      exact key12.out (0, g1, W.heap.size) _ ⟨hb.alloc hb.size _, World.rowIs.alloc r1 _, l1, Lw.rowB_new W M 32 HM.out.1 HM.out.2, hb.size, (fun (e : g1 = W.heap.size) => by have h : g1 < W.heap.size := World.rowIs.lt r1; omega)⟩
  simp only [Act.put, List.setIfInBounds_toArray, List.set_cons_zero, List.set_cons_succ] at key10
  have key1 := Lib.hid key10
  clear key10
  refine Lw.meetA (fun (gs : Nat × Nat × Nat) a => (a.put (some 20) (.slice (some ⟨gs.2.2, 0, none⟩) 32 32))) #[false, false, true, false, false, false] 5 (fun (gs : Nat × Nat × Nat) W => Below w.heap.size w W ∧ Lw.RowB W gs.2.2 32 (fun _ => 0) ∧ w.heap.size ≤ gs.2.2) ?_ (fun key20 => ?_)
  · rintro ⟨g0, g1, g2⟩ W ⟨hb, r2, l2⟩
    simp only [Act.put, List.setIfInBounds_toArray, List.set_cons_zero, List.set_cons_succ]
    refine wpAny_ready (rs := [0, 1]) (by kernel_rfl) (by simp) ?_
    refine ready_one2 (some 18) rfl rfl rfl (.slice (some ⟨W.heap.size, 0, none⟩) 32 32) (W.alloc (.cells M 5)) (by go_simp) ?_ (ready_one2 (some 19) rfl rfl rfl (.slice (some ⟨W.heap.size, 0, none⟩) 32 32) (W.alloc (.cells M 5)) (by go_simp) ?_ AllReady.nil)
    · simp only [Act.put, List.setIfInBounds_toArray, List.set_cons_zero, List.set_cons_succ]
      refine Lw.take_to (i := 3) (some 5) (.slice (some ⟨W.heap.size, 0, none⟩) 32 32) rfl rfl (by kernel_rfl) (by kernel_rfl) (by kernel_rfl) (fun _ _ _ h => h) (Or.inl ⟨by rfl, fun w => by go_simp⟩) ?_
      simp only [Act.put, List.setIfInBounds_toArray, List.set_cons_zero, List.set_cons_succ]
      exact key02.out (W.heap.size, 0, g2) _ ⟨hb.alloc hb.size _, Lw.rowB_new W M 32 HM.out.1 HM.out.2, hb.size, World.rowIs.alloc r2 _, l2, (fun (e : W.heap.size = g2) => by have h : g2 < W.heap.size := World.rowIs.lt r2; omega)⟩
    · simp only [Act.put, List.setIfInBounds_toArray, List.set_cons_zero, List.set_cons_succ]

      exact key12.out (0, W.heap.size, g2) _ ⟨hb.alloc hb.size _, Lw.rowB_new W M 32 HM.out.1 HM.out.2, hb.size, World.rowIs.alloc r2 _, l2, (fun (e : W.heap.size = g2) => by have h : g2 < W.heap.size := World.rowIs.lt r2; omega)⟩
  simp only [Act.put, List.setIfInBounds_toArray, List.set_cons_zero, List.set_cons_succ] at key20
  have key2 := Lib.hid key20
  clear key20
  refine wpAny_ready (rs := [0, 1, 2]) (by kernel_rfl) (by simp) ?_
  refine ready_one2 (some 18) rfl rfl rfl (.slice (some ⟨D.heap.size, 0, none⟩) 32 32) (D.alloc (.cells M 5)) (by go_simp) ?_ (ready_one2 (some 19) rfl rfl rfl (.slice (some ⟨D.heap.size, 0, none⟩) 32 32) (D.alloc (.cells M 5)) (by go_simp) ?_ (ready_one2 (some 20) rfl rfl rfl (.slice (some ⟨D.heap.size, 0, none⟩) 32 32) (D.alloc (.cells M 5)) (by go_simp) ?_ AllReady.nil))
  · simp only [Act.put, List.setIfInBounds_toArray, List.set_cons_zero, List.set_cons_succ]
    refine Lw.take_to (i := 3) (some 5) (.slice (some ⟨D.heap.size, 0, none⟩) 32 32) rfl rfl (by kernel_rfl) (by kernel_rfl) (by kernel_rfl) (fun _ _ _ h => h) (Or.inl ⟨by rfl, fun w => by go_simp⟩) ?_
    simp only [Act.put, List.setIfInBounds_toArray, List.set_cons_zero, List.set_cons_succ]
    exact key0.out (D.heap.size, 0, 0) _ ⟨HB.out.alloc HB.out.size _, Lw.rowB_new D M 32 HM.out.1 HM.out.2, HB.out.size⟩
  · simp only [Act.put, List.setIfInBounds_toArray, List.set_cons_zero, List.set_cons_succ]

    exact key1.out (0, D.heap.size, 0) _ ⟨HB.out.alloc HB.out.size _, Lw.rowB_new D M 32 HM.out.1 HM.out.2, HB.out.size⟩
  · simp only [Act.put, List.setIfInBounds_toArray, List.set_cons_zero, List.set_cons_succ]

    exact key2.out (0, 0, D.heap.size) _ ⟨HB.out.alloc HB.out.size _, Lw.rowB_new D M 32 HM.out.1 HM.out.2, HB.out.size⟩

set_option maxRecDepth 100000 in
theorem lifted (os : Os) (started : os.Started) (H : Type) (enc : TypeId × Value → H) :
    ReturnsInHanded {} Try.checked os 6 .any (Rows.xcurveReducedSpec.pre6 enc Try.prog Try.f6 Rows.xcurveReducedRow.domain false) (Rows.xcurveReducedSpec.post enc Try.prog Try.f6 false true false false) := by
  refine returnsInHanded_of_change (C := Try.checked) own started (by kernel_rfl) Try.func6
    (ChangeSpec.witness6 (enc := enc) (C := Try.checked) false ⟨#[], #[.string ByteArray.empty, .int .i64 0], []⟩ 8 (by kernel_rfl) (by kernel_rfl) (by kernel_rfl) (by kernel_rfl)) ?_
  intro W base args ds gs before hval0 hW hcnd _
  have hval : ∀ (j : Nat) t v, Try.f6.params[j]? = some t → args[j]? = some v → Value.okWide Try.prog W .any base t v := hval0
  have hW' := hW
  obtain ⟨p, q, hA0, hV, rfl, hfz, hnd⟩ := hW
  have hA : DataW.TrodAll enc Try.prog W 0 (fun _ => true) true Try.f6.params.toList args.toList ds p := hA0
  rw [Try.params6] at hA hval
  obtain ⟨v0, vs0, d0, ds0, p0, q0, hargs, rfl, rfl, h0, r0⟩ := trodAll_cons hA
  obtain ⟨v1, vs1, d1, ds1, p1, q1, rfl, rfl, rfl, h1, r1⟩ := trodAll_cons r0
  obtain ⟨rfl, rfl, rfl⟩ := trodAll_nil r1
  obtain rfl : args = #[v0, v1] := by cases args; simp_all
  obtain ⟨rfl, rfl⟩ := trodVars_none hV
  obtain ⟨a0, rfl, rfl, rfl, w0⟩ := open_string Try.underlying9 (hval 0 9 v0 rfl rfl) h0
  obtain ⟨a1, rfl, rfl, rfl, w1⟩ := open_int Try.underlying3 (hval 1 3 v1 rfl rfl) h1
  clear hA0 hval0
  simp only [List.append_nil] at hW'
  refine (walk a0 a1 w0 w1 W).mono fun e W' ⟨he, bel⟩ => ?_
  subst he
  exact ⟨_, rfl, _, _, _, [], [], [], hW', trodAll_mk1 (shut_bool Try.underlying4 _), (trodAll_cons_mk (shut_string Try.underlying9 w0) (trodAll_cons_mk (shut_int Try.underlying3 w1) trodAll_mk0)), rfl, bel.frame _, fun h => by cases h⟩

theorem over : Rows.xcurveReducedRow.holds Try.pinned (OpenSpec.ofChange Rows.xcurveReducedSpec) :=
  OpenClaim.holds_of_wide 6 Try.f6 rfl rfl rfl rfl rfl rfl rfl ⟨rfl, rfl, rfl, rfl, rfl⟩ rfl rfl rfl rfl rfl (by kernel_rfl) Try.func6 (by kernel_rfl)
    (of_decide_eq_true (by kernel_rfl)) (by unfold Func.isWrapper; first | (rw [if_pos (by decide +kernel)]; kernel_rfl) | (rw [if_neg (by decide +kernel)]; exact ⟨rfl, rfl⟩))
    (fun os started H enc _ => lifted os started H enc)

theorem proved : Rows.XcurveReducedSaid :=
  over
#print axioms proved
end Go.Proofs.Ytpniinolkflfjaa.xcurveReduced
