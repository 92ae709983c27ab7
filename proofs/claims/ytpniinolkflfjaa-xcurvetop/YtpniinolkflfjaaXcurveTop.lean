/-
  Whatever texts are laid out as key and point, the point's highest bit does not count, the points 0, 1, the prime and minus one are refused by their number, and so is a key of 31 bytes: at every input, with no condition.
-/
import Derived.Test.YtpniinolkflfjaaJoca
import Derived.Test.YtpniinolkflfjaaJocb
import Derived.Test.YtpniinolkflfjaaRows
import Derived.WalkKit
import Derived.ProofKit
import Derived.OpenShut
import Derived.ShutString
import Derived.Below
import Derived.ChangeOld
namespace Go.Proofs.Ytpniinolkflfjaa.xcurveTop
open Go.ChangeShapes Go.WideShapes Go.ChangeAt Go.RowKit
open Go.ChangeMaps (open_string shut_string)
set_option linter.unusedVariables false

theorem own : ownKnob Try.prog.godebug = none := by kernel_rfl

open Go.Proofs.Xu Go.Proofs.Xv
open Go.Proofs.Im (ready_one2 ready_call2)
open Go.Proofs.He (takeH callH)
open Go.Proofs.Aes (byt byt_lt get_byt)
set_option maxHeartbeats 8000000 in
set_option maxRecDepth 100000 in
theorem walk (a0 : ByteArray) (a1 : ByteArray) (a2 : Int) (_w0 : a0.size ≤ maxLen) (_w1 : a1.size ≤ maxLen) (_w2 : (Lit.int .i64 a2).wf = true) (w : World) :
    Calls Try.prog 5 #[.string a0, .string a1, .int .i64 a2] w fun e w' => e = .returned (.bool true) ∧ Below w.heap.size w w' := by
  have HB : Hid (Below w.heap.size w w) := Below.refl _ _
  clear _w0 _w1 _w2
  obtain ⟨M, hM0, hmk, hK0⟩ := Xw.noughts
  have HM := Lib.hid hM0
  clear hM0 hK0
  go_enter Try.func5, Try.ntmps5
  go_upto_region 3 with (go_at_call 12; refine (Xw.awake10_any _).mono ?_; rintro e u ⟨rfl, hb⟩; have HB := Lib.hid (Lw.go_on HB.out hb); clear hb)
  refine wp_region_any (by kernel_rfl) ?_
  change wpAny _ _ _ _ _ _ _ u.drew
  have HB : Hid (Below w.heap.size w u.drew) := HB.out.drew
  generalize u.drew = D at HB ⊢
  refine Lw.meetA (fun (gs : Nat × Nat) a => ((((a.put (some 25) (.slice (some ⟨gs.1, 0, none⟩) 32 32)).put (some 26) (.slice (some ⟨gs.2, 0, none⟩) 32 32)).put (some 7) (.slice (some ⟨gs.1, 0, none⟩) 32 32)).put (some 8) (.slice (some ⟨gs.2, 0, none⟩) 32 32))) #[true, true, true, true] 0 (fun (gs : Nat × Nat) W => Below w.heap.size w W ∧ Lw.RowB W gs.1 32 (fun _ => 0) ∧ w.heap.size ≤ gs.1 ∧ Lw.RowB W gs.2 32 (fun _ => 0) ∧ w.heap.size ≤ gs.2 ∧ ¬ gs.1 = gs.2) ?_ (fun key010 => ?_)
  · rintro ⟨g0, g1⟩ W ⟨hb, r0, l0, r1, l1, d01⟩
    simp only [Act.put, List.setIfInBounds_toArray, List.set_cons_zero, List.set_cons_succ]
    have HB := Lib.hid hb
    clear hb
    refine wpAny_done (by kernel_rfl) ?_ _
    have R0 := Lib.hid r0
    have L0 := Lib.hid l0
    have R1 := Lib.hid r1
    have L1 := Lib.hid l1
    have D01 := Lib.hid d01
    clear r0 l0 r1 l1 d01
    go_wp2_with (fail)
    go_loopw [9] (fun v wx => ∃ i : Nat, Hid (i ≤ 32) ∧ v = .int .i64 i ∧ Hid (Lw.RowB wx g0 32 (Xw.kb a0 i)) ∧ Hid (Lw.RowB wx g1 32 (Xw.kb a1 i)) ∧ Hid (Below w.heap.size w wx)) (fun v _ => 32 - (intOf v).toNat)
    case atStart => exact ⟨0, Nat.zero_le _, rfl, R0.out.congr fun t _ => (Xw.kb_zero a0 t).symm, R1.out.congr fun t _ => (Xw.kb_zero a1 t).symm, HB⟩
    case round =>
      clear R0 R1 HB
      obtain ⟨i, hi, rfl, R0, R1, HB⟩ := hrel
      by_cases hlt : i < 32
      · have il : ((i : Int) < 32) = True := eq_true (by omega)
        have il' : (i : Int) < 32 := by omega
        have HI := Lib.hid hlt
        have y0 := World.rowIs.cell R0.out (i := i) hlt
        have z0 := World.rowIs.frozen R0.out i
        have y1 := World.rowIs.cell R1.out (i := i) hlt
        have z1 := World.rowIs.frozen R1.out i
        have d01 : ¬ g0 = g1 := D01.out
        by_cases hs0 : i < a0.size
        · by_cases hs1 : i < a1.size
          · have l0 : ((i : Int) < (a0.size : Int)) = True := eq_true (by omega)
            have l0' : (i : Int) < (a0.size : Int) := by omega
            have v0 : ∀ h : i < a0.size, (a0[i]'h).toNat = byt a0 i := fun h => get_byt a0 _ h
            have HN0 := Lib.hid (Xw.kb_yes a0 hs0)
            generalize byt a0 i = p0 at v0 HN0
            have l1 : ((i : Int) < (a1.size : Int)) = True := eq_true (by omega)
            have l1' : (i : Int) < (a1.size : Int) := by omega
            have v1 : ∀ h : i < a1.size, (a1[i]'h).toNat = byt a1 i := fun h => get_byt a1 _ h
            have HN1 := Lib.hid (Xw.kb_yes a1 hs1)
            generalize byt a1 i = p1 at v1 HN1
            clear hlt
            go_wp2_with (fail)
            have q0 : Lw.RowB (wr.setCell ⟨g0, i, none⟩ (.int .u8 (p0 : Nat))) g0 32 (Xw.kb a0 (i + 1)) := (R0.out.set i p0).congr fun t _ => HN0.out t
            have q1 : Lw.RowB (wr.setCell ⟨g0, i, none⟩ (.int .u8 (p0 : Nat))) g1 32 (Xw.kb a1 i) := World.rowIs.setOther R1.out (fun e => D01.out e.symm) _
            have qb : Below w.heap.size w (wr.setCell ⟨g0, i, none⟩ (.int .u8 (p0 : Nat))) := HB.out.setCell L0.out _
            exact ⟨⟨i + 1, HI.out, by go_num, World.rowIs.setOther q0 D01.out _, (q1.set i p1).congr fun t _ => HN1.out t, qb.setCell L1.out _⟩, Lw.meas 32 i HI.out⟩
          · have l0 : ((i : Int) < (a0.size : Int)) = True := eq_true (by omega)
            have l0' : (i : Int) < (a0.size : Int) := by omega
            have v0 : ∀ h : i < a0.size, (a0[i]'h).toNat = byt a0 i := fun h => get_byt a0 _ h
            have HN0 := Lib.hid (Xw.kb_yes a0 hs0)
            generalize byt a0 i = p0 at v0 HN0
            have l1 : ((i : Int) < (a1.size : Int)) = False := eq_false (by omega)
            have HN1 := Lib.hid (Xw.kb_no a1 hs1)
            clear hs1
            clear hlt
            go_wp2_with (fail)
            have q0 : Lw.RowB (wr.setCell ⟨g0, i, none⟩ (.int .u8 (p0 : Nat))) g0 32 (Xw.kb a0 (i + 1)) := (R0.out.set i p0).congr fun t _ => HN0.out t
            have q1 : Lw.RowB (wr.setCell ⟨g0, i, none⟩ (.int .u8 (p0 : Nat))) g1 32 (Xw.kb a1 i) := World.rowIs.setOther R1.out (fun e => D01.out e.symm) _
            have qb : Below w.heap.size w (wr.setCell ⟨g0, i, none⟩ (.int .u8 (p0 : Nat))) := HB.out.setCell L0.out _
            exact ⟨⟨i + 1, HI.out, by go_num, q0, q1.congr fun t _ => HN1.out t, qb⟩, Lw.meas 32 i HI.out⟩
        · by_cases hs1 : i < a1.size
          · have l0 : ((i : Int) < (a0.size : Int)) = False := eq_false (by omega)
            have HN0 := Lib.hid (Xw.kb_no a0 hs0)
            have l1 : ((i : Int) < (a1.size : Int)) = True := eq_true (by omega)
            have l1' : (i : Int) < (a1.size : Int) := by omega
            have v1 : ∀ h : i < a1.size, (a1[i]'h).toNat = byt a1 i := fun h => get_byt a1 _ h
            have HN1 := Lib.hid (Xw.kb_yes a1 hs1)
            generalize byt a1 i = p1 at v1 HN1
            clear hs0
            clear hlt
            go_wp2_with (fail)
            have q0 : Lw.RowB wr g0 32 (Xw.kb a0 (i + 1)) := R0.out.congr fun t _ => HN0.out t
            have q1 := R1.out
            have qb := HB.out
            exact ⟨⟨i + 1, HI.out, by go_num, World.rowIs.setOther q0 D01.out _, (q1.set i p1).congr fun t _ => HN1.out t, qb.setCell L1.out _⟩, Lw.meas 32 i HI.out⟩
          · have l0 : ((i : Int) < (a0.size : Int)) = False := eq_false (by omega)
            have HN0 := Lib.hid (Xw.kb_no a0 hs0)
            have l1 : ((i : Int) < (a1.size : Int)) = False := eq_false (by omega)
            have HN1 := Lib.hid (Xw.kb_no a1 hs1)
            clear hs0
            clear hs1
            clear hlt
            go_wp2_with (fail)
            have q0 : Lw.RowB wr g0 32 (Xw.kb a0 (i + 1)) := R0.out.congr fun t _ => HN0.out t
            have q1 := R1.out
            have qb := HB.out
            exact ⟨⟨i + 1, HI.out, by go_num, q0, q1.congr fun t _ => HN1.out t, qb⟩, Lw.meas 32 i HI.out⟩
      · have il : ((i : Int) < 32) = False := eq_false (by omega)
        obtain rfl : i = 32 := by have := hi.out; omega
        rw [show ((32 : Nat) : Int) = 32 from rfl]
        have R0 := Lib.hid (R0.out.congr fun t ht => Xw.kb_end a0 t ht)
        have R1 := Lib.hid (R1.out.congr fun t ht => Xw.kb_end a1 t ht)
        clear hlt il hi
        obtain ⟨v, hv1, hv2, hv3⟩ := Xw.xor128 (Xw.ka_lt a1 31)
        obtain ⟨z, hz1, hz2⟩ := Xw.mask1 a2
        obtain ⟨q, hq1, hq2⟩ := Xw.mask1 (a2 / 2)
        have hsz : (tx (Xw.ka a0)).size = 32 := tx_size _
        have hEq := sh_same hsz hsz (tx_size (Xw.at_ (Xw.ka a1) 31 v)) (tx_size (Xw.ka a1)) (sF_same (k := tx (Xw.ka a0)) rfl (Xw.uX_at (Xw.ka_lt a1) hv1 hv2))
        obtain ⟨y, hy⟩ : ∃ y : Nat, 236 + q = y := ⟨_, rfl⟩
        have hy2 : y = 236 ∨ y = 237 := by omega
        have hzz : (z : Int) % 256 = (z : Int) := by omega
        have hyy : (236 + (q : Int)) % 256 = (y : Int) := by omega
        have hyz : (y : Int) % 256 = (y : Int) := by omega
        have hyw : wrap64 (236 + (q : Int)) = (y : Int) := Xw.wrap_y hy hq1
        have H1 := Lib.hid (fun v : World => Xd.shared_any (tx (Xw.ka a0)) (tx (Xw.ka a1)) v)
        have H2 := Lib.hid (fun w : World => Xd.shared_any (tx (Xw.ka a0)) (tx (Xw.at_ (Xw.ka a1) 31 v)) w)
        have H3 := Lib.hid (fun v : World => Xd.shared_any (tx (Xw.ka a0)) (tx (sA z)) v)
        have H4 := Lib.hid (fun v : World => Xd.shared_any (tx (Xw.ka a0)) (tx (pA y)) v)
        have H5 := Lib.hid (fun w : World => Xd.shared_any (Lw.pieceS (Xw.ka a0) 0 31) (tx (Xw.at_ (Xw.ka a1) 31 v)) w)
        have hf3 := Xw.small_z hsz hz1
        have hf4 := Xw.small_y hsz hy2
        have hf5 := Xw.cut_form (Xw.ka a0) (tx (Xw.at_ (Xw.ka a1) 31 v))
        rw [hEq.1, hEq.2] at H2
        rw [hf3] at H3
        rw [hf4] at H4
        rw [hf5] at H5
        have HLn := Lib.hid (sh_len hsz (tx_size (Xw.ka a1)))
        generalize shS (tx (Xw.ka a0)) (tx (Xw.ka a1)) = S1 at *
        generalize shE (tx (Xw.ka a0)) (tx (Xw.ka a1)) = E1 at *
        generalize shS (tx (Xw.ka a0)) (tx (sA z)) = S3 at *
        generalize shS (tx (Xw.ka a0)) (tx (pA y)) = S4 at *
        generalize shS (Lw.pieceS (Xw.ka a0) 0 31) (tx (Xw.at_ (Xw.ka a1) 31 v)) = S5 at *
        clear hsz hEq hf3 hf4 hf5 hy hy2
        have HV := Lib.hid hv3
        have HZ := Lib.hid hz2
        have HQ := Lib.hid hq2
        clear hv3 hz2 hq2 hv1 hv2 hz1 hq1
        have T0 : Hid (∀ (W : World), Lw.RowB W g0 32 (Xw.ka a0) → (Go.convert 32 9 (.slice (some ⟨g0, 0, none⟩) 32 32)).run Try.prog W = .ok (.string (Lw.pieceS (Xw.ka a0) 0 32)) W) := fun W r => r.text 0 32 32 (by decide)
        have T1 : Hid (∀ (W : World), Lw.RowB W g1 32 (Xw.ka a1) → (Go.convert 32 9 (.slice (some ⟨g1, 0, none⟩) 32 32)).run Try.prog W = .ok (.string (Lw.pieceS (Xw.ka a1) 0 32)) W) := fun W r => r.text 0 32 32 (by decide)
        have T2 : Hid (∀ (W : World), Lw.RowB W g1 32 (Xw.at_ (Xw.ka a1) 31 v) → (Go.convert 32 9 (.slice (some ⟨g1, 0, none⟩) 32 32)).run Try.prog W = .ok (.string (Lw.pieceS (Xw.at_ (Xw.ka a1) 31 v) 0 32)) W) := fun W r => r.text 0 32 32 (by decide)
        have T5 : Hid (∀ (W : World), Lw.RowB W g0 32 (Xw.ka a0) → (Go.convert 32 9 (.slice (some ⟨g0, 0, none⟩) 31 32)).run Try.prog W = .ok (.string (Lw.pieceS (Xw.ka a0) 0 31)) W) := fun W r => r.text 0 31 32 (by decide)
        have T3 : Hid (∀ (W : World) (g : Nat), Lw.RowB W g 32 (sA z) → (Go.convert 32 9 (.slice (some ⟨g, 0, none⟩) 32 32)).run Try.prog W = .ok (.string (Lw.pieceS (sA z) 0 32)) W) := fun W g r => r.text 0 32 32 (by decide)
        have T4 : Hid (∀ (W : World) (g : Nat), Lw.RowB W g 32 (pA y) → (Go.convert 32 9 (.slice (some ⟨g, 0, none⟩) 32 32)).run Try.prog W = .ok (.string (Lw.pieceS (pA y) 0 32)) W) := fun W g r => r.text 0 32 32 (by decide)
        unfold tx at H1 H2 H3 H4 H5
        generalize Lw.pieceS (Xw.ka a0) 0 32 = TA at *
        generalize Lw.pieceS (Xw.ka a1) 0 32 = TB at *
        generalize Lw.pieceS (Xw.at_ (Xw.ka a1) 31 v) 0 32 = TC at *
        generalize Lw.pieceS (sA z) 0 32 = TZ at *
        generalize Lw.pieceS (pA y) 0 32 = TY at *
        generalize Lw.pieceS (Xw.ka a0) 0 31 = TS at *
        have q0 := T0.out _ R0.out
        have q1 := T1.out _ R1.out
        go_wp2_with (first | (go_at_call 7; fail))
        refine (H1.out _).mono ?_
        rintro e v1 ⟨rfl, hb⟩
        have R0 := Lib.hid (R0.out.on hb)
        have R1 := Lib.hid (R1.out.on hb)
        have HB := Lib.hid (Lw.go_on HB.out hb)
        clear hb q0 q1
        have hv3 := HV.out
        have c1 := World.rowIs.cell R1.out (i := 31) (by decide)
        have f1 := World.rowIs.frozen R1.out 31
        generalize Xw.ka a1 31 = b31 at hv3 c1
        go_upto_region 13 with (fail)
        have R0 := Lib.hid (show Lw.RowB (v1.setCell ⟨g1, 31, none⟩ (.int .u8 (v : Nat))) g0 32 (Xw.ka a0) from World.rowIs.setOther R0.out D01.out _)
        have R1 := Lib.hid (show Lw.RowB (v1.setCell ⟨g1, 31, none⟩ (.int .u8 (v : Nat))) g1 32 (Xw.at_ (Xw.ka a1) 31 v) from R1.out.set 31 v)
        have HB := Lib.hid (show Below w.heap.size w (v1.setCell ⟨g1, 31, none⟩ (.int .u8 (v : Nat))) from HB.out.setCell L1.out _)
        clear c1 f1 hv3 HV
        generalize v1.setCell ⟨g1, 31, none⟩ (.int .u8 (v : Nat)) = w2 at R0 R1 HB ⊢
        have q0 := T0.out _ R0.out
        have q1 := T2.out _ R1.out
        go_wp2_with (first | (go_at_call 7; fail))
        refine (H2.out _).mono ?_
        rintro e v2 ⟨rfl, hb⟩
        have R0 := Lib.hid (R0.out.on hb)
        have R1 := Lib.hid (R1.out.on hb)
        have HB := Lib.hid (Lw.go_on HB.out hb)
        clear hb q0 q1
        go_upto_region 15 with (fail)
        have R2 := Lib.hid (Lw.rowB_new v2 M 32 HM.out.1 HM.out.2)
        have D02 : Hid (¬ g0 = v2.heap.size) := fun e => by have h : g0 < v2.heap.size := World.rowIs.lt R0.out; omega
        have D12 : Hid (¬ g1 = v2.heap.size) := fun e => by have h : g1 < v2.heap.size := World.rowIs.lt R1.out; omega
        have R0 := Lib.hid (show Lw.RowB (v2.alloc (.cells M 5)) g0 32 (Xw.ka a0) from World.rowIs.alloc R0.out _)
        have R1 := Lib.hid (show Lw.RowB (v2.alloc (.cells M 5)) g1 32 (Xw.at_ (Xw.ka a1) 31 v) from World.rowIs.alloc R1.out _)
        have L2 := Lib.hid (show w.heap.size ≤ v2.heap.size from HB.out.size)
        have HB := Lib.hid (show Below w.heap.size w (v2.alloc (.cells M 5)) from HB.out.alloc HB.out.size _)
        generalize v2.alloc (.cells M 5) = w3 at R0 R1 R2 HB ⊢
        generalize v2.heap.size = g2 at R2 D02 D12 L2 ⊢
        have c1 := World.rowIs.cell R2.out (i := 0) (by decide)
        have f1 := World.rowIs.frozen R2.out 0
        have hz2 := HZ.out
        go_upto_region 16 with (fail)
        have R0 := Lib.hid (show Lw.RowB (w3.setCell ⟨g2, 0, none⟩ (.int .u8 (z : Nat))) g0 32 (Xw.ka a0) from World.rowIs.setOther R0.out D02.out _)
        have R1 := Lib.hid (show Lw.RowB (w3.setCell ⟨g2, 0, none⟩ (.int .u8 (z : Nat))) g1 32 (Xw.at_ (Xw.ka a1) 31 v) from World.rowIs.setOther R1.out D12.out _)
        have R2 := Lib.hid (show Lw.RowB (w3.setCell ⟨g2, 0, none⟩ (.int .u8 (z : Nat))) g2 32 (sA z) from R2.out.set 0 z)
        have HB := Lib.hid (show Below w.heap.size w (w3.setCell ⟨g2, 0, none⟩ (.int .u8 (z : Nat))) from HB.out.setCell L2.out _)
        clear c1 f1 hz2 HZ hzz
        generalize w3.setCell ⟨g2, 0, none⟩ (.int .u8 (z : Nat)) = w4 at R0 R1 R2 HB ⊢
        have q0 := T0.out _ R0.out
        have q1 := T3.out _ _ R2.out
        go_wp2_with (first | (go_at_call 7; fail))
        refine (H3.out _).mono ?_
        rintro e v3 ⟨rfl, hb⟩
        have R0 := Lib.hid (R0.out.on hb)
        have R1 := Lib.hid (R1.out.on hb)
        have HB := Lib.hid (Lw.go_on HB.out hb)
        clear hb q0 q1
        go_upto_region 18 with (fail)
        have R2 := Lib.hid (Lw.rowB_new v3 M 32 HM.out.1 HM.out.2)
        have D02 : Hid (¬ g0 = v3.heap.size) := fun e => by have h : g0 < v3.heap.size := World.rowIs.lt R0.out; omega
        have D12 : Hid (¬ g1 = v3.heap.size) := fun e => by have h : g1 < v3.heap.size := World.rowIs.lt R1.out; omega
        have R0 := Lib.hid (show Lw.RowB (v3.alloc (.cells M 5)) g0 32 (Xw.ka a0) from World.rowIs.alloc R0.out _)
        have R1 := Lib.hid (show Lw.RowB (v3.alloc (.cells M 5)) g1 32 (Xw.at_ (Xw.ka a1) 31 v) from World.rowIs.alloc R1.out _)
        have L2 := Lib.hid (show w.heap.size ≤ v3.heap.size from HB.out.size)
        have HB := Lib.hid (show Below w.heap.size w (v3.alloc (.cells M 5)) from HB.out.alloc HB.out.size _)
        generalize v3.alloc (.cells M 5) = w5 at R0 R1 R2 HB ⊢
        generalize v3.heap.size = g4 at R2 D02 D12 L2 ⊢
        clear hmk HM
        go_wp2_with (fail)
        go_loopw [18] (fun v' wx => ∃ i : Nat, Hid (i ≤ 32) ∧ v' = .int .i64 i ∧ Hid (Lw.RowB wx g0 32 (Xw.ka a0)) ∧ Hid (Lw.RowB wx g1 32 (Xw.at_ (Xw.ka a1) 31 v)) ∧ Hid (Lw.RowB wx g4 32 (Xw.fb i)) ∧ Hid (Below w.heap.size w wx)) (fun v' _ => 32 - (intOf v').toNat)
        case atStart => exact ⟨0, Nat.zero_le _, rfl, R0, R1, R2.out.congr fun t _ => (Xw.fb_zero t).symm, HB⟩
        case round =>
          clear R0 R1 R2 HB
          obtain ⟨i, hi, rfl, R0, R1, R2, HB⟩ := hrel
          by_cases hlt : i < 32
          · have il : ((i : Int) < 32) = True := eq_true (by omega)
            have il' : (i : Int) < 32 := by omega
            have HI := Lib.hid hlt
            have y2 := World.rowIs.cell R2.out (i := i) hlt
            have z2 := World.rowIs.frozen R2.out i
            clear hlt
            go_wp2_with (fail)
            exact ⟨⟨i + 1, HI.out, by go_num, World.rowIs.setOther R0.out D02.out _, World.rowIs.setOther R1.out D12.out _, (R2.out.set i 255).congr fun t _ => Xw.fb_next i t, HB.out.setCell L2.out _⟩, Lw.meas 32 i HI.out⟩
          · have il : ((i : Int) < 32) = False := eq_false (by omega)
            obtain rfl : i = 32 := by have := hi.out; omega
            rw [show ((32 : Nat) : Int) = 32 from rfl]
            clear hlt il hi
            have c1 := World.rowIs.cell R2.out (i := 31) (by decide)
            have f1 := World.rowIs.frozen R2.out 31
            go_upto_region 23 with (fail)
            have R0 := Lib.hid (show Lw.RowB (wr.setCell ⟨g4, 31, none⟩ (.int .u8 127)) g0 32 (Xw.ka a0) from World.rowIs.setOther R0.out D02.out _)
            have R1 := Lib.hid (show Lw.RowB (wr.setCell ⟨g4, 31, none⟩ (.int .u8 127)) g1 32 (Xw.at_ (Xw.ka a1) 31 v) from World.rowIs.setOther R1.out D12.out _)
            have R2 := Lib.hid (show Lw.RowB (wr.setCell ⟨g4, 31, none⟩ (.int .u8 127)) g4 32 (fun t => if t = 31 then 127 else Xw.fb 32 t) from R2.out.set 31 127)
            have HB := Lib.hid (show Below w.heap.size w (wr.setCell ⟨g4, 31, none⟩ (.int .u8 127)) from HB.out.setCell L2.out _)
            clear c1 f1
            generalize wr.setCell ⟨g4, 31, none⟩ (.int .u8 127) = w6 at R0 R1 R2 HB ⊢
            have c1 := World.rowIs.cell R2.out (i := 0) (by decide)
            have f1 := World.rowIs.frozen R2.out 0
            have hq2 := HQ.out
            go_upto_region 24 with (fail)
            have R0 := Lib.hid (show Lw.RowB (w6.setCell ⟨g4, 0, none⟩ (.int .u8 (y : Nat))) g0 32 (Xw.ka a0) from World.rowIs.setOther R0.out D02.out _)
            have R1 := Lib.hid (show Lw.RowB (w6.setCell ⟨g4, 0, none⟩ (.int .u8 (y : Nat))) g1 32 (Xw.at_ (Xw.ka a1) 31 v) from World.rowIs.setOther R1.out D12.out _)
            have R2 := Lib.hid (show Lw.RowB (w6.setCell ⟨g4, 0, none⟩ (.int .u8 (y : Nat))) g4 32 (pA y) from (R2.out.set 0 y).congr fun t ht => Xw.fb_top2 y t ht)
            have HB := Lib.hid (show Below w.heap.size w (w6.setCell ⟨g4, 0, none⟩ (.int .u8 (y : Nat))) from HB.out.setCell L2.out _)
            clear c1 f1 hq2 HQ hyy hyw hyz
            generalize w6.setCell ⟨g4, 0, none⟩ (.int .u8 (y : Nat)) = w7 at R0 R1 R2 HB ⊢
            have q0 := T0.out _ R0.out
            have q1 := T4.out _ _ R2.out
            go_wp2_with (first | (go_at_call 7; fail))
            refine (H4.out _).mono ?_
            rintro e v4 ⟨rfl, hb⟩
            have R0 := Lib.hid (R0.out.on hb)
            have R1 := Lib.hid (R1.out.on hb)
            have HB := Lib.hid (Lw.go_on HB.out hb)
            clear hb q0 q1
            go_upto_region 25 with (fail)
            have hS0 : Lw.RowB v4.drew g0 32 (Xw.ka a0) ∧ Lw.RowB v4.drew g1 32 (Xw.at_ (Xw.ka a1) 31 v) ∧ Below w.heap.size w v4.drew := ⟨R0.out.drew, R1.out.drew, HB.out.drew⟩
            refine wp_region_held (S := fun u => Lw.RowB u g0 32 (Xw.ka a0) ∧ Lw.RowB u g1 32 (Xw.at_ (Xw.ka a1) 31 v) ∧ Below w.heap.size w u) (by kernel_rfl) ?_
            change wpAnyH _ _ _ _ _ _ _ _ v4.drew
            have HS := Lib.hid hS0
            clear hS0
            generalize v4.drew = wd at HS ⊢
            refine takeH (i := 0) (some 113) (.slice (some ⟨g0, 0, none⟩) 32 32) rfl rfl rfl (by kernel_rfl) (by kernel_rfl) (by kernel_rfl) (fun _ _ _ h => h) (fun w _ => by go_simp) HS.out ?_
            simp only [Act.put, List.setIfInBounds_toArray, List.set_cons_zero, List.set_cons_succ]
            refine takeH (i := 1) (some 114) (.slice (some ⟨g0, 0, none⟩) 31 32) rfl rfl rfl (by kernel_rfl) (by kernel_rfl) (by kernel_rfl) (fun _ _ _ h => h) (fun w _ => by go_simp) HS.out ?_
            simp only [Act.put, List.setIfInBounds_toArray, List.set_cons_zero, List.set_cons_succ]
            refine takeH (i := 2) (some 115) (.string TS) rfl rfl rfl (by kernel_rfl) (by kernel_rfl) (by kernel_rfl) (fun _ _ _ h => h) (fun w h => by have q := T5.out _ h.1; go_simp) HS.out ?_
            simp only [Act.put, List.setIfInBounds_toArray, List.set_cons_zero, List.set_cons_succ]
            refine takeH (i := 3) (some 116) (.slice (some ⟨g1, 0, none⟩) 32 32) rfl rfl rfl (by kernel_rfl) (by kernel_rfl) (by kernel_rfl) (fun _ _ _ h => h) (fun w _ => by go_simp) HS.out ?_
            simp only [Act.put, List.setIfInBounds_toArray, List.set_cons_zero, List.set_cons_succ]
            refine takeH (i := 4) (some 117) (.string TC) rfl rfl rfl (by kernel_rfl) (by kernel_rfl) (by kernel_rfl) (fun _ _ _ h => h) (fun w h => by have q := T2.out _ h.2.1; go_simp) HS.out ?_
            simp only [Act.put, List.setIfInBounds_toArray, List.set_cons_zero, List.set_cons_succ]
            refine wpAnyH_ready (rs := [5]) (by kernel_rfl) (by simp) ?_
            refine callH (some 118) rfl rfl rfl 7 _ _ rfl (fun _ _ => by go_simp) #[.string TS, .string TC] (by kernel_rfl) ?_ AllReadyH.nil
            refine (H5.out wd).mono ?_
            rintro e v5 ⟨rfl, hb⟩
            have HS := Lib.hid (show Lw.RowB v5 g0 32 (Xw.ka a0) ∧ Lw.RowB v5 g1 32 (Xw.at_ (Xw.ka a1) 31 v) ∧ Below w.heap.size w v5 from ⟨HS.out.1.on hb, HS.out.2.1.on hb, Lw.go_on HS.out.2.2 hb⟩)
            refine ⟨_, rfl, HS.out, ?_⟩
            clear hb
            simp only [Act.put, List.setIfInBounds_toArray, List.set_cons_zero, List.set_cons_succ]
            refine takeH (i := 6) (some 112) (.tuple #[.string S5, .int .i64 1000]) rfl rfl rfl (by kernel_rfl) (by kernel_rfl) (by kernel_rfl) (fun _ _ _ h => h) (fun w _ => by go_simp) HS.out ?_
            simp only [Act.put, List.setIfInBounds_toArray, List.set_cons_zero, List.set_cons_succ]
            refine takeH (i := 7) (some 119) (.string S5) rfl rfl rfl (by kernel_rfl) (by kernel_rfl) (by kernel_rfl) (fun _ _ _ h => h) (fun w _ => by go_simp) HS.out ?_
            simp only [Act.put, List.setIfInBounds_toArray, List.set_cons_zero, List.set_cons_succ]
            refine takeH (i := 8) (some 120) (.int .i64 1000) rfl rfl rfl (by kernel_rfl) (by kernel_rfl) (by kernel_rfl) (fun _ _ _ h => h) (fun w _ => by go_simp) HS.out ?_
            simp only [Act.put, List.setIfInBounds_toArray, List.set_cons_zero, List.set_cons_succ]
            refine takeH (i := 9) (some 21) (.string S5) rfl rfl rfl (by kernel_rfl) (by kernel_rfl) (by kernel_rfl) (fun _ _ _ h => h) (fun w _ => by go_simp) HS.out ?_
            simp only [Act.put, List.setIfInBounds_toArray, List.set_cons_zero, List.set_cons_succ]
            refine takeH (i := 10) (some 22) (.int .i64 1000) rfl rfl rfl (by kernel_rfl) (by kernel_rfl) (by kernel_rfl) (fun _ _ _ h => h) (fun w _ => by go_simp) HS.out ?_
            simp only [Act.put, List.setIfInBounds_toArray, List.set_cons_zero, List.set_cons_succ]
            refine wpAnyH_done (by kernel_rfl) ?_ _
            have HB := Lib.hid HS.out.2.2
            clear HS
            rcases HLn.out with ⟨rfl, hl⟩ | ⟨rfl, hl⟩
            · have hl1 : (S1.size : Int) = 32 := by omega
              clear hl HLn
              go_wp2_with (go_at_call 11; refine (Lw.num_same _ _).mono ?_; rintro e u ⟨rfl, rfl⟩)
              go_ret
              exact ⟨rfl, HB.out⟩
            · have hl1 : (S1.size : Int) = 0 := by omega
              clear hl HLn
              go_wp2_with (go_at_call 11; refine (Lw.num_same _ _).mono ?_; rintro e u ⟨rfl, rfl⟩)
              go_ret
              exact ⟨rfl, HB.out⟩
  simp only [Act.put, List.setIfInBounds_toArray, List.set_cons_zero, List.set_cons_succ] at key010
  have key01 := Lib.hid key010
  clear key010
  refine Lw.meetA (fun (gs : Nat × Nat) a => ((a.put (some 25) (.slice (some ⟨gs.1, 0, none⟩) 32 32)).put (some 7) (.slice (some ⟨gs.1, 0, none⟩) 32 32))) #[true, false, true, false] 2 (fun (gs : Nat × Nat) W => Below w.heap.size w W ∧ Lw.RowB W gs.1 32 (fun _ => 0) ∧ w.heap.size ≤ gs.1) ?_ (fun key00 => ?_)
  · rintro ⟨g0, g1⟩ W ⟨hb, r0, l0⟩
    simp only [Act.put, List.setIfInBounds_toArray, List.set_cons_zero, List.set_cons_succ]
    refine wpAny_ready (rs := [1]) (by kernel_rfl) (by simp) ?_
    refine ready_one2 (some 26) rfl rfl rfl (.slice (some ⟨W.heap.size, 0, none⟩) 32 32) (W.alloc (.cells M 5)) (by go_simp) ?_ AllReady.nil
    · simp only [Act.put, List.setIfInBounds_toArray, List.set_cons_zero, List.set_cons_succ]
      refine Lw.take_to (i := 3) (some 8) (.slice (some ⟨W.heap.size, 0, none⟩) 32 32) rfl rfl (by kernel_rfl) (by kernel_rfl) (by kernel_rfl) (fun _ _ _ h => h) (Or.inl ⟨by rfl, fun w => by go_simp⟩) ?_
      simp only [Act.put, List.setIfInBounds_toArray, List.set_cons_zero, List.set_cons_succ]
      exact key01.out (g0, W.heap.size) _ ⟨hb.alloc hb.size _, World.rowIs.alloc r0 _, l0, Lw.rowB_new W M 32 HM.out.1 HM.out.2, hb.size, (fun (e : g0 = W.heap.size) => by have h : g0 < W.heap.size := World.rowIs.lt r0; omega)⟩
  simp only [Act.put, List.setIfInBounds_toArray, List.set_cons_zero, List.set_cons_succ] at key00
  have key0 := Lib.hid key00
  clear key00
  refine Lw.meetA (fun (gs : Nat × Nat) a => (a.put (some 26) (.slice (some ⟨gs.2, 0, none⟩) 32 32))) #[false, true, false, false] 3 (fun (gs : Nat × Nat) W => Below w.heap.size w W ∧ Lw.RowB W gs.2 32 (fun _ => 0) ∧ w.heap.size ≤ gs.2) ?_ (fun key10 => ?_)
  · rintro ⟨g0, g1⟩ W ⟨hb, r1, l1⟩
    simp only [Act.put, List.setIfInBounds_toArray, List.set_cons_zero, List.set_cons_succ]
    refine wpAny_ready (rs := [0]) (by kernel_rfl) (by simp) ?_
    refine ready_one2 (some 25) rfl rfl rfl (.slice (some ⟨W.heap.size, 0, none⟩) 32 32) (W.alloc (.cells M 5)) (by go_simp) ?_ AllReady.nil
    · simp only [Act.put, List.setIfInBounds_toArray, List.set_cons_zero, List.set_cons_succ]
      refine Lw.take_to (i := 2) (some 7) (.slice (some ⟨W.heap.size, 0, none⟩) 32 32) rfl rfl (by kernel_rfl) (by kernel_rfl) (by kernel_rfl) (fun _ _ _ h => h) (Or.inl ⟨by rfl, fun w => by go_simp⟩) ?_
      simp only [Act.put, List.setIfInBounds_toArray, List.set_cons_zero, List.set_cons_succ]
      refine Lw.take_to (i := 3) (some 8) (.slice (some ⟨g1, 0, none⟩) 32 32) rfl rfl (by kernel_rfl) (by kernel_rfl) (by kernel_rfl) (fun _ _ _ h => h) (Or.inl ⟨by rfl, fun w => by go_simp⟩) ?_
      simp only [Act.put, List.setIfInBounds_toArray, List.set_cons_zero, List.set_cons_succ]
      exact key01.out (W.heap.size, g1) _ ⟨hb.alloc hb.size _, Lw.rowB_new W M 32 HM.out.1 HM.out.2, hb.size, World.rowIs.alloc r1 _, l1, (fun (e : W.heap.size = g1) => by have h : g1 < W.heap.size := World.rowIs.lt r1; omega)⟩
  simp only [Act.put, List.setIfInBounds_toArray, List.set_cons_zero, List.set_cons_succ] at key10
  have key1 := Lib.hid key10
  clear key10
  refine wpAny_ready (rs := [0, 1]) (by kernel_rfl) (by simp) ?_
  refine ready_one2 (some 25) rfl rfl rfl (.slice (some ⟨D.heap.size, 0, none⟩) 32 32) (D.alloc (.cells M 5)) (by go_simp) ?_ (ready_one2 (some 26) rfl rfl rfl (.slice (some ⟨D.heap.size, 0, none⟩) 32 32) (D.alloc (.cells M 5)) (by go_simp) ?_ AllReady.nil)
  · simp only [Act.put, List.setIfInBounds_toArray, List.set_cons_zero, List.set_cons_succ]
    refine Lw.take_to (i := 2) (some 7) (.slice (some ⟨D.heap.size, 0, none⟩) 32 32) rfl rfl (by kernel_rfl) (by kernel_rfl) (by kernel_rfl) (fun _ _ _ h => h) (Or.inl ⟨by rfl, fun w => by go_simp⟩) ?_
    simp only [Act.put, List.setIfInBounds_toArray, List.set_cons_zero, List.set_cons_succ]
    exact key0.out (D.heap.size, 0) _ ⟨HB.out.alloc HB.out.size _, Lw.rowB_new D M 32 HM.out.1 HM.out.2, HB.out.size⟩
  · simp only [Act.put, List.setIfInBounds_toArray, List.set_cons_zero, List.set_cons_succ]

    exact key1.out (0, D.heap.size) _ ⟨HB.out.alloc HB.out.size _, Lw.rowB_new D M 32 HM.out.1 HM.out.2, HB.out.size⟩

set_option maxRecDepth 100000 in
theorem lifted (os : Os) (started : os.Started) (H : Type) (enc : TypeId × Value → H) :
    ReturnsInHanded {} Try.checked os 5 .any (Rows.xcurveTopSpec.pre6 enc Try.prog Try.f5 Rows.xcurveTopRow.domain false) (Rows.xcurveTopSpec.post enc Try.prog Try.f5 false true false false) := by
  refine returnsInHanded_of_change (C := Try.checked) own started (by kernel_rfl) Try.func5
    (ChangeSpec.witness6 (enc := enc) (C := Try.checked) false ⟨#[], #[.string ByteArray.empty, .string ByteArray.empty, .int .i64 0], []⟩ 8 (by kernel_rfl) (by kernel_rfl) (by kernel_rfl) (by kernel_rfl)) ?_
  intro W base args ds gs before hval0 hW hcnd _
  have hval : ∀ (j : Nat) t v, Try.f5.params[j]? = some t → args[j]? = some v → Value.okWide Try.prog W .any base t v := hval0
  have hW' := hW
  obtain ⟨p, q, hA0, hV, rfl, hfz, hnd⟩ := hW
  have hA : DataW.TrodAll enc Try.prog W 0 (fun _ => true) true Try.f5.params.toList args.toList ds p := hA0
  rw [Try.params5] at hA hval
  obtain ⟨v0, vs0, d0, ds0, p0, q0, hargs, rfl, rfl, h0, r0⟩ := trodAll_cons hA
  obtain ⟨v1, vs1, d1, ds1, p1, q1, rfl, rfl, rfl, h1, r1⟩ := trodAll_cons r0
  obtain ⟨v2, vs2, d2, ds2, p2, q2, rfl, rfl, rfl, h2, r2⟩ := trodAll_cons r1
  obtain ⟨rfl, rfl, rfl⟩ := trodAll_nil r2
  obtain rfl : args = #[v0, v1, v2] := by cases args; simp_all
  obtain ⟨rfl, rfl⟩ := trodVars_none hV
  obtain ⟨a0, rfl, rfl, rfl, w0⟩ := open_string Try.underlying9 (hval 0 9 v0 rfl rfl) h0
  obtain ⟨a1, rfl, rfl, rfl, w1⟩ := open_string Try.underlying9 (hval 1 9 v1 rfl rfl) h1
  obtain ⟨a2, rfl, rfl, rfl, w2⟩ := open_int Try.underlying3 (hval 2 3 v2 rfl rfl) h2
  clear hA0 hval0
  simp only [List.append_nil] at hW'
  refine (walk a0 a1 a2 w0 w1 w2 W).mono fun e W' ⟨he, bel⟩ => ?_
  subst he
  exact ⟨_, rfl, _, _, _, [], [], [], hW', trodAll_mk1 (shut_bool Try.underlying4 _), (trodAll_cons_mk (shut_string Try.underlying9 w0) (trodAll_cons_mk (shut_string Try.underlying9 w1) (trodAll_cons_mk (shut_int Try.underlying3 w2) trodAll_mk0))), rfl, bel.frame _, fun h => by cases h⟩

theorem over : Rows.xcurveTopRow.holds Try.pinned (OpenSpec.ofChange Rows.xcurveTopSpec) :=
  OpenClaim.holds_of_wide 5 Try.f5 rfl rfl rfl rfl rfl rfl rfl ⟨rfl, rfl, rfl, rfl, rfl⟩ rfl rfl rfl rfl rfl (by kernel_rfl) Try.func5 (by kernel_rfl)
    (of_decide_eq_true (by kernel_rfl)) (by unfold Func.isWrapper; first | (rw [if_pos (by decide +kernel)]; kernel_rfl) | (rw [if_neg (by decide +kernel)]; exact ⟨rfl, rfl⟩))
    (fun os started H enc _ => lifted os started H enc)

theorem proved : Rows.XcurveTopSaid :=
  over
#print axioms proved
end Go.Proofs.Ytpniinolkflfjaa.xcurveTop
