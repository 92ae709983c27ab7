/-
  Proved: halberdlaw5.GcmTwins answers true at every input: the same is sealed alike, and two texts under one nonce differ as their plaintexts do. Conditions: none but the row's.
-/
import Derived.Test.YtfjodabkfjfcbaaGcW
import Derived.Test.YtfjodabkfjfcbaaRows
import Derived.WalkKit
import Derived.ProofKit
import Derived.OpenShut
import Derived.ShutString
import Derived.Below
import Derived.ChangeOld
namespace Go.Proofs.Ytfjodabkfjfcbaa.gcmTwins
open Go.ChangeShapes Go.WideShapes Go.ChangeAt Go.RowKit
open Go.ChangeMaps (open_string shut_string)
set_option linter.unusedVariables false

theorem own : ownKnob Try.prog.godebug = none := by kernel_rfl

set_option maxHeartbeats 4000000 in
set_option maxRecDepth 100000 in
theorem walk (a0 : ByteArray) (a1 : Bool) (a2 : ByteArray) (a3 : ByteArray) (_w0 : a0.size ≤ maxLen) (_w2 : a2.size ≤ maxLen) (_w3 : a3.size ≤ maxLen) (w : World) :
    Calls Try.prog 8 #[.string a0, .bool a1, .string a2, .string a3] w fun e w' => e = .returned (.bool true) ∧ Below w.heap.size w w' := by
  have HB : Hid (Below w.heap.size w w) := Below.refl _ _
  have HS2 := Lib.hid _w2
  have HS3 := Lib.hid _w3
  clear _w0 _w2 _w3
  cases a1
  · obtain ⟨M, hM, hMc, hmk0⟩ := Lw.zeros 28 (by decide)
    have hmk : ∀ W : World, (Instr.makeSlice 32 (.int .i64 28) (.int .i64 28)).run Try.prog W = .ok (.slice (some ⟨W.heap.size, 0, none⟩) 28 28) (W.alloc (.cells M 5)) := hmk0
    have HM := Lib.hid hM
    have HMc := Lib.hid hMc
    clear hmk0 hM hMc
    go_enter Try.func8, Try.ntmps8
    go_wp2_with (fail)
    refine (Gs.awake5_any _).mono ?_
    rintro e u ⟨rfl, hb⟩
    have HB := Lib.hid (Lw.go_on HB.out hb)
    clear hb
    go_wp2_with (fail)
    have HR : Hid (Lw.RowB (u.alloc (.cells M 5)) u.heap.size 28 (fun _ => 0)) := Lw.rowB_new u M 28 HM.out HMc.out
    have HG : Hid (w.heap.size ≤ u.heap.size) := HB.out.size
    have HB : Hid (Below w.heap.size w (u.alloc (.cells M 5))) := HB.out.alloc HG.out _
    clear hmk HM HMc
    generalize u.heap.size = g at HR HG ⊢
    generalize u.alloc (.cells M 5) = w1 at HR HB ⊢
    go_loopw [11] (fun v wx => ∃ (j : Nat) (X : Nat → Nat), Hid (j ≤ 28) ∧ v = .int .i64 j ∧ Hid (Lw.RowB wx g 28 X) ∧ Hid (∀ t, X t < 256) ∧ Hid (Below w.heap.size w wx)) (fun v _ => 28 - (intOf v).toNat)
    case atStart => exact ⟨0, fun _ => 0, Nat.zero_le _, rfl, HR, fun _ => by show 0 < 256; decide, HB⟩
    case round =>
      clear HR HB
      obtain ⟨j, X, hj, rfl, HR, HX, HB⟩ := hrel
      by_cases hlt : j < 28 ∧ j < a0.size
      · have jl : ((j : Int) < 28) = True := eq_true (by omega)
        have jl' : (j : Int) < 28 := by omega
        have js : ((j : Int) < (a0.size : Int)) = True := eq_true (by omega)
        have js' : (j : Int) < (a0.size : Int) := by omega
        have jn : j < a0.size := hlt.2
        have xc := World.rowIs.cell HR.out (i := j) hlt.1
        have xf := World.rowIs.frozen HR.out j
        have v0 : ∀ h : j < a0.size, (a0[j]'h).toNat = Aes.byt a0 j := fun h => Aes.get_byt a0 _ h
        have HJ := Lib.hid hlt.1
        clear hlt
        go_wp2_with (fail)
        refine ⟨⟨j + 1, fun i => if i = j then Aes.byt a0 j else X i, HJ.out, by go_num, HR.out.set j _, fun t => ?_, HB.out.setCell HG.out _⟩, Lw.meas 28 j HJ.out⟩
        show (if t = j then _ else X t) < 256
        split
        · exact Aes.byt_lt _ _
        · exact HX.out t
      · have hc1 := Lib.hid fun n => (HR.out.drewN n).text 0 16 28 (by decide)
        have hc2 := Lib.hid fun n => (HR.out.drewN n).text 16 12 12 (by decide)
        have HK : Hid ((Lw.pieceS X 0 16).size = 16) := Lw.pieceS_size _ _ _
        have HN : Hid ((Lw.pieceS X 16 12).size = 12) := Lw.pieceS_size _ _ _
        generalize Lw.pieceS X 0 16 = K at hc1 HK
        generalize Lw.pieceS X 16 12 = N at hc2 HN
        by_cases hl : j < 28
        · have jl : ((j : Int) < 28) = True := eq_true (by omega)
          have js : ((j : Int) < (a0.size : Int)) = False := eq_false (by omega)
          clear hlt hl
          go_upto_region 11 with (fail)
          clear jl js
          have c1 := hc1.out
          have c2 := hc2.out
          go_quiet (fail)
          have HB := Lib.hid (Lw.below_drewN HB.out nq)
          clear c1 c2 hc1 hc2 HR HX
          generalize wr.drewN nq = w2 at HB ⊢
          obtain ⟨k, hk⟩ : ∃ k : Nat, k = min (min a2.size a3.size) 2000 := ⟨_, rfl⟩
          have hmin : ∀ W, (Builtin.min_ #[3, 3, 3] 3 #[.int .i64 (a2.size : Int), .int .i64 (a3.size : Int), .int .i64 2000]).run Try.prog W = .ok (.int .i64 (k : Int)) W := fun W => by rw [hk]; exact Lw.min3 W _ _ _ _ 2000
          have HK2 : Hid (k ≤ a2.size) := by show k ≤ _; omega
          have HK3 : Hid (k ≤ a3.size) := by show k ≤ _; omega
          have HKm : Hid (k ≤ 2000) := by show k ≤ _; omega
          have k2 : ((k : Int) ≤ (a2.size : Int)) := by omega
          have k3 : ((k : Int) ≤ (a3.size : Int)) := by omega
          clear hk
          go_wp2_with (fail)
          have HS : Hid ((a2.extract 0 k).size = k) := Gs.take_size a2 k HK2.out
          have HT : Hid ((a3.extract 0 k).size = k) := Gs.take_size a3 k HK3.out
          have HSb : Hid (∀ i, i < k → Aes.byt (a2.extract 0 k) i = Aes.byt a2 i) := fun i hi => Gs.byt_take a2 k i hi
          have HTb : Hid (∀ i, i < k → Aes.byt (a3.extract 0 k) i = Aes.byt a3 i) := fun i hi => Gs.byt_take a3 k i hi
          refine (Gs.seal_fine K N ⟨#[97]⟩ (a2.extract 0 k) _ (Or.inl HK.out) HN.out (by decide) (by have := HS.out; have := HKm.out; omega)).mono ?_
          rintro e u ⟨rfl, hb⟩
          have HB := Lib.hid (Lw.go_on HB.out hb)
          clear hb
          go_wp2_with (fail)
          refine (Gs.seal_fine K N ⟨#[98]⟩ (a3.extract 0 k) _ (Or.inl HK.out) HN.out (by decide) (by have := HT.out; have := HKm.out; omega)).mono ?_
          rintro e u ⟨rfl, hb⟩
          have HB := Lib.hid (Lw.go_on HB.out hb)
          clear hb
          go_wp2_with (fail)
          refine (Gs.seal_fine K N ⟨#[97]⟩ (a2.extract 0 k) _ (Or.inl HK.out) HN.out (by decide) (by have := HS.out; have := HKm.out; omega)).mono ?_
          rintro e u ⟨rfl, hb⟩
          have HB := Lib.hid (Lw.go_on HB.out hb)
          clear hb
          have HXY : Hid (∀ i, i < k → Aes.byt (Gcm.sealS K N ⟨#[97]⟩ (a2.extract 0 k)) i ^^^ Aes.byt (Gcm.sealS K N ⟨#[98]⟩ (a3.extract 0 k)) i = Aes.byt a2 i ^^^ Aes.byt a3 i) := fun i hi => by
            rw [Gcm.seal_twins K N _ _ _ _ i (by rw [HS.out]; exact hi) (by rw [HT.out]; exact hi), HSb.out i hi, HTb.out i hi]
          have hx : (Gcm.sealS K N ⟨#[97]⟩ (a2.extract 0 k)).size = k + 16 := by rw [Gcm.sealS_size, HS.out]
          have hy : (Gcm.sealS K N ⟨#[98]⟩ (a3.extract 0 k)).size = k + 16 := by rw [Gcm.sealS_size, HT.out]
          generalize Gcm.sealS K N ⟨#[97]⟩ (a2.extract 0 k) = x at HXY hx ⊢
          generalize Gcm.sealS K N ⟨#[98]⟩ (a3.extract 0 k) = y at HXY hy ⊢
          have kw : (k : Int) ≤ 2000 := by have := HKm.out; omega
          go_wp2_with (go_at_call 15; refine (Lw.num_same _ _).mono ?_; rintro e u ⟨rfl, rfl⟩)
          clear k2 k3 hmin
          go_loopw [21] (fun v wx => ∃ i : Nat, Hid (i ≤ k) ∧ v = .int .i64 i ∧ Hid (Below w.heap.size w wx)) (fun v _ => k - (intOf v).toNat)
          case atStart => exact ⟨0, Nat.zero_le _, rfl, HB⟩
          case round =>
            clear HB
            obtain ⟨i, hi, rfl, HB⟩ := hrel
            by_cases hlt : i < k
            · have il : ((i : Int) < (k : Int)) = True := eq_true (by omega)
              have HI := Lib.hid hlt
              have i1 : (i : Int) < (x.size : Int) := by omega
              have i2 : (i : Int) < (y.size : Int) := by omega
              have i3 : (i : Int) < (a2.size : Int) := by have := HK2.out; omega
              have i4 : (i : Int) < (a3.size : Int) := by have := HK3.out; omega
              have v1 : ∀ h : i < x.size, (x[i]'h).toNat = Aes.byt x i := fun h => Aes.get_byt x _ h
              have v2 : ∀ h : i < y.size, (y[i]'h).toNat = Aes.byt y i := fun h => Aes.get_byt y _ h
              have v3 : ∀ h : i < a2.size, (a2[i]'h).toNat = Aes.byt a2 i := fun h => Aes.get_byt a2 _ h
              have v4 : ∀ h : i < a3.size, (a3[i]'h).toNat = Aes.byt a3 i := fun h => Aes.get_byt a3 _ h
              have o1 := Aes.u8_xor (Aes.byt x i) (Aes.byt y i) (Aes.byt_lt _ _) (Aes.byt_lt _ _)
              have o2 := Aes.u8_xor (Aes.byt a2 i) (Aes.byt a3 i) (Aes.byt_lt _ _) (Aes.byt_lt _ _)
              rw [HXY.out i hlt] at o1
              have iw : wrap64 ((i : Int) + 1) = (i : Int) + 1 := IntWalk.wrap64_in _ (by have := HKm.out; omega)
              clear hlt
              go_wp2_with (fail)
              go_quiet (fail)
              have HB := Lib.hid (Lw.below_drewN HB.out nq)
              generalize wr.drewN nq = w5 at HB ⊢
              clear v1 v2 v3 v4 o1 o2 i1 i2 i3 i4
              go_wp2_with (fail)
              rw [iw]
              exact ⟨⟨i + 1, HI.out, by go_num, HB⟩, Lw.meas k i HI.out⟩
            · have il : ((i : Int) < (k : Int)) = False := eq_false (by omega)
              clear hlt
              go_wp2_with (fail)
              go_ret
              exact ⟨rfl, HB.out⟩
        · have jl : ((j : Int) < 28) = False := eq_false (by omega)
          clear hlt hl
          go_upto_region 11 with (fail)
          clear jl
          have c1 := hc1.out
          have c2 := hc2.out
          go_quiet (fail)
          have HB := Lib.hid (Lw.below_drewN HB.out nq)
          clear c1 c2 hc1 hc2 HR HX
          generalize wr.drewN nq = w2 at HB ⊢
          obtain ⟨k, hk⟩ : ∃ k : Nat, k = min (min a2.size a3.size) 2000 := ⟨_, rfl⟩
          have hmin : ∀ W, (Builtin.min_ #[3, 3, 3] 3 #[.int .i64 (a2.size : Int), .int .i64 (a3.size : Int), .int .i64 2000]).run Try.prog W = .ok (.int .i64 (k : Int)) W := fun W => by rw [hk]; exact Lw.min3 W _ _ _ _ 2000
          have HK2 : Hid (k ≤ a2.size) := by show k ≤ _; omega
          have HK3 : Hid (k ≤ a3.size) := by show k ≤ _; omega
          have HKm : Hid (k ≤ 2000) := by show k ≤ _; omega
          have k2 : ((k : Int) ≤ (a2.size : Int)) := by omega
          have k3 : ((k : Int) ≤ (a3.size : Int)) := by omega
          clear hk
          go_wp2_with (fail)
          have HS : Hid ((a2.extract 0 k).size = k) := Gs.take_size a2 k HK2.out
          have HT : Hid ((a3.extract 0 k).size = k) := Gs.take_size a3 k HK3.out
          have HSb : Hid (∀ i, i < k → Aes.byt (a2.extract 0 k) i = Aes.byt a2 i) := fun i hi => Gs.byt_take a2 k i hi
          have HTb : Hid (∀ i, i < k → Aes.byt (a3.extract 0 k) i = Aes.byt a3 i) := fun i hi => Gs.byt_take a3 k i hi
          refine (Gs.seal_fine K N ⟨#[97]⟩ (a2.extract 0 k) _ (Or.inl HK.out) HN.out (by decide) (by have := HS.out; have := HKm.out; omega)).mono ?_
          rintro e u ⟨rfl, hb⟩
          have HB := Lib.hid (Lw.go_on HB.out hb)
          clear hb
          go_wp2_with (fail)
          refine (Gs.seal_fine K N ⟨#[98]⟩ (a3.extract 0 k) _ (Or.inl HK.out) HN.out (by decide) (by have := HT.out; have := HKm.out; omega)).mono ?_
          rintro e u ⟨rfl, hb⟩
          have HB := Lib.hid (Lw.go_on HB.out hb)
          clear hb
          go_wp2_with (fail)
          refine (Gs.seal_fine K N ⟨#[97]⟩ (a2.extract 0 k) _ (Or.inl HK.out) HN.out (by decide) (by have := HS.out; have := HKm.out; omega)).mono ?_
          rintro e u ⟨rfl, hb⟩
          have HB := Lib.hid (Lw.go_on HB.out hb)
          clear hb
          have HXY : Hid (∀ i, i < k → Aes.byt (Gcm.sealS K N ⟨#[97]⟩ (a2.extract 0 k)) i ^^^ Aes.byt (Gcm.sealS K N ⟨#[98]⟩ (a3.extract 0 k)) i = Aes.byt a2 i ^^^ Aes.byt a3 i) := fun i hi => by
            rw [Gcm.seal_twins K N _ _ _ _ i (by rw [HS.out]; exact hi) (by rw [HT.out]; exact hi), HSb.out i hi, HTb.out i hi]
          have hx : (Gcm.sealS K N ⟨#[97]⟩ (a2.extract 0 k)).size = k + 16 := by rw [Gcm.sealS_size, HS.out]
          have hy : (Gcm.sealS K N ⟨#[98]⟩ (a3.extract 0 k)).size = k + 16 := by rw [Gcm.sealS_size, HT.out]
          generalize Gcm.sealS K N ⟨#[97]⟩ (a2.extract 0 k) = x at HXY hx ⊢
          generalize Gcm.sealS K N ⟨#[98]⟩ (a3.extract 0 k) = y at HXY hy ⊢
          have kw : (k : Int) ≤ 2000 := by have := HKm.out; omega
          go_wp2_with (go_at_call 15; refine (Lw.num_same _ _).mono ?_; rintro e u ⟨rfl, rfl⟩)
          clear k2 k3 hmin
          go_loopw [21] (fun v wx => ∃ i : Nat, Hid (i ≤ k) ∧ v = .int .i64 i ∧ Hid (Below w.heap.size w wx)) (fun v _ => k - (intOf v).toNat)
          case atStart => exact ⟨0, Nat.zero_le _, rfl, HB⟩
          case round =>
            clear HB
            obtain ⟨i, hi, rfl, HB⟩ := hrel
            by_cases hlt : i < k
            · have il : ((i : Int) < (k : Int)) = True := eq_true (by omega)
              have HI := Lib.hid hlt
              have i1 : (i : Int) < (x.size : Int) := by omega
              have i2 : (i : Int) < (y.size : Int) := by omega
              have i3 : (i : Int) < (a2.size : Int) := by have := HK2.out; omega
              have i4 : (i : Int) < (a3.size : Int) := by have := HK3.out; omega
              have v1 : ∀ h : i < x.size, (x[i]'h).toNat = Aes.byt x i := fun h => Aes.get_byt x _ h
              have v2 : ∀ h : i < y.size, (y[i]'h).toNat = Aes.byt y i := fun h => Aes.get_byt y _ h
              have v3 : ∀ h : i < a2.size, (a2[i]'h).toNat = Aes.byt a2 i := fun h => Aes.get_byt a2 _ h
              have v4 : ∀ h : i < a3.size, (a3[i]'h).toNat = Aes.byt a3 i := fun h => Aes.get_byt a3 _ h
              have o1 := Aes.u8_xor (Aes.byt x i) (Aes.byt y i) (Aes.byt_lt _ _) (Aes.byt_lt _ _)
              have o2 := Aes.u8_xor (Aes.byt a2 i) (Aes.byt a3 i) (Aes.byt_lt _ _) (Aes.byt_lt _ _)
              rw [HXY.out i hlt] at o1
              have iw : wrap64 ((i : Int) + 1) = (i : Int) + 1 := IntWalk.wrap64_in _ (by have := HKm.out; omega)
              clear hlt
              go_wp2_with (fail)
              go_quiet (fail)
              have HB := Lib.hid (Lw.below_drewN HB.out nq)
              generalize wr.drewN nq = w5 at HB ⊢
              clear v1 v2 v3 v4 o1 o2 i1 i2 i3 i4
              go_wp2_with (fail)
              rw [iw]
              exact ⟨⟨i + 1, HI.out, by go_num, HB⟩, Lw.meas k i HI.out⟩
            · have il : ((i : Int) < (k : Int)) = False := eq_false (by omega)
              clear hlt
              go_wp2_with (fail)
              go_ret
              exact ⟨rfl, HB.out⟩
  · obtain ⟨M, hM, hMc, hmk0⟩ := Lw.zeros 44 (by decide)
    have hmk : ∀ W : World, (Instr.makeSlice 32 (.int .i64 44) (.int .i64 44)).run Try.prog W = .ok (.slice (some ⟨W.heap.size, 0, none⟩) 44 44) (W.alloc (.cells M 5)) := hmk0
    have HM := Lib.hid hM
    have HMc := Lib.hid hMc
    clear hmk0 hM hMc
    go_enter Try.func8, Try.ntmps8
    go_wp2_with (fail)
    refine (Gs.awake5_any _).mono ?_
    rintro e u ⟨rfl, hb⟩
    have HB := Lib.hid (Lw.go_on HB.out hb)
    clear hb
    go_wp2_with (fail)
    have HR : Hid (Lw.RowB (u.alloc (.cells M 5)) u.heap.size 44 (fun _ => 0)) := Lw.rowB_new u M 44 HM.out HMc.out
    have HG : Hid (w.heap.size ≤ u.heap.size) := HB.out.size
    have HB : Hid (Below w.heap.size w (u.alloc (.cells M 5))) := HB.out.alloc HG.out _
    clear hmk HM HMc
    generalize u.heap.size = g at HR HG ⊢
    generalize u.alloc (.cells M 5) = w1 at HR HB ⊢
    go_loopw [11] (fun v wx => ∃ (j : Nat) (X : Nat → Nat), Hid (j ≤ 44) ∧ v = .int .i64 j ∧ Hid (Lw.RowB wx g 44 X) ∧ Hid (∀ t, X t < 256) ∧ Hid (Below w.heap.size w wx)) (fun v _ => 44 - (intOf v).toNat)
    case atStart => exact ⟨0, fun _ => 0, Nat.zero_le _, rfl, HR, fun _ => by show 0 < 256; decide, HB⟩
    case round =>
      clear HR HB
      obtain ⟨j, X, hj, rfl, HR, HX, HB⟩ := hrel
      by_cases hlt : j < 44 ∧ j < a0.size
      · have jl : ((j : Int) < 44) = True := eq_true (by omega)
        have jl' : (j : Int) < 44 := by omega
        have js : ((j : Int) < (a0.size : Int)) = True := eq_true (by omega)
        have js' : (j : Int) < (a0.size : Int) := by omega
        have jn : j < a0.size := hlt.2
        have xc := World.rowIs.cell HR.out (i := j) hlt.1
        have xf := World.rowIs.frozen HR.out j
        have v0 : ∀ h : j < a0.size, (a0[j]'h).toNat = Aes.byt a0 j := fun h => Aes.get_byt a0 _ h
        have HJ := Lib.hid hlt.1
        clear hlt
        go_wp2_with (fail)
        refine ⟨⟨j + 1, fun i => if i = j then Aes.byt a0 j else X i, HJ.out, by go_num, HR.out.set j _, fun t => ?_, HB.out.setCell HG.out _⟩, Lw.meas 44 j HJ.out⟩
        show (if t = j then _ else X t) < 256
        split
        · exact Aes.byt_lt _ _
        · exact HX.out t
      · have hc1 := Lib.hid fun n => (HR.out.drewN n).text 0 32 44 (by decide)
        have hc2 := Lib.hid fun n => (HR.out.drewN n).text 32 12 12 (by decide)
        have HK : Hid ((Lw.pieceS X 0 32).size = 32) := Lw.pieceS_size _ _ _
        have HN : Hid ((Lw.pieceS X 32 12).size = 12) := Lw.pieceS_size _ _ _
        generalize Lw.pieceS X 0 32 = K at hc1 HK
        generalize Lw.pieceS X 32 12 = N at hc2 HN
        by_cases hl : j < 44
        · have jl : ((j : Int) < 44) = True := eq_true (by omega)
          have js : ((j : Int) < (a0.size : Int)) = False := eq_false (by omega)
          clear hlt hl
          go_upto_region 11 with (fail)
          clear jl js
          have c1 := hc1.out
          have c2 := hc2.out
          go_quiet (fail)
          have HB := Lib.hid (Lw.below_drewN HB.out nq)
          clear c1 c2 hc1 hc2 HR HX
          generalize wr.drewN nq = w2 at HB ⊢
          obtain ⟨k, hk⟩ : ∃ k : Nat, k = min (min a2.size a3.size) 2000 := ⟨_, rfl⟩
          have hmin : ∀ W, (Builtin.min_ #[3, 3, 3] 3 #[.int .i64 (a2.size : Int), .int .i64 (a3.size : Int), .int .i64 2000]).run Try.prog W = .ok (.int .i64 (k : Int)) W := fun W => by rw [hk]; exact Lw.min3 W _ _ _ _ 2000
          have HK2 : Hid (k ≤ a2.size) := by show k ≤ _; omega
          have HK3 : Hid (k ≤ a3.size) := by show k ≤ _; omega
          have HKm : Hid (k ≤ 2000) := by show k ≤ _; omega
          have k2 : ((k : Int) ≤ (a2.size : Int)) := by omega
          have k3 : ((k : Int) ≤ (a3.size : Int)) := by omega
          clear hk
          go_wp2_with (fail)
          have HS : Hid ((a2.extract 0 k).size = k) := Gs.take_size a2 k HK2.out
          have HT : Hid ((a3.extract 0 k).size = k) := Gs.take_size a3 k HK3.out
          have HSb : Hid (∀ i, i < k → Aes.byt (a2.extract 0 k) i = Aes.byt a2 i) := fun i hi => Gs.byt_take a2 k i hi
          have HTb : Hid (∀ i, i < k → Aes.byt (a3.extract 0 k) i = Aes.byt a3 i) := fun i hi => Gs.byt_take a3 k i hi
          refine (Gs.seal_fine K N ⟨#[97]⟩ (a2.extract 0 k) _ (Or.inr HK.out) HN.out (by decide) (by have := HS.out; have := HKm.out; omega)).mono ?_
          rintro e u ⟨rfl, hb⟩
          have HB := Lib.hid (Lw.go_on HB.out hb)
          clear hb
          go_wp2_with (fail)
          refine (Gs.seal_fine K N ⟨#[98]⟩ (a3.extract 0 k) _ (Or.inr HK.out) HN.out (by decide) (by have := HT.out; have := HKm.out; omega)).mono ?_
          rintro e u ⟨rfl, hb⟩
          have HB := Lib.hid (Lw.go_on HB.out hb)
          clear hb
          go_wp2_with (fail)
          refine (Gs.seal_fine K N ⟨#[97]⟩ (a2.extract 0 k) _ (Or.inr HK.out) HN.out (by decide) (by have := HS.out; have := HKm.out; omega)).mono ?_
          rintro e u ⟨rfl, hb⟩
          have HB := Lib.hid (Lw.go_on HB.out hb)
          clear hb
          have HXY : Hid (∀ i, i < k → Aes.byt (Gcm.sealS K N ⟨#[97]⟩ (a2.extract 0 k)) i ^^^ Aes.byt (Gcm.sealS K N ⟨#[98]⟩ (a3.extract 0 k)) i = Aes.byt a2 i ^^^ Aes.byt a3 i) := fun i hi => by
            rw [Gcm.seal_twins K N _ _ _ _ i (by rw [HS.out]; exact hi) (by rw [HT.out]; exact hi), HSb.out i hi, HTb.out i hi]
          have hx : (Gcm.sealS K N ⟨#[97]⟩ (a2.extract 0 k)).size = k + 16 := by rw [Gcm.sealS_size, HS.out]
          have hy : (Gcm.sealS K N ⟨#[98]⟩ (a3.extract 0 k)).size = k + 16 := by rw [Gcm.sealS_size, HT.out]
          generalize Gcm.sealS K N ⟨#[97]⟩ (a2.extract 0 k) = x at HXY hx ⊢
          generalize Gcm.sealS K N ⟨#[98]⟩ (a3.extract 0 k) = y at HXY hy ⊢
          have kw : (k : Int) ≤ 2000 := by have := HKm.out; omega
          go_wp2_with (go_at_call 15; refine (Lw.num_same _ _).mono ?_; rintro e u ⟨rfl, rfl⟩)
          clear k2 k3 hmin
          go_loopw [21] (fun v wx => ∃ i : Nat, Hid (i ≤ k) ∧ v = .int .i64 i ∧ Hid (Below w.heap.size w wx)) (fun v _ => k - (intOf v).toNat)
          case atStart => exact ⟨0, Nat.zero_le _, rfl, HB⟩
          case round =>
            clear HB
            obtain ⟨i, hi, rfl, HB⟩ := hrel
            by_cases hlt : i < k
            · have il : ((i : Int) < (k : Int)) = True := eq_true (by omega)
              have HI := Lib.hid hlt
              have i1 : (i : Int) < (x.size : Int) := by omega
              have i2 : (i : Int) < (y.size : Int) := by omega
              have i3 : (i : Int) < (a2.size : Int) := by have := HK2.out; omega
              have i4 : (i : Int) < (a3.size : Int) := by have := HK3.out; omega
              have v1 : ∀ h : i < x.size, (x[i]'h).toNat = Aes.byt x i := fun h => Aes.get_byt x _ h
              have v2 : ∀ h : i < y.size, (y[i]'h).toNat = Aes.byt y i := fun h => Aes.get_byt y _ h
              have v3 : ∀ h : i < a2.size, (a2[i]'h).toNat = Aes.byt a2 i := fun h => Aes.get_byt a2 _ h
              have v4 : ∀ h : i < a3.size, (a3[i]'h).toNat = Aes.byt a3 i := fun h => Aes.get_byt a3 _ h
              have o1 := Aes.u8_xor (Aes.byt x i) (Aes.byt y i) (Aes.byt_lt _ _) (Aes.byt_lt _ _)
              have o2 := Aes.u8_xor (Aes.byt a2 i) (Aes.byt a3 i) (Aes.byt_lt _ _) (Aes.byt_lt _ _)
              rw [HXY.out i hlt] at o1
              have iw : wrap64 ((i : Int) + 1) = (i : Int) + 1 := IntWalk.wrap64_in _ (by have := HKm.out; omega)
              clear hlt
              go_wp2_with (fail)
              go_quiet (fail)
              have HB := Lib.hid (Lw.below_drewN HB.out nq)
              generalize wr.drewN nq = w5 at HB ⊢
              clear v1 v2 v3 v4 o1 o2 i1 i2 i3 i4
              go_wp2_with (fail)
              rw [iw]
              exact ⟨⟨i + 1, HI.out, by go_num, HB⟩, Lw.meas k i HI.out⟩
            · have il : ((i : Int) < (k : Int)) = False := eq_false (by omega)
              clear hlt
              go_wp2_with (fail)
              go_ret
              exact ⟨rfl, HB.out⟩
        · have jl : ((j : Int) < 44) = False := eq_false (by omega)
          clear hlt hl
          go_upto_region 11 with (fail)
          clear jl
          have c1 := hc1.out
          have c2 := hc2.out
          go_quiet (fail)
          have HB := Lib.hid (Lw.below_drewN HB.out nq)
          clear c1 c2 hc1 hc2 HR HX
          generalize wr.drewN nq = w2 at HB ⊢
          obtain ⟨k, hk⟩ : ∃ k : Nat, k = min (min a2.size a3.size) 2000 := ⟨_, rfl⟩
          have hmin : ∀ W, (Builtin.min_ #[3, 3, 3] 3 #[.int .i64 (a2.size : Int), .int .i64 (a3.size : Int), .int .i64 2000]).run Try.prog W = .ok (.int .i64 (k : Int)) W := fun W => by rw [hk]; exact Lw.min3 W _ _ _ _ 2000
          have HK2 : Hid (k ≤ a2.size) := by show k ≤ _; omega
          have HK3 : Hid (k ≤ a3.size) := by show k ≤ _; omega
          have HKm : Hid (k ≤ 2000) := by show k ≤ _; omega
          have k2 : ((k : Int) ≤ (a2.size : Int)) := by omega
          have k3 : ((k : Int) ≤ (a3.size : Int)) := by omega
          clear hk
          go_wp2_with (fail)
          have HS : Hid ((a2.extract 0 k).size = k) := Gs.take_size a2 k HK2.out
          have HT : Hid ((a3.extract 0 k).size = k) := Gs.take_size a3 k HK3.out
          have HSb : Hid (∀ i, i < k → Aes.byt (a2.extract 0 k) i = Aes.byt a2 i) := fun i hi => Gs.byt_take a2 k i hi
          have HTb : Hid (∀ i, i < k → Aes.byt (a3.extract 0 k) i = Aes.byt a3 i) := fun i hi => Gs.byt_take a3 k i hi
          refine (Gs.seal_fine K N ⟨#[97]⟩ (a2.extract 0 k) _ (Or.inr HK.out) HN.out (by decide) (by have := HS.out; have := HKm.out; omega)).mono ?_
          rintro e u ⟨rfl, hb⟩
          have HB := Lib.hid (Lw.go_on HB.out hb)
          clear hb
          go_wp2_with (fail)
          refine (Gs.seal_fine K N ⟨#[98]⟩ (a3.extract 0 k) _ (Or.inr HK.out) HN.out (by decide) (by have := HT.out; have := HKm.out; omega)).mono ?_
          rintro e u ⟨rfl, hb⟩
          have HB := Lib.hid (Lw.go_on HB.out hb)
          clear hb
          go_wp2_with (fail)
          refine (Gs.seal_fine K N ⟨#[97]⟩ (a2.extract 0 k) _ (Or.inr HK.out) HN.out (by decide) (by have := HS.out; have := HKm.out; omega)).mono ?_
          rintro e u ⟨rfl, hb⟩
          have HB := Lib.hid (Lw.go_on HB.out hb)
          clear hb
          have HXY : Hid (∀ i, i < k → Aes.byt (Gcm.sealS K N ⟨#[97]⟩ (a2.extract 0 k)) i ^^^ Aes.byt (Gcm.sealS K N ⟨#[98]⟩ (a3.extract 0 k)) i = Aes.byt a2 i ^^^ Aes.byt a3 i) := fun i hi => by
            rw [Gcm.seal_twins K N _ _ _ _ i (by rw [HS.out]; exact hi) (by rw [HT.out]; exact hi), HSb.out i hi, HTb.out i hi]
          have hx : (Gcm.sealS K N ⟨#[97]⟩ (a2.extract 0 k)).size = k + 16 := by rw [Gcm.sealS_size, HS.out]
          have hy : (Gcm.sealS K N ⟨#[98]⟩ (a3.extract 0 k)).size = k + 16 := by rw [Gcm.sealS_size, HT.out]
          generalize Gcm.sealS K N ⟨#[97]⟩ (a2.extract 0 k) = x at HXY hx ⊢
          generalize Gcm.sealS K N ⟨#[98]⟩ (a3.extract 0 k) = y at HXY hy ⊢
          have kw : (k : Int) ≤ 2000 := by have := HKm.out; omega
          go_wp2_with (go_at_call 15; refine (Lw.num_same _ _).mono ?_; rintro e u ⟨rfl, rfl⟩)
          clear k2 k3 hmin
          go_loopw [21] (fun v wx => ∃ i : Nat, Hid (i ≤ k) ∧ v = .int .i64 i ∧ Hid (Below w.heap.size w wx)) (fun v _ => k - (intOf v).toNat)
          case atStart => exact ⟨0, Nat.zero_le _, rfl, HB⟩
          case round =>
            clear HB
            obtain ⟨i, hi, rfl, HB⟩ := hrel
            by_cases hlt : i < k
            · have il : ((i : Int) < (k : Int)) = True := eq_true (by omega)
              have HI := Lib.hid hlt
              have i1 : (i : Int) < (x.size : Int) := by omega
              have i2 : (i : Int) < (y.size : Int) := by omega
              have i3 : (i : Int) < (a2.size : Int) := by have := HK2.out; omega
              have i4 : (i : Int) < (a3.size : Int) := by have := HK3.out; omega
              have v1 : ∀ h : i < x.size, (x[i]'h).toNat = Aes.byt x i := fun h => Aes.get_byt x _ h
              have v2 : ∀ h : i < y.size, (y[i]'h).toNat = Aes.byt y i := fun h => Aes.get_byt y _ h
              have v3 : ∀ h : i < a2.size, (a2[i]'h).toNat = Aes.byt a2 i := fun h => Aes.get_byt a2 _ h
              have v4 : ∀ h : i < a3.size, (a3[i]'h).toNat = Aes.byt a3 i := fun h => Aes.get_byt a3 _ h
              have o1 := Aes.u8_xor (Aes.byt x i) (Aes.byt y i) (Aes.byt_lt _ _) (Aes.byt_lt _ _)
              have o2 := Aes.u8_xor (Aes.byt a2 i) (Aes.byt a3 i) (Aes.byt_lt _ _) (Aes.byt_lt _ _)
              rw [HXY.out i hlt] at o1
              have iw : wrap64 ((i : Int) + 1) = (i : Int) + 1 := IntWalk.wrap64_in _ (by have := HKm.out; omega)
              clear hlt
              go_wp2_with (fail)
              go_quiet (fail)
              have HB := Lib.hid (Lw.below_drewN HB.out nq)
              generalize wr.drewN nq = w5 at HB ⊢
              clear v1 v2 v3 v4 o1 o2 i1 i2 i3 i4
              go_wp2_with (fail)
              rw [iw]
              exact ⟨⟨i + 1, HI.out, by go_num, HB⟩, Lw.meas k i HI.out⟩
            · have il : ((i : Int) < (k : Int)) = False := eq_false (by omega)
              clear hlt
              go_wp2_with (fail)
              go_ret
              exact ⟨rfl, HB.out⟩

set_option maxRecDepth 100000 in
theorem lifted (os : Os) (started : os.Started) (H : Type) (enc : TypeId × Value → H) :
    ReturnsInHanded {} Try.checked os 8 .any (Rows.gcmTwinsSpec.pre6 enc Try.prog Try.f8 Rows.gcmTwinsRow.domain false) (Rows.gcmTwinsSpec.post enc Try.prog Try.f8 false true false false) := by
  refine returnsInHanded_of_change (C := Try.checked) own started (by kernel_rfl) Try.func8
    (ChangeSpec.witness6 (enc := enc) (C := Try.checked) false ⟨#[], #[.string ByteArray.empty, .bool false, .string ByteArray.empty, .string ByteArray.empty], []⟩ 8 (by kernel_rfl) (by kernel_rfl) (by kernel_rfl) (by kernel_rfl)) ?_
  intro W base args ds gs before hval0 hW hcnd _
  have hval : ∀ (j : Nat) t v, Try.f8.params[j]? = some t → args[j]? = some v → Value.okWide Try.prog W .any base t v := hval0
  have hW' := hW
  obtain ⟨p, q, hA0, hV, rfl, hfz, hnd⟩ := hW
  have hA : DataW.TrodAll enc Try.prog W 0 (fun _ => true) true Try.f8.params.toList args.toList ds p := hA0
  rw [Try.params8] at hA hval
  obtain ⟨v0, vs0, d0, ds0, p0, q0, hargs, rfl, rfl, h0, r0⟩ := trodAll_cons hA
  obtain ⟨v1, vs1, d1, ds1, p1, q1, rfl, rfl, rfl, h1, r1⟩ := trodAll_cons r0
  obtain ⟨v2, vs2, d2, ds2, p2, q2, rfl, rfl, rfl, h2, r2⟩ := trodAll_cons r1
  obtain ⟨v3, vs3, d3, ds3, p3, q3, rfl, rfl, rfl, h3, r3⟩ := trodAll_cons r2
  obtain ⟨rfl, rfl, rfl⟩ := trodAll_nil r3
  obtain rfl : args = #[v0, v1, v2, v3] := by cases args; simp_all
  obtain ⟨rfl, rfl⟩ := trodVars_none hV
  obtain ⟨a0, rfl, rfl, rfl, w0⟩ := open_string Try.underlying9 (hval 0 9 v0 rfl rfl) h0
  obtain ⟨a1, rfl, rfl, rfl⟩ := open_bool Try.underlying4 (hval 1 4 v1 rfl rfl) h1
  obtain ⟨a2, rfl, rfl, rfl, w2⟩ := open_string Try.underlying9 (hval 2 9 v2 rfl rfl) h2
  obtain ⟨a3, rfl, rfl, rfl, w3⟩ := open_string Try.underlying9 (hval 3 9 v3 rfl rfl) h3
  clear hA0 hval0
  simp only [List.append_nil] at hW'
  refine (walk a0 a1 a2 a3 w0 w2 w3 W).mono fun e W' ⟨he, bel⟩ => ?_
  subst he
  exact ⟨_, rfl, _, _, _, [], [], [], hW', trodAll_mk1 (shut_bool Try.underlying4 _), (trodAll_cons_mk (shut_string Try.underlying9 w0) (trodAll_cons_mk (shut_bool Try.underlying4 _) (trodAll_cons_mk (shut_string Try.underlying9 w2) (trodAll_cons_mk (shut_string Try.underlying9 w3) trodAll_mk0)))), rfl, bel.frame _, fun h => by cases h⟩

theorem over : Rows.gcmTwinsRow.holds Try.pinned (OpenSpec.ofChange Rows.gcmTwinsSpec) :=
  OpenClaim.holds_of_wide 8 Try.f8 rfl rfl rfl rfl rfl rfl rfl ⟨rfl, rfl, rfl, rfl, rfl⟩ rfl rfl rfl rfl rfl (by kernel_rfl) Try.func8 (by kernel_rfl)
    (of_decide_eq_true (by kernel_rfl)) (by unfold Func.isWrapper; first | (rw [if_pos (by decide +kernel)]; kernel_rfl) | (rw [if_neg (by decide +kernel)]; exact ⟨rfl, rfl⟩))
    (fun os started H enc _ => lifted os started H enc)

theorem proved : Rows.GcmTwinsSaid :=
  over
#print axioms proved
end Go.Proofs.Ytfjodabkfjfcbaa.gcmTwins
