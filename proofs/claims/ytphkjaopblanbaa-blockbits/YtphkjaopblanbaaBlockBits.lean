/-
  Proved: halberdlaw4.BlockBits answers true at every row of bytes, either size of key, every place: a key's block with its bits turned, one by one, is the document's. Conditions: none but the row's.
-/
import Derived.Test.YtphkjaopblanbaaAeM
import Derived.Test.YtphkjaopblanbaaRows
import Derived.WalkKit
import Derived.ProofKit
import Derived.OpenShut
import Derived.ShutString
import Derived.Below
import Derived.ChangeOld
namespace Go.Proofs.Ytphkjaopblanbaa.blockBits
open Go.ChangeShapes Go.WideShapes Go.ChangeAt Go.RowKit
open Go.ChangeMaps (open_string shut_string)
set_option linter.unusedVariables false

theorem own : ownKnob Try.prog.godebug = none := by kernel_rfl

open Go.Proofs.Im (ready_one2 ready_call2 wpAny_two)
set_option maxHeartbeats 4000000 in
set_option maxRecDepth 100000 in
theorem walk (a0 : ByteArray) (a1 : Bool) (a2 : Int) (w0 : a0.size ≤ maxLen) (_w2 : (Lit.int .i64 a2).wf = true) (w : World) :
    Calls Try.prog 4 #[.string a0, .bool a1, .int .i64 a2] w fun e w' => e = .returned (.bool true) ∧ Below w.heap.size w w' := by
  obtain ⟨A, hA, hA2⟩ : ∃ A : Nat, IntKind.u64.wrap a2 = (A : Int) ∧ A < 18446744073709551616 := ⟨(a2 % 18446744073709551616).toNat, by show a2 % 18446744073709551616 = _; omega, by omega⟩
  have HA := Lib.hid hA2
  clear hA2
  have HS := Lib.hid w0
  have HB : Hid (Below w.heap.size w w) := Below.refl _ _
  clear w0 _w2
  cases a1
  · obtain ⟨M, hM, hMc, hmk0⟩ := Ae.zeros 32 (by decide)
    have hmk : ∀ W : World, (Instr.makeSlice 30 (.int .i64 32) (.int .i64 32)).run Try.prog W = .ok (.slice (some ⟨W.heap.size, 0, none⟩) 32 32) (W.alloc (.cells M 5)) := hmk0
    have HM := Lib.hid hM
    have HMc := Lib.hid hMc
    clear hmk0 hM hMc
    go_enter Try.func4, Try.ntmps4
    go_wp2_with (fail)
    refine (Ae.awake4_any _).mono ?_
    rintro e u ⟨rfl, hb⟩
    have HB := Lib.hid (Ae.go_on HB.out hb)
    clear hb
    go_wp2_with (fail)
    have HR : Hid (Ae.RowB (u.alloc (.cells M 5)) u.heap.size 32 (fun _ => 0)) := Ae.rowB_new u M 32 HM.out HMc.out
    have HG : Hid (w.heap.size ≤ u.heap.size) := HB.out.size
    have HB : Hid (Below w.heap.size w (u.alloc (.cells M 5))) := HB.out.alloc HG.out _
    clear hmk HM HMc
    generalize u.heap.size = g at HR HG ⊢
    generalize u.alloc (.cells M 5) = w1 at HR HB ⊢
    go_loopw [9] (fun v wx => ∃ (j : Nat) (X : Nat → Nat), Hid (j ≤ 32) ∧ v = .int .i64 j ∧ Hid (Ae.RowB wx g 32 X) ∧ Hid (∀ t, X t < 256) ∧ Hid (Below w.heap.size w wx)) (fun v _ => 32 - (intOf v).toNat)
    case atStart => exact ⟨0, fun _ => 0, Nat.zero_le _, rfl, HR, fun _ => by show 0 < 256; decide, HB⟩
    case round =>
      clear HR HB
      obtain ⟨j, X, hj, rfl, HR, HX, HB⟩ := hrel
      by_cases hlt : j < 32 ∧ j < a0.size
      · have jl : ((j : Int) < 32) = True := eq_true (by omega)
        have jl' : (j : Int) < 32 := by omega
        have js : ((j : Int) < (a0.size : Int)) = True := eq_true (by omega)
        have js' : (j : Int) < (a0.size : Int) := by omega
        have jn : j < a0.size := hlt.2
        have xc := World.rowIs.cell HR.out (i := j) hlt.1
        have xf := World.rowIs.frozen HR.out j
        have v0 : ∀ h : j < a0.size, (a0[j]'h).toNat = Aes.byt a0 j := fun h => Aes.get_byt a0 _ h
        have HJ := Lib.hid hlt.1
        clear hlt
        go_wp2_with (fail)
        refine ⟨⟨j + 1, fun i => if i = j then Aes.byt a0 j else X i, HJ.out, by go_num, HR.out.set j _, fun t => ?_, HB.out.setCell HG.out _⟩, Ae.meas 32 j HJ.out⟩
        show (if t = j then _ else X t) < 256
        split
        · exact Aes.byt_lt _ _
        · exact HX.out t
      · have HR1 := HR
        by_cases hl : j < 32
        · have jl : ((j : Int) < 32) = True := eq_true (by omega)
          have js : ((j : Int) < (a0.size : Int)) = False := eq_false (by omega)
          clear hlt hl
          go_wp2_with (fail)
          clear jl js
          go_loopw [10] (fun v wx => ∃ (i : Nat) (X : Nat → Nat), Hid (i ≤ 8) ∧ v = .int .i64 i ∧ Hid (Ae.RowB wx g 32 X) ∧ Hid (∀ t, X t < 256) ∧ Hid (Below w.heap.size w wx)) (fun v _ => 8 - (intOf v).toNat)
          case atStart => exact ⟨0, X, Nat.zero_le _, rfl, HR, HX, HB⟩
          case round =>
            clear HR1 HR HX HB
            obtain ⟨i, X, hi, rfl, HR, HX, HB⟩ := hrel
            by_cases hlt : i < 8
            · have il : ((i : Int) < 8) = True := eq_true (by omega)
              have HI := Lib.hid hlt
              clear hlt
              have hA3 : A < 18446744073709551616 := HA.out
              go_upto_region 15 with (fail)
              obtain ⟨q, k, hq, hk, hkq, hki, hw⟩ : ∃ q k : Nat, q < 32 ∧ k < 1000 ∧ k / 8 = q ∧ k % 8 = i ∧ wrap64 ((A : Int) / 8 % 32 * 8 + (i : Int)) = (k : Int) :=
                ⟨A / 8 % 32, A / 8 % 32 * 8 + i, Nat.mod_lt _ (by decide), by have := HI.out; omega, by have := HI.out; omega, by have := HI.out; omega, by
                  rw [IntWalk.wrap64_in _ (by have := HI.out; omega)]; omega⟩
              rw [hw]
              clear hw hA3
              have xc := World.rowIs.cell HR.out (i := q) hq
              have xf := World.rowIs.frozen HR.out q
              have f1 : (k : Int) / 8 = (q : Int) := by omega
              have f2 : (k : Int).tdiv 8 = (q : Int) := by rw [Int.tdiv_eq_ediv_of_nonneg (by omega)]; exact f1
              have f3 : (k : Int) % 8 = (i : Int) := by omega
              have f4 : (k : Int).tmod 8 = (i : Int) := by rw [Int.tmod_eq_emod_of_nonneg (by omega)]; exact f3
              have f5 : IntKind.i64.wrap (q : Int) = (q : Int) := IntWalk.i64_in _ (by omega)
              have f6 : IntKind.i64.wrap (i : Int) = (i : Int) := IntWalk.i64_in _ (by have := HI.out; omega)
              have f7 : (q : Int) < 32 := by omega
              have HQ := Lib.hid hq
              clear hq hkq hki
              refine wp_region_still_tail 13 (by kernel_rfl) (by kernel_rfl) ?_
              simp only [List.take_succ_cons, List.take_zero, List.drop_succ_cons, List.drop_zero]
              repeat still_step
              try refine wpStill_nil ?_
              change wpList _ _ _ _ _ wr.drew
              have HR := Lib.hid HR.out.drew
              have HB := Lib.hid HB.out.drew
              have xc : wr.drew.cell? ⟨g, q, none⟩ = some (.int .u8 (X q : Nat)) := xc
              have xf : wr.drew.frozen? ⟨g, q, none⟩ = false := xf
              generalize wr.drew = w3 at HR HB xc xf ⊢
              go_upto_region 16 with (fail)
              obtain ⟨V, hV, hVe⟩ := Ae.u8_some (X q : Int) (2 ^ i % 256)
              rw [hVe]
              have HR1 : Hid (Ae.RowB (w3.setCell ⟨g, q, none⟩ (.int .u8 (V : Nat))) g 32 (fun t => if t = q then V else X t)) := HR.out.set q V
              have HB1 : Hid (Below w.heap.size w (w3.setCell ⟨g, q, none⟩ (.int .u8 (V : Nat)))) := HB.out.setCell HG.out _
              have HX1 : Hid (∀ t, (fun t => if t = q then V else X t) t < 256) := fun t => by
                show (if t = q then V else X t) < 256
                split
                · exact hV
                · exact HX.out t
              clear hVe hV HR HB HX xc xf f1 f2 f3 f4 f5 f6 f7 hk
              generalize (fun t => if t = q then V else X t) = Y at HR1 HX1
              generalize w3.setCell ⟨g, q, none⟩ (.int .u8 (V : Nat)) = w4 at HR1 HB1 ⊢
              have hS0 : Ae.HeldB w w4 g 16 32 Y := Ae.heldB rfl HR1.out HB1.out
              have hSd : Ae.HeldB w w4.drew g 16 32 Y := Ae.heldB rfl HR1.out.drew HB1.out.drew
              have HT : Hid ((Aes.encS (Ae.pieceS Y 0 16) (Ae.pieceS Y 16 16)).size = 16) := Aes.encS_size _ _
              clear HR1 HB1
              go_region_held3 (fun w' => (Go.convert 30 9 (.slice (some ⟨g, 0, none⟩) 16 32)).run Try.prog w' = .ok (.string (Ae.pieceS Y 0 16)) w' ∧ (Go.convert 30 9 (.slice (some ⟨g, 16, none⟩) 16 16)).run Try.prog w' = .ok (.string (Ae.pieceS Y 16 16)) w' ∧ Ae.RowB w' g 32 Y ∧ Below w.heap.size w w')
                (first | exact hS1 | exact hSd | exact hS0)
                ((go_at_call 6; refine (Ae.block_held rfl (by decide) hSd).mono ?_; rintro e u1 ⟨rfl, hS1⟩))
              clear hS0 hSd
              go_upto_region 17 with (fail)
              have hSe : Ae.HeldB w u1.drew g 16 32 Y := Ae.heldB rfl hS1.2.2.1.drew hS1.2.2.2.drew
              go_region_held3 (fun w' => (Go.convert 30 9 (.slice (some ⟨g, 0, none⟩) 16 32)).run Try.prog w' = .ok (.string (Ae.pieceS Y 0 16)) w' ∧ (Go.convert 30 9 (.slice (some ⟨g, 16, none⟩) 16 16)).run Try.prog w' = .ok (.string (Ae.pieceS Y 16 16)) w' ∧ Ae.RowB w' g 32 Y ∧ Below w.heap.size w w')
                (first | exact hS2 | exact hSe | exact hS1)
                ((go_at_call 7; refine (Ae.rblock_held rfl (by decide) hSe).mono ?_; rintro e u2 ⟨rfl, hS2⟩))
              have HS2 := Lib.hid hS2
              clear hS1 hSe hS2
              have hTs : (Aes.encS (Ae.pieceS Y 0 16) (Ae.pieceS Y 16 16)).size = 16 := HT.out
              clear HT
              generalize Aes.encS (Ae.pieceS Y 0 16) (Ae.pieceS Y 16 16) = T at hTs
              go_wp2_with (go_at_call 8; refine (Ae.num_same _ _).mono ?_; rintro e u ⟨rfl, rfl⟩)
              rw [show wrap64 ((i : Int) + 1) = ((i + 1 : Nat) : Int) by rw [IntWalk.wrap64_in _ (by have := HI.out; omega)]; omega]
              exact ⟨⟨i + 1, Y, HI.out, rfl, HS2.out.2.2.1, HX1, HS2.out.2.2.2⟩, by have := HI.out; simp [intOf]; omega⟩
            · have il : ((i : Int) < 8) = False := eq_false (by omega)
              clear hlt
              go_wp2_with (fail)
              go_ret
              exact ⟨rfl, HB.out⟩
        · have jl : ((j : Int) < 32) = False := eq_false (by omega)
          clear hlt hl
          go_wp2_with (fail)
          clear jl
          go_loopw [10] (fun v wx => ∃ (i : Nat) (X : Nat → Nat), Hid (i ≤ 8) ∧ v = .int .i64 i ∧ Hid (Ae.RowB wx g 32 X) ∧ Hid (∀ t, X t < 256) ∧ Hid (Below w.heap.size w wx)) (fun v _ => 8 - (intOf v).toNat)
          case atStart => exact ⟨0, X, Nat.zero_le _, rfl, HR, HX, HB⟩
          case round =>
            clear HR1 HR HX HB
            obtain ⟨i, X, hi, rfl, HR, HX, HB⟩ := hrel
            by_cases hlt : i < 8
            · have il : ((i : Int) < 8) = True := eq_true (by omega)
              have HI := Lib.hid hlt
              clear hlt
              have hA3 : A < 18446744073709551616 := HA.out
              go_upto_region 15 with (fail)
              obtain ⟨q, k, hq, hk, hkq, hki, hw⟩ : ∃ q k : Nat, q < 32 ∧ k < 1000 ∧ k / 8 = q ∧ k % 8 = i ∧ wrap64 ((A : Int) / 8 % 32 * 8 + (i : Int)) = (k : Int) :=
                ⟨A / 8 % 32, A / 8 % 32 * 8 + i, Nat.mod_lt _ (by decide), by have := HI.out; omega, by have := HI.out; omega, by have := HI.out; omega, by
                  rw [IntWalk.wrap64_in _ (by have := HI.out; omega)]; omega⟩
              rw [hw]
              clear hw hA3
              have xc := World.rowIs.cell HR.out (i := q) hq
              have xf := World.rowIs.frozen HR.out q
              have f1 : (k : Int) / 8 = (q : Int) := by omega
              have f2 : (k : Int).tdiv 8 = (q : Int) := by rw [Int.tdiv_eq_ediv_of_nonneg (by omega)]; exact f1
              have f3 : (k : Int) % 8 = (i : Int) := by omega
              have f4 : (k : Int).tmod 8 = (i : Int) := by rw [Int.tmod_eq_emod_of_nonneg (by omega)]; exact f3
              have f5 : IntKind.i64.wrap (q : Int) = (q : Int) := IntWalk.i64_in _ (by omega)
              have f6 : IntKind.i64.wrap (i : Int) = (i : Int) := IntWalk.i64_in _ (by have := HI.out; omega)
              have f7 : (q : Int) < 32 := by omega
              have HQ := Lib.hid hq
              clear hq hkq hki
              refine wp_region_still_tail 13 (by kernel_rfl) (by kernel_rfl) ?_
              simp only [List.take_succ_cons, List.take_zero, List.drop_succ_cons, List.drop_zero]
              repeat still_step
              try refine wpStill_nil ?_
              change wpList _ _ _ _ _ wr.drew
              have HR := Lib.hid HR.out.drew
              have HB := Lib.hid HB.out.drew
              have xc : wr.drew.cell? ⟨g, q, none⟩ = some (.int .u8 (X q : Nat)) := xc
              have xf : wr.drew.frozen? ⟨g, q, none⟩ = false := xf
              generalize wr.drew = w3 at HR HB xc xf ⊢
              go_upto_region 16 with (fail)
              obtain ⟨V, hV, hVe⟩ := Ae.u8_some (X q : Int) (2 ^ i % 256)
              rw [hVe]
              have HR1 : Hid (Ae.RowB (w3.setCell ⟨g, q, none⟩ (.int .u8 (V : Nat))) g 32 (fun t => if t = q then V else X t)) := HR.out.set q V
              have HB1 : Hid (Below w.heap.size w (w3.setCell ⟨g, q, none⟩ (.int .u8 (V : Nat)))) := HB.out.setCell HG.out _
              have HX1 : Hid (∀ t, (fun t => if t = q then V else X t) t < 256) := fun t => by
                show (if t = q then V else X t) < 256
                split
                · exact hV
                · exact HX.out t
              clear hVe hV HR HB HX xc xf f1 f2 f3 f4 f5 f6 f7 hk
              generalize (fun t => if t = q then V else X t) = Y at HR1 HX1
              generalize w3.setCell ⟨g, q, none⟩ (.int .u8 (V : Nat)) = w4 at HR1 HB1 ⊢
              have hS0 : Ae.HeldB w w4 g 16 32 Y := Ae.heldB rfl HR1.out HB1.out
              have hSd : Ae.HeldB w w4.drew g 16 32 Y := Ae.heldB rfl HR1.out.drew HB1.out.drew
              have HT : Hid ((Aes.encS (Ae.pieceS Y 0 16) (Ae.pieceS Y 16 16)).size = 16) := Aes.encS_size _ _
              clear HR1 HB1
              go_region_held3 (fun w' => (Go.convert 30 9 (.slice (some ⟨g, 0, none⟩) 16 32)).run Try.prog w' = .ok (.string (Ae.pieceS Y 0 16)) w' ∧ (Go.convert 30 9 (.slice (some ⟨g, 16, none⟩) 16 16)).run Try.prog w' = .ok (.string (Ae.pieceS Y 16 16)) w' ∧ Ae.RowB w' g 32 Y ∧ Below w.heap.size w w')
                (first | exact hS1 | exact hSd | exact hS0)
                ((go_at_call 6; refine (Ae.block_held rfl (by decide) hSd).mono ?_; rintro e u1 ⟨rfl, hS1⟩))
              clear hS0 hSd
              go_upto_region 17 with (fail)
              have hSe : Ae.HeldB w u1.drew g 16 32 Y := Ae.heldB rfl hS1.2.2.1.drew hS1.2.2.2.drew
              go_region_held3 (fun w' => (Go.convert 30 9 (.slice (some ⟨g, 0, none⟩) 16 32)).run Try.prog w' = .ok (.string (Ae.pieceS Y 0 16)) w' ∧ (Go.convert 30 9 (.slice (some ⟨g, 16, none⟩) 16 16)).run Try.prog w' = .ok (.string (Ae.pieceS Y 16 16)) w' ∧ Ae.RowB w' g 32 Y ∧ Below w.heap.size w w')
                (first | exact hS2 | exact hSe | exact hS1)
                ((go_at_call 7; refine (Ae.rblock_held rfl (by decide) hSe).mono ?_; rintro e u2 ⟨rfl, hS2⟩))
              have HS2 := Lib.hid hS2
              clear hS1 hSe hS2
              have hTs : (Aes.encS (Ae.pieceS Y 0 16) (Ae.pieceS Y 16 16)).size = 16 := HT.out
              clear HT
              generalize Aes.encS (Ae.pieceS Y 0 16) (Ae.pieceS Y 16 16) = T at hTs
              go_wp2_with (go_at_call 8; refine (Ae.num_same _ _).mono ?_; rintro e u ⟨rfl, rfl⟩)
              rw [show wrap64 ((i : Int) + 1) = ((i + 1 : Nat) : Int) by rw [IntWalk.wrap64_in _ (by have := HI.out; omega)]; omega]
              exact ⟨⟨i + 1, Y, HI.out, rfl, HS2.out.2.2.1, HX1, HS2.out.2.2.2⟩, by have := HI.out; simp [intOf]; omega⟩
            · have il : ((i : Int) < 8) = False := eq_false (by omega)
              clear hlt
              go_wp2_with (fail)
              go_ret
              exact ⟨rfl, HB.out⟩
  · obtain ⟨M, hM, hMc, hmk0⟩ := Ae.zeros 48 (by decide)
    have hmk : ∀ W : World, (Instr.makeSlice 30 (.int .i64 48) (.int .i64 48)).run Try.prog W = .ok (.slice (some ⟨W.heap.size, 0, none⟩) 48 48) (W.alloc (.cells M 5)) := hmk0
    have HM := Lib.hid hM
    have HMc := Lib.hid hMc
    clear hmk0 hM hMc
    go_enter Try.func4, Try.ntmps4
    go_wp2_with (fail)
    refine (Ae.awake4_any _).mono ?_
    rintro e u ⟨rfl, hb⟩
    have HB := Lib.hid (Ae.go_on HB.out hb)
    clear hb
    go_wp2_with (fail)
    have HR : Hid (Ae.RowB (u.alloc (.cells M 5)) u.heap.size 48 (fun _ => 0)) := Ae.rowB_new u M 48 HM.out HMc.out
    have HG : Hid (w.heap.size ≤ u.heap.size) := HB.out.size
    have HB : Hid (Below w.heap.size w (u.alloc (.cells M 5))) := HB.out.alloc HG.out _
    clear hmk HM HMc
    generalize u.heap.size = g at HR HG ⊢
    generalize u.alloc (.cells M 5) = w1 at HR HB ⊢
    go_loopw [9] (fun v wx => ∃ (j : Nat) (X : Nat → Nat), Hid (j ≤ 48) ∧ v = .int .i64 j ∧ Hid (Ae.RowB wx g 48 X) ∧ Hid (∀ t, X t < 256) ∧ Hid (Below w.heap.size w wx)) (fun v _ => 48 - (intOf v).toNat)
    case atStart => exact ⟨0, fun _ => 0, Nat.zero_le _, rfl, HR, fun _ => by show 0 < 256; decide, HB⟩
    case round =>
      clear HR HB
      obtain ⟨j, X, hj, rfl, HR, HX, HB⟩ := hrel
      by_cases hlt : j < 48 ∧ j < a0.size
      · have jl : ((j : Int) < 48) = True := eq_true (by omega)
        have jl' : (j : Int) < 48 := by omega
        have js : ((j : Int) < (a0.size : Int)) = True := eq_true (by omega)
        have js' : (j : Int) < (a0.size : Int) := by omega
        have jn : j < a0.size := hlt.2
        have xc := World.rowIs.cell HR.out (i := j) hlt.1
        have xf := World.rowIs.frozen HR.out j
        have v0 : ∀ h : j < a0.size, (a0[j]'h).toNat = Aes.byt a0 j := fun h => Aes.get_byt a0 _ h
        have HJ := Lib.hid hlt.1
        clear hlt
        go_wp2_with (fail)
        refine ⟨⟨j + 1, fun i => if i = j then Aes.byt a0 j else X i, HJ.out, by go_num, HR.out.set j _, fun t => ?_, HB.out.setCell HG.out _⟩, Ae.meas 48 j HJ.out⟩
        show (if t = j then _ else X t) < 256
        split
        · exact Aes.byt_lt _ _
        · exact HX.out t
      · have HR1 := HR
        by_cases hl : j < 48
        · have jl : ((j : Int) < 48) = True := eq_true (by omega)
          have js : ((j : Int) < (a0.size : Int)) = False := eq_false (by omega)
          clear hlt hl
          go_wp2_with (fail)
          clear jl js
          go_loopw [10] (fun v wx => ∃ (i : Nat) (X : Nat → Nat), Hid (i ≤ 8) ∧ v = .int .i64 i ∧ Hid (Ae.RowB wx g 48 X) ∧ Hid (∀ t, X t < 256) ∧ Hid (Below w.heap.size w wx)) (fun v _ => 8 - (intOf v).toNat)
          case atStart => exact ⟨0, X, Nat.zero_le _, rfl, HR, HX, HB⟩
          case round =>
            clear HR1 HR HX HB
            obtain ⟨i, X, hi, rfl, HR, HX, HB⟩ := hrel
            by_cases hlt : i < 8
            · have il : ((i : Int) < 8) = True := eq_true (by omega)
              have HI := Lib.hid hlt
              clear hlt
              have hA3 : A < 18446744073709551616 := HA.out
              go_upto_region 15 with (fail)
              obtain ⟨q, k, hq, hk, hkq, hki, hw⟩ : ∃ q k : Nat, q < 48 ∧ k < 1000 ∧ k / 8 = q ∧ k % 8 = i ∧ wrap64 ((A : Int) / 8 % 48 * 8 + (i : Int)) = (k : Int) :=
                ⟨A / 8 % 48, A / 8 % 48 * 8 + i, Nat.mod_lt _ (by decide), by have := HI.out; omega, by have := HI.out; omega, by have := HI.out; omega, by
                  rw [IntWalk.wrap64_in _ (by have := HI.out; omega)]; omega⟩
              rw [hw]
              clear hw hA3
              have xc := World.rowIs.cell HR.out (i := q) hq
              have xf := World.rowIs.frozen HR.out q
              have f1 : (k : Int) / 8 = (q : Int) := by omega
              have f2 : (k : Int).tdiv 8 = (q : Int) := by rw [Int.tdiv_eq_ediv_of_nonneg (by omega)]; exact f1
              have f3 : (k : Int) % 8 = (i : Int) := by omega
              have f4 : (k : Int).tmod 8 = (i : Int) := by rw [Int.tmod_eq_emod_of_nonneg (by omega)]; exact f3
              have f5 : IntKind.i64.wrap (q : Int) = (q : Int) := IntWalk.i64_in _ (by omega)
              have f6 : IntKind.i64.wrap (i : Int) = (i : Int) := IntWalk.i64_in _ (by have := HI.out; omega)
              have f7 : (q : Int) < 48 := by omega
              have HQ := Lib.hid hq
              clear hq hkq hki
              refine wp_region_still_tail 13 (by kernel_rfl) (by kernel_rfl) ?_
              simp only [List.take_succ_cons, List.take_zero, List.drop_succ_cons, List.drop_zero]
              repeat still_step
              try refine wpStill_nil ?_
              change wpList _ _ _ _ _ wr.drew
              have HR := Lib.hid HR.out.drew
              have HB := Lib.hid HB.out.drew
              have xc : wr.drew.cell? ⟨g, q, none⟩ = some (.int .u8 (X q : Nat)) := xc
              have xf : wr.drew.frozen? ⟨g, q, none⟩ = false := xf
              generalize wr.drew = w3 at HR HB xc xf ⊢
              go_upto_region 16 with (fail)
              obtain ⟨V, hV, hVe⟩ := Ae.u8_some (X q : Int) (2 ^ i % 256)
              rw [hVe]
              have HR1 : Hid (Ae.RowB (w3.setCell ⟨g, q, none⟩ (.int .u8 (V : Nat))) g 48 (fun t => if t = q then V else X t)) := HR.out.set q V
              have HB1 : Hid (Below w.heap.size w (w3.setCell ⟨g, q, none⟩ (.int .u8 (V : Nat)))) := HB.out.setCell HG.out _
              have HX1 : Hid (∀ t, (fun t => if t = q then V else X t) t < 256) := fun t => by
                show (if t = q then V else X t) < 256
                split
                · exact hV
                · exact HX.out t
              clear hVe hV HR HB HX xc xf f1 f2 f3 f4 f5 f6 f7 hk
              generalize (fun t => if t = q then V else X t) = Y at HR1 HX1
              generalize w3.setCell ⟨g, q, none⟩ (.int .u8 (V : Nat)) = w4 at HR1 HB1 ⊢
              have hS0 : Ae.HeldB w w4 g 32 48 Y := Ae.heldB rfl HR1.out HB1.out
              have hSd : Ae.HeldB w w4.drew g 32 48 Y := Ae.heldB rfl HR1.out.drew HB1.out.drew
              have HT : Hid ((Aes.encS (Ae.pieceS Y 0 32) (Ae.pieceS Y 32 16)).size = 16) := Aes.encS_size _ _
              clear HR1 HB1
              go_region_held3 (fun w' => (Go.convert 30 9 (.slice (some ⟨g, 0, none⟩) 32 48)).run Try.prog w' = .ok (.string (Ae.pieceS Y 0 32)) w' ∧ (Go.convert 30 9 (.slice (some ⟨g, 32, none⟩) 16 16)).run Try.prog w' = .ok (.string (Ae.pieceS Y 32 16)) w' ∧ Ae.RowB w' g 48 Y ∧ Below w.heap.size w w')
                (first | exact hS1 | exact hSd | exact hS0)
                ((go_at_call 6; refine (Ae.block_held rfl (by decide) hSd).mono ?_; rintro e u1 ⟨rfl, hS1⟩))
              clear hS0 hSd
              go_upto_region 17 with (fail)
              have hSe : Ae.HeldB w u1.drew g 32 48 Y := Ae.heldB rfl hS1.2.2.1.drew hS1.2.2.2.drew
              go_region_held3 (fun w' => (Go.convert 30 9 (.slice (some ⟨g, 0, none⟩) 32 48)).run Try.prog w' = .ok (.string (Ae.pieceS Y 0 32)) w' ∧ (Go.convert 30 9 (.slice (some ⟨g, 32, none⟩) 16 16)).run Try.prog w' = .ok (.string (Ae.pieceS Y 32 16)) w' ∧ Ae.RowB w' g 48 Y ∧ Below w.heap.size w w')
                (first | exact hS2 | exact hSe | exact hS1)
                ((go_at_call 7; refine (Ae.rblock_held rfl (by decide) hSe).mono ?_; rintro e u2 ⟨rfl, hS2⟩))
              have HS2 := Lib.hid hS2
              clear hS1 hSe hS2
              have hTs : (Aes.encS (Ae.pieceS Y 0 32) (Ae.pieceS Y 32 16)).size = 16 := HT.out
              clear HT
              generalize Aes.encS (Ae.pieceS Y 0 32) (Ae.pieceS Y 32 16) = T at hTs
              go_wp2_with (go_at_call 8; refine (Ae.num_same _ _).mono ?_; rintro e u ⟨rfl, rfl⟩)
              rw [show wrap64 ((i : Int) + 1) = ((i + 1 : Nat) : Int) by rw [IntWalk.wrap64_in _ (by have := HI.out; omega)]; omega]
              exact ⟨⟨i + 1, Y, HI.out, rfl, HS2.out.2.2.1, HX1, HS2.out.2.2.2⟩, by have := HI.out; simp [intOf]; omega⟩
            · have il : ((i : Int) < 8) = False := eq_false (by omega)
              clear hlt
              go_wp2_with (fail)
              go_ret
              exact ⟨rfl, HB.out⟩
        · have jl : ((j : Int) < 48) = False := eq_false (by omega)
          clear hlt hl
          go_wp2_with (fail)
          clear jl
          go_loopw [10] (fun v wx => ∃ (i : Nat) (X : Nat → Nat), Hid (i ≤ 8) ∧ v = .int .i64 i ∧ Hid (Ae.RowB wx g 48 X) ∧ Hid (∀ t, X t < 256) ∧ Hid (Below w.heap.size w wx)) (fun v _ => 8 - (intOf v).toNat)
          case atStart => exact ⟨0, X, Nat.zero_le _, rfl, HR, HX, HB⟩
          case round =>
            clear HR1 HR HX HB
            obtain ⟨i, X, hi, rfl, HR, HX, HB⟩ := hrel
            by_cases hlt : i < 8
            · have il : ((i : Int) < 8) = True := eq_true (by omega)
              have HI := Lib.hid hlt
              clear hlt
              have hA3 : A < 18446744073709551616 := HA.out
              go_upto_region 15 with (fail)
              obtain ⟨q, k, hq, hk, hkq, hki, hw⟩ : ∃ q k : Nat, q < 48 ∧ k < 1000 ∧ k / 8 = q ∧ k % 8 = i ∧ wrap64 ((A : Int) / 8 % 48 * 8 + (i : Int)) = (k : Int) :=
                ⟨A / 8 % 48, A / 8 % 48 * 8 + i, Nat.mod_lt _ (by decide), by have := HI.out; omega, by have := HI.out; omega, by have := HI.out; omega, by
                  rw [IntWalk.wrap64_in _ (by have := HI.out; omega)]; omega⟩
              rw [hw]
              clear hw hA3
              have xc := World.rowIs.cell HR.out (i := q) hq
              have xf := World.rowIs.frozen HR.out q
              have f1 : (k : Int) / 8 = (q : Int) := by omega
              have f2 : (k : Int).tdiv 8 = (q : Int) := by rw [Int.tdiv_eq_ediv_of_nonneg (by omega)]; exact f1
              have f3 : (k : Int) % 8 = (i : Int) := by omega
              have f4 : (k : Int).tmod 8 = (i : Int) := by rw [Int.tmod_eq_emod_of_nonneg (by omega)]; exact f3
              have f5 : IntKind.i64.wrap (q : Int) = (q : Int) := IntWalk.i64_in _ (by omega)
              have f6 : IntKind.i64.wrap (i : Int) = (i : Int) := IntWalk.i64_in _ (by have := HI.out; omega)
              have f7 : (q : Int) < 48 := by omega
              have HQ := Lib.hid hq
              clear hq hkq hki
              refine wp_region_still_tail 13 (by kernel_rfl) (by kernel_rfl) ?_
              simp only [List.take_succ_cons, List.take_zero, List.drop_succ_cons, List.drop_zero]
              repeat still_step
              try refine wpStill_nil ?_
              change wpList _ _ _ _ _ wr.drew
              have HR := Lib.hid HR.out.drew
              have HB := Lib.hid HB.out.drew
              have xc : wr.drew.cell? ⟨g, q, none⟩ = some (.int .u8 (X q : Nat)) := xc
              have xf : wr.drew.frozen? ⟨g, q, none⟩ = false := xf
              generalize wr.drew = w3 at HR HB xc xf ⊢
              go_upto_region 16 with (fail)
              obtain ⟨V, hV, hVe⟩ := Ae.u8_some (X q : Int) (2 ^ i % 256)
              rw [hVe]
              have HR1 : Hid (Ae.RowB (w3.setCell ⟨g, q, none⟩ (.int .u8 (V : Nat))) g 48 (fun t => if t = q then V else X t)) := HR.out.set q V
              have HB1 : Hid (Below w.heap.size w (w3.setCell ⟨g, q, none⟩ (.int .u8 (V : Nat)))) := HB.out.setCell HG.out _
              have HX1 : Hid (∀ t, (fun t => if t = q then V else X t) t < 256) := fun t => by
                show (if t = q then V else X t) < 256
                split
                · exact hV
                · exact HX.out t
              clear hVe hV HR HB HX xc xf f1 f2 f3 f4 f5 f6 f7 hk
              generalize (fun t => if t = q then V else X t) = Y at HR1 HX1
              generalize w3.setCell ⟨g, q, none⟩ (.int .u8 (V : Nat)) = w4 at HR1 HB1 ⊢
              have hS0 : Ae.HeldB w w4 g 32 48 Y := Ae.heldB rfl HR1.out HB1.out
              have hSd : Ae.HeldB w w4.drew g 32 48 Y := Ae.heldB rfl HR1.out.drew HB1.out.drew
              have HT : Hid ((Aes.encS (Ae.pieceS Y 0 32) (Ae.pieceS Y 32 16)).size = 16) := Aes.encS_size _ _
              clear HR1 HB1
              go_region_held3 (fun w' => (Go.convert 30 9 (.slice (some ⟨g, 0, none⟩) 32 48)).run Try.prog w' = .ok (.string (Ae.pieceS Y 0 32)) w' ∧ (Go.convert 30 9 (.slice (some ⟨g, 32, none⟩) 16 16)).run Try.prog w' = .ok (.string (Ae.pieceS Y 32 16)) w' ∧ Ae.RowB w' g 48 Y ∧ Below w.heap.size w w')
                (first | exact hS1 | exact hSd | exact hS0)
                ((go_at_call 6; refine (Ae.block_held rfl (by decide) hSd).mono ?_; rintro e u1 ⟨rfl, hS1⟩))
              clear hS0 hSd
              go_upto_region 17 with (fail)
              have hSe : Ae.HeldB w u1.drew g 32 48 Y := Ae.heldB rfl hS1.2.2.1.drew hS1.2.2.2.drew
              go_region_held3 (fun w' => (Go.convert 30 9 (.slice (some ⟨g, 0, none⟩) 32 48)).run Try.prog w' = .ok (.string (Ae.pieceS Y 0 32)) w' ∧ (Go.convert 30 9 (.slice (some ⟨g, 32, none⟩) 16 16)).run Try.prog w' = .ok (.string (Ae.pieceS Y 32 16)) w' ∧ Ae.RowB w' g 48 Y ∧ Below w.heap.size w w')
                (first | exact hS2 | exact hSe | exact hS1)
                ((go_at_call 7; refine (Ae.rblock_held rfl (by decide) hSe).mono ?_; rintro e u2 ⟨rfl, hS2⟩))
              have HS2 := Lib.hid hS2
              clear hS1 hSe hS2
              have hTs : (Aes.encS (Ae.pieceS Y 0 32) (Ae.pieceS Y 32 16)).size = 16 := HT.out
              clear HT
              generalize Aes.encS (Ae.pieceS Y 0 32) (Ae.pieceS Y 32 16) = T at hTs
              go_wp2_with (go_at_call 8; refine (Ae.num_same _ _).mono ?_; rintro e u ⟨rfl, rfl⟩)
              rw [show wrap64 ((i : Int) + 1) = ((i + 1 : Nat) : Int) by rw [IntWalk.wrap64_in _ (by have := HI.out; omega)]; omega]
              exact ⟨⟨i + 1, Y, HI.out, rfl, HS2.out.2.2.1, HX1, HS2.out.2.2.2⟩, by have := HI.out; simp [intOf]; omega⟩
            · have il : ((i : Int) < 8) = False := eq_false (by omega)
              clear hlt
              go_wp2_with (fail)
              go_ret
              exact ⟨rfl, HB.out⟩

set_option maxRecDepth 100000 in
theorem lifted (os : Os) (started : os.Started) (H : Type) (enc : TypeId × Value → H) :
    ReturnsInHanded {} Try.checked os 4 .any (Rows.blockBitsSpec.pre6 enc Try.prog Try.f4 Rows.blockBitsRow.domain false) (Rows.blockBitsSpec.post enc Try.prog Try.f4 false true false false) := by
  refine returnsInHanded_of_change (C := Try.checked) own started (by kernel_rfl) Try.func4
    (ChangeSpec.witness6 (enc := enc) (C := Try.checked) false ⟨#[], #[.string ByteArray.empty, .bool false, .int .i64 0], []⟩ 8 (by kernel_rfl) (by kernel_rfl) (by kernel_rfl) (by kernel_rfl)) ?_
  intro W base args ds gs before hval0 hW hcnd _
  have hval : ∀ (j : Nat) t v, Try.f4.params[j]? = some t → args[j]? = some v → Value.okWide Try.prog W .any base t v := hval0
  have hW' := hW
  obtain ⟨p, q, hA0, hV, rfl, hfz, hnd⟩ := hW
  have hA : DataW.TrodAll enc Try.prog W 0 (fun _ => true) true Try.f4.params.toList args.toList ds p := hA0
  rw [Try.params4] at hA hval
  obtain ⟨v0, vs0, d0, ds0, p0, q0, hargs, rfl, rfl, h0, r0⟩ := trodAll_cons hA
  obtain ⟨v1, vs1, d1, ds1, p1, q1, rfl, rfl, rfl, h1, r1⟩ := trodAll_cons r0
  obtain ⟨v2, vs2, d2, ds2, p2, q2, rfl, rfl, rfl, h2, r2⟩ := trodAll_cons r1
  obtain ⟨rfl, rfl, rfl⟩ := trodAll_nil r2
  obtain rfl : args = #[v0, v1, v2] := by cases args; simp_all
  obtain ⟨rfl, rfl⟩ := trodVars_none hV
  obtain ⟨a0, rfl, rfl, rfl, w0⟩ := open_string Try.underlying9 (hval 0 9 v0 rfl rfl) h0
  obtain ⟨a1, rfl, rfl, rfl⟩ := open_bool Try.underlying4 (hval 1 4 v1 rfl rfl) h1
  obtain ⟨a2, rfl, rfl, rfl, w2⟩ := open_int Try.underlying3 (hval 2 3 v2 rfl rfl) h2
  clear hA0 hval0
  simp only [List.append_nil] at hW'
  refine (walk a0 a1 a2 w0 w2 W).mono fun e W' ⟨he, bel⟩ => ?_
  subst he
  exact ⟨_, rfl, _, _, _, [], [], [], hW', trodAll_mk1 (shut_bool Try.underlying4 _), (trodAll_cons_mk (shut_string Try.underlying9 w0) (trodAll_cons_mk (shut_bool Try.underlying4 _) (trodAll_cons_mk (shut_int Try.underlying3 w2) trodAll_mk0))), rfl, bel.frame _, fun h => by cases h⟩

theorem over : Rows.blockBitsRow.holds Try.pinned (OpenSpec.ofChange Rows.blockBitsSpec) :=
  OpenClaim.holds_of_wide 4 Try.f4 rfl rfl rfl rfl rfl rfl rfl ⟨rfl, rfl, rfl, rfl, rfl⟩ rfl rfl rfl rfl rfl (by kernel_rfl) Try.func4 (by kernel_rfl)
    (of_decide_eq_true (by kernel_rfl)) (by unfold Func.isWrapper; first | (rw [if_pos (by decide +kernel)]; kernel_rfl) | (rw [if_neg (by decide +kernel)]; exact ⟨rfl, rfl⟩))
    (fun os started H enc _ => lifted os started H enc)

theorem proved : Rows.BlockBitsSaid :=
  over
#print axioms proved
end Go.Proofs.Ytphkjaopblanbaa.blockBits
