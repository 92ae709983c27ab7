/-
  Proved: halberdlaw5.GcmBack answers true at every input: what was sealed is opened, and is as long; cut, it is opened as the document says. Conditions: none but the row's.
-/
import Derived.Test.YtfjodabkfjfcbaaGcW
import Derived.Test.YtfjodabkfjfcbaaRows
import Derived.WalkKit
import Derived.ProofKit
import Derived.OpenShut
import Derived.ShutString
import Derived.Below
import Derived.ChangeOld
namespace Go.Proofs.Ytfjodabkfjfcbaa.gcmBack
open Go.ChangeShapes Go.WideShapes Go.ChangeAt Go.RowKit
open Go.ChangeMaps (open_string shut_string)
set_option linter.unusedVariables false

theorem own : ownKnob Try.prog.godebug = none := by kernel_rfl

set_option maxHeartbeats 4000000 in
set_option maxRecDepth 100000 in
theorem walk (a0 : ByteArray) (a1 : Bool) (a2 : ByteArray) (a3 : ByteArray) (a4 : Int) (_w0 : a0.size ≤ maxLen) (_w2 : a2.size ≤ maxLen) (_w3 : a3.size ≤ maxLen) (_w4 : (Lit.int .i64 a4).wf = true) (w : World) :
    Calls Try.prog 4 #[.string a0, .bool a1, .string a2, .string a3, .int .i64 a4] w fun e w' => e = .returned (.bool true) ∧ Below w.heap.size w w' := by
  have HB : Hid (Below w.heap.size w w) := Below.refl _ _
  obtain ⟨A, hA, hA2⟩ : ∃ A : Nat, IntKind.u64.wrap a4 = (A : Int) ∧ A < 18446744073709551616 := ⟨(a4 % 18446744073709551616).toNat, by show a4 % 18446744073709551616 = _; omega, by omega⟩
  have HAe := Lib.hid hA
  have HAl := Lib.hid hA2
  clear hA hA2 _w0 _w2 _w3 _w4
  by_cases h3 : 5000 < a3.size
  · have s3 : ((5000 : Int) < (a3.size : Int)) = True := eq_true (by omega)
    clear h3
    go_enter Try.func4, Try.ntmps4
    go_wp2_with (go_at_call 16; refine (Gs.awake5_any _).mono ?_; rintro e u ⟨rfl, hb⟩; have HB := Lib.hid (Lw.go_on HB.out hb); clear hb)
    go_ret
    exact ⟨rfl, HB.out⟩
  · have s3 : ((5000 : Int) < (a3.size : Int)) = False := eq_false (by omega)
    have HA3 : Hid (a3.size ≤ 5000) := by show a3.size ≤ 5000; omega
    clear h3
    by_cases h2 : 5000 < a2.size
    · have s2 : ((5000 : Int) < (a2.size : Int)) = True := eq_true (by omega)
      clear h2
      go_enter Try.func4, Try.ntmps4
      go_wp2_with (go_at_call 16; refine (Gs.awake5_any _).mono ?_; rintro e u ⟨rfl, hb⟩; have HB := Lib.hid (Lw.go_on HB.out hb); clear hb)
      go_ret
      exact ⟨rfl, HB.out⟩
    · have s2 : ((5000 : Int) < (a2.size : Int)) = False := eq_false (by omega)
      have HA2 : Hid (a2.size ≤ 5000) := by show a2.size ≤ 5000; omega
      clear h2
      cases a1
      · obtain ⟨M, hM, hMc, hmk0⟩ := Lw.zeros 28 (by decide)
        have hmk : ∀ W : World, (Instr.makeSlice 32 (.int .i64 28) (.int .i64 28)).run Try.prog W = .ok (.slice (some ⟨W.heap.size, 0, none⟩) 28 28) (W.alloc (.cells M 5)) := hmk0
        have HM := Lib.hid hM
        have HMc := Lib.hid hMc
        clear hmk0 hM hMc
        go_enter Try.func4, Try.ntmps4
        go_wp2_with (fail)
        refine (Gs.awake5_any _).mono ?_
        rintro e u ⟨rfl, hb⟩
        have HB := Lib.hid (Lw.go_on HB.out hb)
        clear hb
        go_wp2_with (fail)
        have HR : Hid (Lw.RowB (u.alloc (.cells M 5)) u.heap.size 28 (fun _ => 0)) := Lw.rowB_new u M 28 HM.out HMc.out
        have HG : Hid (w.heap.size ≤ u.heap.size) := HB.out.size
        have HB : Hid (Below w.heap.size w (u.alloc (.cells M 5))) := HB.out.alloc HG.out _
        clear hmk HM HMc
        generalize u.heap.size = g at HR HG ⊢
        generalize u.alloc (.cells M 5) = w1 at HR HB ⊢
        go_loopw [13] (fun v wx => ∃ (j : Nat) (X : Nat → Nat), Hid (j ≤ 28) ∧ v = .int .i64 j ∧ Hid (Lw.RowB wx g 28 X) ∧ Hid (∀ t, X t < 256) ∧ Hid (Below w.heap.size w wx)) (fun v _ => 28 - (intOf v).toNat)
        case atStart => exact ⟨0, fun _ => 0, Nat.zero_le _, rfl, HR, fun _ => by show 0 < 256; decide, HB⟩
        case round =>
          clear HR HB
          obtain ⟨j, X, hj, rfl, HR, HX, HB⟩ := hrel
          by_cases hlt : j < 28 ∧ j < a0.size
          · have jl : ((j : Int) < 28) = True := eq_true (by omega)
            have jl' : (j : Int) < 28 := by omega
            have js : ((j : Int) < (a0.size : Int)) = True := eq_true (by omega)
            have js' : (j : Int) < (a0.size : Int) := by omega
            have jn : j < a0.size := hlt.2
            have xc := World.rowIs.cell HR.out (i := j) hlt.1
            have xf := World.rowIs.frozen HR.out j
            have v0 : ∀ h : j < a0.size, (a0[j]'h).toNat = Aes.byt a0 j := fun h => Aes.get_byt a0 _ h
            have HJ := Lib.hid hlt.1
            clear hlt
            go_wp2_with (fail)
            refine ⟨⟨j + 1, fun i => if i = j then Aes.byt a0 j else X i, HJ.out, by go_num, HR.out.set j _, fun t => ?_, HB.out.setCell HG.out _⟩, Lw.meas 28 j HJ.out⟩
            show (if t = j then _ else X t) < 256
            split
            · exact Aes.byt_lt _ _
            · exact HX.out t
          · have hc1 := Lib.hid fun n => (HR.out.drewN n).text 0 16 28 (by decide)
            have hc2 := Lib.hid fun n => (HR.out.drewN n).text 16 12 12 (by decide)
            have HK : Hid ((Lw.pieceS X 0 16).size = 16) := Lw.pieceS_size _ _ _
            have HN : Hid ((Lw.pieceS X 16 12).size = 12) := Lw.pieceS_size _ _ _
            generalize Lw.pieceS X 0 16 = K at hc1 HK
            generalize Lw.pieceS X 16 12 = N at hc2 HN
            by_cases hl : j < 28
            · have jl : ((j : Int) < 28) = True := eq_true (by omega)
              have js : ((j : Int) < (a0.size : Int)) = False := eq_false (by omega)
              clear hlt hl
              go_upto_region 13 with (fail)
              clear jl js
              have c1 := hc1.out
              have c2 := hc2.out
              go_quiet (fail)
              have HB := Lib.hid (Lw.below_drewN HB.out nq)
              clear c1 c2 hc1 hc2 HR HX
              generalize wr.drewN nq = w2 at HB ⊢
              have HS : Hid (a3.size ≤ 5000) := HA3
              have HA : Hid (a2.size ≤ 5000) := HA2
              go_wp2_with (fail)
              refine (Gs.seal_fine K N a2 a3 _ (Or.inl HK.out) HN.out (by have := HA.out; omega) (by have := HS.out; omega)).mono ?_
              rintro e u ⟨rfl, hb⟩
              have HB := Lib.hid (Lw.go_on HB.out hb)
              clear hb
              have HO := Lib.hid (Gcm.open_seal K N a2 a3 (Gcm.gcmOk_of (Or.inl HK.out) HN.out (by have := HA.out; omega) (by have := HS.out; omega)))
              have hc : (Gcm.sealS K N a2 a3).size = a3.size + 16 := Gcm.sealS_size K N a2 a3
              generalize Gcm.sealS K N a2 a3 = c at HO hc ⊢
              go_wp2_with (fail)
              refine (Gs.open_any K N a2 c _).mono ?_
              rw [HO.out.1, HO.out.2]
              rintro e u ⟨rfl, hb⟩
              have HB := Lib.hid (Lw.go_on HB.out hb)
              clear hb
              have sw : (a3.size : Int) ≤ 5000 := by have := HS.out; omega
              have s5 : ((5000 : Int) < (a3.size : Int)) = False := eq_false (by omega)
              go_upto_region 18 with (go_at_call 15; refine (Lw.num_same _ _).mono ?_; rintro e u ⟨rfl, rfl⟩)
              obtain ⟨n, hn⟩ : ∃ n : Nat, n = a3.size + 16 := ⟨_, rfl⟩
              have HNn : Hid (n ≤ 6000 ∧ 0 < n) := by show n ≤ 6000 ∧ 0 < n; have := HS.out; omega
              rw [← hn] at hc
              clear hn sw s5
              have k1 : (A : Int) % (n : Int) = ((A % n : Nat) : Int) := by omega
              have k2 : (A : Int).tmod (n : Int) = ((A % n : Nat) : Int) := by rw [Int.tmod_eq_emod_of_nonneg (by omega)]; exact k1
              have HKk := Lib.hid (Nat.mod_lt A HNn.out.2)
              generalize A % n = k at k1 k2 HKk
              apply wp_region_lit
              refine Lw.wpList_val rfl (.string c) u (by go_simp) ?_
              refine Lw.wpList_val rfl (.int .i64 a4) u (by go_simp) ?_
              refine Lw.wpList_val rfl (.int .u64 (A : Int)) u (by have A1 := HAe.out; go_simp) ?_
              refine Lw.wpList_val rfl (.string c) u (by go_simp) ?_
              refine Lw.wpList_val rfl (.int .i64 (n : Int)) u (by go_simp) ?_
              refine Lw.wpList_val rfl (.int .u64 (n : Int)) u (by have e : IntKind.u64.wrap (n : Int) = (n : Int) := by (show (n : Int) % 18446744073709551616 = _; have := HNn.out; omega)
                                                                   go_simp) ?_
              refine Lw.wpList_val rfl (.int .u64 (k : Int)) u (by have e : IntKind.u64.wrap (k : Int) = (k : Int) := by (show (k : Int) % 18446744073709551616 = _; have := HNn.out; have := HKk.out; omega)
                                                                   have nz : ((n : Int) = 0) = False := eq_false (by have := HNn.out; omega)
                                                                   have nz2 : (n = 0) = False := eq_false (by have := HNn.out; omega)
                                                                   go_simp) ?_
              refine Lw.wpList_val rfl (.int .i64 (k : Int)) u (by have e : IntKind.i64.wrap (k : Int) = (k : Int) := IntWalk.i64_in _ (by have := HNn.out; have := HKk.out; omega)
                                                                   go_simp) ?_
              refine Lw.wpList_val rfl (.string (c.extract 0 k)) u (by have l1 : (k : Int) ≤ (n : Int) := by (have := HKk.out; omega)
                                                                       have l2 : k ≤ n := by (have := HKk.out; omega)
                                                                       go_simp) ?_
              simp only [Act.put, List.setIfInBounds_toArray, List.set_cons_zero, List.set_cons_succ]
              generalize c.extract 0 k = t
              go_wp2_with (first
                | (go_at_call 11; refine (Gs.open_any K N a2 t _).mono ?_; rintro e u ⟨rfl, hb⟩; have HB := Lib.hid (Lw.go_on HB.out hb); clear hb)
                | (go_at_call 12; refine (Gcm.ropen_any K N a2 t _).mono ?_; rintro e u ⟨rfl, hb⟩; have HB := Lib.hid (Lw.go_on HB.out hb); clear hb)
                | (go_at_call 15; refine (Lw.num_same _ _).mono ?_; rintro e u ⟨rfl, rfl⟩))
              go_ret
              exact ⟨rfl, HB.out⟩
            · have jl : ((j : Int) < 28) = False := eq_false (by omega)
              clear hlt hl
              go_upto_region 13 with (fail)
              clear jl
              have c1 := hc1.out
              have c2 := hc2.out
              go_quiet (fail)
              have HB := Lib.hid (Lw.below_drewN HB.out nq)
              clear c1 c2 hc1 hc2 HR HX
              generalize wr.drewN nq = w2 at HB ⊢
              have HS : Hid (a3.size ≤ 5000) := HA3
              have HA : Hid (a2.size ≤ 5000) := HA2
              go_wp2_with (fail)
              refine (Gs.seal_fine K N a2 a3 _ (Or.inl HK.out) HN.out (by have := HA.out; omega) (by have := HS.out; omega)).mono ?_
              rintro e u ⟨rfl, hb⟩
              have HB := Lib.hid (Lw.go_on HB.out hb)
              clear hb
              have HO := Lib.hid (Gcm.open_seal K N a2 a3 (Gcm.gcmOk_of (Or.inl HK.out) HN.out (by have := HA.out; omega) (by have := HS.out; omega)))
              have hc : (Gcm.sealS K N a2 a3).size = a3.size + 16 := Gcm.sealS_size K N a2 a3
              generalize Gcm.sealS K N a2 a3 = c at HO hc ⊢
              go_wp2_with (fail)
              refine (Gs.open_any K N a2 c _).mono ?_
              rw [HO.out.1, HO.out.2]
              rintro e u ⟨rfl, hb⟩
              have HB := Lib.hid (Lw.go_on HB.out hb)
              clear hb
              have sw : (a3.size : Int) ≤ 5000 := by have := HS.out; omega
              have s5 : ((5000 : Int) < (a3.size : Int)) = False := eq_false (by omega)
              go_upto_region 18 with (go_at_call 15; refine (Lw.num_same _ _).mono ?_; rintro e u ⟨rfl, rfl⟩)
              obtain ⟨n, hn⟩ : ∃ n : Nat, n = a3.size + 16 := ⟨_, rfl⟩
              have HNn : Hid (n ≤ 6000 ∧ 0 < n) := by show n ≤ 6000 ∧ 0 < n; have := HS.out; omega
              rw [← hn] at hc
              clear hn sw s5
              have k1 : (A : Int) % (n : Int) = ((A % n : Nat) : Int) := by omega
              have k2 : (A : Int).tmod (n : Int) = ((A % n : Nat) : Int) := by rw [Int.tmod_eq_emod_of_nonneg (by omega)]; exact k1
              have HKk := Lib.hid (Nat.mod_lt A HNn.out.2)
              generalize A % n = k at k1 k2 HKk
              apply wp_region_lit
              refine Lw.wpList_val rfl (.string c) u (by go_simp) ?_
              refine Lw.wpList_val rfl (.int .i64 a4) u (by go_simp) ?_
              refine Lw.wpList_val rfl (.int .u64 (A : Int)) u (by have A1 := HAe.out; go_simp) ?_
              refine Lw.wpList_val rfl (.string c) u (by go_simp) ?_
              refine Lw.wpList_val rfl (.int .i64 (n : Int)) u (by go_simp) ?_
              refine Lw.wpList_val rfl (.int .u64 (n : Int)) u (by have e : IntKind.u64.wrap (n : Int) = (n : Int) := by (show (n : Int) % 18446744073709551616 = _; have := HNn.out; omega)
                                                                   go_simp) ?_
              refine Lw.wpList_val rfl (.int .u64 (k : Int)) u (by have e : IntKind.u64.wrap (k : Int) = (k : Int) := by (show (k : Int) % 18446744073709551616 = _; have := HNn.out; have := HKk.out; omega)
                                                                   have nz : ((n : Int) = 0) = False := eq_false (by have := HNn.out; omega)
                                                                   have nz2 : (n = 0) = False := eq_false (by have := HNn.out; omega)
                                                                   go_simp) ?_
              refine Lw.wpList_val rfl (.int .i64 (k : Int)) u (by have e : IntKind.i64.wrap (k : Int) = (k : Int) := IntWalk.i64_in _ (by have := HNn.out; have := HKk.out; omega)
                                                                   go_simp) ?_
              refine Lw.wpList_val rfl (.string (c.extract 0 k)) u (by have l1 : (k : Int) ≤ (n : Int) := by (have := HKk.out; omega)
                                                                       have l2 : k ≤ n := by (have := HKk.out; omega)
                                                                       go_simp) ?_
              simp only [Act.put, List.setIfInBounds_toArray, List.set_cons_zero, List.set_cons_succ]
              generalize c.extract 0 k = t
              go_wp2_with (first
                | (go_at_call 11; refine (Gs.open_any K N a2 t _).mono ?_; rintro e u ⟨rfl, hb⟩; have HB := Lib.hid (Lw.go_on HB.out hb); clear hb)
                | (go_at_call 12; refine (Gcm.ropen_any K N a2 t _).mono ?_; rintro e u ⟨rfl, hb⟩; have HB := Lib.hid (Lw.go_on HB.out hb); clear hb)
                | (go_at_call 15; refine (Lw.num_same _ _).mono ?_; rintro e u ⟨rfl, rfl⟩))
              go_ret
              exact ⟨rfl, HB.out⟩
      · obtain ⟨M, hM, hMc, hmk0⟩ := Lw.zeros 44 (by decide)
        have hmk : ∀ W : World, (Instr.makeSlice 32 (.int .i64 44) (.int .i64 44)).run Try.prog W = .ok (.slice (some ⟨W.heap.size, 0, none⟩) 44 44) (W.alloc (.cells M 5)) := hmk0
        have HM := Lib.hid hM
        have HMc := Lib.hid hMc
        clear hmk0 hM hMc
        go_enter Try.func4, Try.ntmps4
        go_wp2_with (fail)
        refine (Gs.awake5_any _).mono ?_
        rintro e u ⟨rfl, hb⟩
        have HB := Lib.hid (Lw.go_on HB.out hb)
        clear hb
        go_wp2_with (fail)
        have HR : Hid (Lw.RowB (u.alloc (.cells M 5)) u.heap.size 44 (fun _ => 0)) := Lw.rowB_new u M 44 HM.out HMc.out
        have HG : Hid (w.heap.size ≤ u.heap.size) := HB.out.size
        have HB : Hid (Below w.heap.size w (u.alloc (.cells M 5))) := HB.out.alloc HG.out _
        clear hmk HM HMc
        generalize u.heap.size = g at HR HG ⊢
        generalize u.alloc (.cells M 5) = w1 at HR HB ⊢
        go_loopw [13] (fun v wx => ∃ (j : Nat) (X : Nat → Nat), Hid (j ≤ 44) ∧ v = .int .i64 j ∧ Hid (Lw.RowB wx g 44 X) ∧ Hid (∀ t, X t < 256) ∧ Hid (Below w.heap.size w wx)) (fun v _ => 44 - (intOf v).toNat)
        case atStart => exact ⟨0, fun _ => 0, Nat.zero_le _, rfl, HR, fun _ => by show 0 < 256; decide, HB⟩
        case round =>
          clear HR HB
          obtain ⟨j, X, hj, rfl, HR, HX, HB⟩ := hrel
          by_cases hlt : j < 44 ∧ j < a0.size
          · have jl : ((j : Int) < 44) = True := eq_true (by omega)
            have jl' : (j : Int) < 44 := by omega
            have js : ((j : Int) < (a0.size : Int)) = True := eq_true (by omega)
            have js' : (j : Int) < (a0.size : Int) := by omega
            have jn : j < a0.size := hlt.2
            have xc := World.rowIs.cell HR.out (i := j) hlt.1
            have xf := World.rowIs.frozen HR.out j
            have v0 : ∀ h : j < a0.size, (a0[j]'h).toNat = Aes.byt a0 j := fun h => Aes.get_byt a0 _ h
            have HJ := Lib.hid hlt.1
            clear hlt
            go_wp2_with (fail)
            refine ⟨⟨j + 1, fun i => if i = j then Aes.byt a0 j else X i, HJ.out, by go_num, HR.out.set j _, fun t => ?_, HB.out.setCell HG.out _⟩, Lw.meas 44 j HJ.out⟩
            show (if t = j then _ else X t) < 256
            split
            · exact Aes.byt_lt _ _
            · exact HX.out t
          · have hc1 := Lib.hid fun n => (HR.out.drewN n).text 0 32 44 (by decide)
            have hc2 := Lib.hid fun n => (HR.out.drewN n).text 32 12 12 (by decide)
            have HK : Hid ((Lw.pieceS X 0 32).size = 32) := Lw.pieceS_size _ _ _
            have HN : Hid ((Lw.pieceS X 32 12).size = 12) := Lw.pieceS_size _ _ _
            generalize Lw.pieceS X 0 32 = K at hc1 HK
            generalize Lw.pieceS X 32 12 = N at hc2 HN
            by_cases hl : j < 44
            · have jl : ((j : Int) < 44) = True := eq_true (by omega)
              have js : ((j : Int) < (a0.size : Int)) = False := eq_false (by omega)
              clear hlt hl
              go_upto_region 13 with (fail)
              clear jl js
              have c1 := hc1.out
              have c2 := hc2.out
              go_quiet (fail)
              have HB := Lib.hid (Lw.below_drewN HB.out nq)
              clear c1 c2 hc1 hc2 HR HX
              generalize wr.drewN nq = w2 at HB ⊢
              have HS : Hid (a3.size ≤ 5000) := HA3
              have HA : Hid (a2.size ≤ 5000) := HA2
              go_wp2_with (fail)
              refine (Gs.seal_fine K N a2 a3 _ (Or.inr HK.out) HN.out (by have := HA.out; omega) (by have := HS.out; omega)).mono ?_
              rintro e u ⟨rfl, hb⟩
              have HB := Lib.hid (Lw.go_on HB.out hb)
              clear hb
              have HO := Lib.hid (Gcm.open_seal K N a2 a3 (Gcm.gcmOk_of (Or.inr HK.out) HN.out (by have := HA.out; omega) (by have := HS.out; omega)))
              have hc : (Gcm.sealS K N a2 a3).size = a3.size + 16 := Gcm.sealS_size K N a2 a3
              generalize Gcm.sealS K N a2 a3 = c at HO hc ⊢
              go_wp2_with (fail)
              refine (Gs.open_any K N a2 c _).mono ?_
              rw [HO.out.1, HO.out.2]
              rintro e u ⟨rfl, hb⟩
              have HB := Lib.hid (Lw.go_on HB.out hb)
              clear hb
              have sw : (a3.size : Int) ≤ 5000 := by have := HS.out; omega
              have s5 : ((5000 : Int) < (a3.size : Int)) = False := eq_false (by omega)
              go_upto_region 18 with (go_at_call 15; refine (Lw.num_same _ _).mono ?_; rintro e u ⟨rfl, rfl⟩)
              obtain ⟨n, hn⟩ : ∃ n : Nat, n = a3.size + 16 := ⟨_, rfl⟩
              have HNn : Hid (n ≤ 6000 ∧ 0 < n) := by show n ≤ 6000 ∧ 0 < n; have := HS.out; omega
              rw [← hn] at hc
              clear hn sw s5
              have k1 : (A : Int) % (n : Int) = ((A % n : Nat) : Int) := by omega
              have k2 : (A : Int).tmod (n : Int) = ((A % n : Nat) : Int) := by rw [Int.tmod_eq_emod_of_nonneg (by omega)]; exact k1
              have HKk := Lib.hid (Nat.mod_lt A HNn.out.2)
              generalize A % n = k at k1 k2 HKk
              apply wp_region_lit
              refine Lw.wpList_val rfl (.string c) u (by go_simp) ?_
              refine Lw.wpList_val rfl (.int .i64 a4) u (by go_simp) ?_
              refine Lw.wpList_val rfl (.int .u64 (A : Int)) u (by have A1 := HAe.out; go_simp) ?_
              refine Lw.wpList_val rfl (.string c) u (by go_simp) ?_
              refine Lw.wpList_val rfl (.int .i64 (n : Int)) u (by go_simp) ?_
              refine Lw.wpList_val rfl (.int .u64 (n : Int)) u (by have e : IntKind.u64.wrap (n : Int) = (n : Int) := by (show (n : Int) % 18446744073709551616 = _; have := HNn.out; omega)
                                                                   go_simp) ?_
              refine Lw.wpList_val rfl (.int .u64 (k : Int)) u (by have e : IntKind.u64.wrap (k : Int) = (k : Int) := by (show (k : Int) % 18446744073709551616 = _; have := HNn.out; have := HKk.out; omega)
                                                                   have nz : ((n : Int) = 0) = False := eq_false (by have := HNn.out; omega)
                                                                   have nz2 : (n = 0) = False := eq_false (by have := HNn.out; omega)
                                                                   go_simp) ?_
              refine Lw.wpList_val rfl (.int .i64 (k : Int)) u (by have e : IntKind.i64.wrap (k : Int) = (k : Int) := IntWalk.i64_in _ (by have := HNn.out; have := HKk.out; omega)
                                                                   go_simp) ?_
              refine Lw.wpList_val rfl (.string (c.extract 0 k)) u (by have l1 : (k : Int) ≤ (n : Int) := by (have := HKk.out; omega)
                                                                       have l2 : k ≤ n := by (have := HKk.out; omega)
                                                                       go_simp) ?_
              simp only [Act.put, List.setIfInBounds_toArray, List.set_cons_zero, List.set_cons_succ]
              generalize c.extract 0 k = t
              go_wp2_with (first
                | (go_at_call 11; refine (Gs.open_any K N a2 t _).mono ?_; rintro e u ⟨rfl, hb⟩; have HB := Lib.hid (Lw.go_on HB.out hb); clear hb)
                | (go_at_call 12; refine (Gcm.ropen_any K N a2 t _).mono ?_; rintro e u ⟨rfl, hb⟩; have HB := Lib.hid (Lw.go_on HB.out hb); clear hb)
                | (go_at_call 15; refine (Lw.num_same _ _).mono ?_; rintro e u ⟨rfl, rfl⟩))
              go_ret
              exact ⟨rfl, HB.out⟩
            · have jl : ((j : Int) < 44) = False := eq_false (by omega)
              clear hlt hl
              go_upto_region 13 with (fail)
              clear jl
              have c1 := hc1.out
              have c2 := hc2.out
              go_quiet (fail)
              have HB := Lib.hid (Lw.below_drewN HB.out nq)
              clear c1 c2 hc1 hc2 HR HX
              generalize wr.drewN nq = w2 at HB ⊢
              have HS : Hid (a3.size ≤ 5000) := HA3
              have HA : Hid (a2.size ≤ 5000) := HA2
              go_wp2_with (fail)
              refine (Gs.seal_fine K N a2 a3 _ (Or.inr HK.out) HN.out (by have := HA.out; omega) (by have := HS.out; omega)).mono ?_
              rintro e u ⟨rfl, hb⟩
              have HB := Lib.hid (Lw.go_on HB.out hb)
              clear hb
              have HO := Lib.hid (Gcm.open_seal K N a2 a3 (Gcm.gcmOk_of (Or.inr HK.out) HN.out (by have := HA.out; omega) (by have := HS.out; omega)))
              have hc : (Gcm.sealS K N a2 a3).size = a3.size + 16 := Gcm.sealS_size K N a2 a3
              generalize Gcm.sealS K N a2 a3 = c at HO hc ⊢
              go_wp2_with (fail)
              refine (Gs.open_any K N a2 c _).mono ?_
              rw [HO.out.1, HO.out.2]
              rintro e u ⟨rfl, hb⟩
              have HB := Lib.hid (Lw.go_on HB.out hb)
              clear hb
              have sw : (a3.size : Int) ≤ 5000 := by have := HS.out; omega
              have s5 : ((5000 : Int) < (a3.size : Int)) = False := eq_false (by omega)
              go_upto_region 18 with (go_at_call 15; refine (Lw.num_same _ _).mono ?_; rintro e u ⟨rfl, rfl⟩)
              obtain ⟨n, hn⟩ : ∃ n : Nat, n = a3.size + 16 := ⟨_, rfl⟩
              have HNn : Hid (n ≤ 6000 ∧ 0 < n) := by show n ≤ 6000 ∧ 0 < n; have := HS.out; omega
              rw [← hn] at hc
              clear hn sw s5
              have k1 : (A : Int) % (n : Int) = ((A % n : Nat) : Int) := by omega
              have k2 : (A : Int).tmod (n : Int) = ((A % n : Nat) : Int) := by rw [Int.tmod_eq_emod_of_nonneg (by omega)]; exact k1
              have HKk := Lib.hid (Nat.mod_lt A HNn.out.2)
              generalize A % n = k at k1 k2 HKk
              apply wp_region_lit
              refine Lw.wpList_val rfl (.string c) u (by go_simp) ?_
              refine Lw.wpList_val rfl (.int .i64 a4) u (by go_simp) ?_
              refine Lw.wpList_val rfl (.int .u64 (A : Int)) u (by have A1 := HAe.out; go_simp) ?_
              refine Lw.wpList_val rfl (.string c) u (by go_simp) ?_
              refine Lw.wpList_val rfl (.int .i64 (n : Int)) u (by go_simp) ?_
              refine Lw.wpList_val rfl (.int .u64 (n : Int)) u (by have e : IntKind.u64.wrap (n : Int) = (n : Int) := by (show (n : Int) % 18446744073709551616 = _; have := HNn.out; omega)
                                                                   go_simp) ?_
              refine Lw.wpList_val rfl (.int .u64 (k : Int)) u (by have e : IntKind.u64.wrap (k : Int) = (k : Int) := by (show (k : Int) % 18446744073709551616 = _; have := HNn.out; have := HKk.out; omega)
                                                                   have nz : ((n : Int) = 0) = False := eq_false (by have := HNn.out; omega)
                                                                   have nz2 : (n = 0) = False := eq_false (by have := HNn.out; omega)
                                                                   go_simp) ?_
              refine Lw.wpList_val rfl (.int .i64 (k : Int)) u (by have e : IntKind.i64.wrap (k : Int) = (k : Int) := IntWalk.i64_in _ (by have := HNn.out; have := HKk.out; omega)
                                                                   go_simp) ?_
              refine Lw.wpList_val rfl (.string (c.extract 0 k)) u (by have l1 : (k : Int) ≤ (n : Int) := by (have := HKk.out; omega)
                                                                       have l2 : k ≤ n := by (have := HKk.out; omega)
                                                                       go_simp) ?_
              simp only [Act.put, List.setIfInBounds_toArray, List.set_cons_zero, List.set_cons_succ]
              generalize c.extract 0 k = t
              go_wp2_with (first
                | (go_at_call 11; refine (Gs.open_any K N a2 t _).mono ?_; rintro e u ⟨rfl, hb⟩; have HB := Lib.hid (Lw.go_on HB.out hb); clear hb)
                | (go_at_call 12; refine (Gcm.ropen_any K N a2 t _).mono ?_; rintro e u ⟨rfl, hb⟩; have HB := Lib.hid (Lw.go_on HB.out hb); clear hb)
                | (go_at_call 15; refine (Lw.num_same _ _).mono ?_; rintro e u ⟨rfl, rfl⟩))
              go_ret
              exact ⟨rfl, HB.out⟩

set_option maxRecDepth 100000 in
theorem lifted (os : Os) (started : os.Started) (H : Type) (enc : TypeId × Value → H) :
    ReturnsInHanded {} Try.checked os 4 .any (Rows.gcmBackSpec.pre6 enc Try.prog Try.f4 Rows.gcmBackRow.domain false) (Rows.gcmBackSpec.post enc Try.prog Try.f4 false true false false) := by
  refine returnsInHanded_of_change (C := Try.checked) own started (by kernel_rfl) Try.func4
    (ChangeSpec.witness6 (enc := enc) (C := Try.checked) false ⟨#[], #[.string ByteArray.empty, .bool false, .string ByteArray.empty, .string ByteArray.empty, .int .i64 0], []⟩ 8 (by kernel_rfl) (by kernel_rfl) (by kernel_rfl) (by kernel_rfl)) ?_
  intro W base args ds gs before hval0 hW hcnd _
  have hval : ∀ (j : Nat) t v, Try.f4.params[j]? = some t → args[j]? = some v → Value.okWide Try.prog W .any base t v := hval0
  have hW' := hW
  obtain ⟨p, q, hA0, hV, rfl, hfz, hnd⟩ := hW
  have hA : DataW.TrodAll enc Try.prog W 0 (fun _ => true) true Try.f4.params.toList args.toList ds p := hA0
  rw [Try.params4] at hA hval
  obtain ⟨v0, vs0, d0, ds0, p0, q0, hargs, rfl, rfl, h0, r0⟩ := trodAll_cons hA
  obtain ⟨v1, vs1, d1, ds1, p1, q1, rfl, rfl, rfl, h1, r1⟩ := trodAll_cons r0
  obtain ⟨v2, vs2, d2, ds2, p2, q2, rfl, rfl, rfl, h2, r2⟩ := trodAll_cons r1
  obtain ⟨v3, vs3, d3, ds3, p3, q3, rfl, rfl, rfl, h3, r3⟩ := trodAll_cons r2
  obtain ⟨v4, vs4, d4, ds4, p4, q4, rfl, rfl, rfl, h4, r4⟩ := trodAll_cons r3
  obtain ⟨rfl, rfl, rfl⟩ := trodAll_nil r4
  obtain rfl : args = #[v0, v1, v2, v3, v4] := by cases args; simp_all
  obtain ⟨rfl, rfl⟩ := trodVars_none hV
  obtain ⟨a0, rfl, rfl, rfl, w0⟩ := open_string Try.underlying9 (hval 0 9 v0 rfl rfl) h0
  obtain ⟨a1, rfl, rfl, rfl⟩ := open_bool Try.underlying4 (hval 1 4 v1 rfl rfl) h1
  obtain ⟨a2, rfl, rfl, rfl, w2⟩ := open_string Try.underlying9 (hval 2 9 v2 rfl rfl) h2
  obtain ⟨a3, rfl, rfl, rfl, w3⟩ := open_string Try.underlying9 (hval 3 9 v3 rfl rfl) h3
  obtain ⟨a4, rfl, rfl, rfl, w4⟩ := open_int Try.underlying3 (hval 4 3 v4 rfl rfl) h4
  clear hA0 hval0
  simp only [List.append_nil] at hW'
  refine (walk a0 a1 a2 a3 a4 w0 w2 w3 w4 W).mono fun e W' ⟨he, bel⟩ => ?_
  subst he
  exact ⟨_, rfl, _, _, _, [], [], [], hW', trodAll_mk1 (shut_bool Try.underlying4 _), (trodAll_cons_mk (shut_string Try.underlying9 w0) (trodAll_cons_mk (shut_bool Try.underlying4 _) (trodAll_cons_mk (shut_string Try.underlying9 w2) (trodAll_cons_mk (shut_string Try.underlying9 w3) (trodAll_cons_mk (shut_int Try.underlying3 w4) trodAll_mk0))))), rfl, bel.frame _, fun h => by cases h⟩

theorem over : Rows.gcmBackRow.holds Try.pinned (OpenSpec.ofChange Rows.gcmBackSpec) :=
  OpenClaim.holds_of_wide 4 Try.f4 rfl rfl rfl rfl rfl rfl rfl ⟨rfl, rfl, rfl, rfl, rfl⟩ rfl rfl rfl rfl rfl (by kernel_rfl) Try.func4 (by kernel_rfl)
    (of_decide_eq_true (by kernel_rfl)) (by unfold Func.isWrapper; first | (rw [if_pos (by decide +kernel)]; kernel_rfl) | (rw [if_neg (by decide +kernel)]; exact ⟨rfl, rfl⟩))
    (fun os started H enc _ => lifted os started H enc)

theorem proved : Rows.GcmBackSaid :=
  over
#print axioms proved
end Go.Proofs.Ytfjodabkfjfcbaa.gcmBack
