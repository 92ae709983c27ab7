/-
  Proved: halberdlaw5.GcmParts answers true at every input: a sealed text is its plaintext under the blocks of its nonce. Conditions: none but the row's.
-/
import Derived.Test.YtfjodabkfjfcbaaGcX
import Derived.Test.YtfjodabkfjfcbaaRows
import Derived.WalkKit
import Derived.ProofKit
import Derived.OpenShut
import Derived.ShutString
import Derived.Below
import Derived.ChangeOld
namespace Go.Proofs.Ytfjodabkfjfcbaa.gcmParts
open Go.ChangeShapes Go.WideShapes Go.ChangeAt Go.RowKit
open Go.ChangeMaps (open_string shut_string)
set_option linter.unusedVariables false

theorem own : ownKnob Try.prog.godebug = none := by kernel_rfl

set_option maxHeartbeats 4000000 in
set_option maxRecDepth 100000 in
theorem walk (a0 : ByteArray) (a1 : ByteArray) (a2 : ByteArray) (a3 : Bool) (_w0 : a0.size ≤ maxLen) (_w1 : a1.size ≤ maxLen) (_w2 : a2.size ≤ maxLen) (w : World) :
    Calls Try.prog 6 #[.string a0, .string a1, .string a2, .bool a3] w fun e w' => e = .returned (.bool true) ∧ Below w.heap.size w w' := by
  have HB : Hid (Below w.heap.size w w) := Below.refl _ _
  clear _w0 _w1 _w2
  by_cases h2 : 1000 < a2.size
  · have s2 : ((1000 : Int) < (a2.size : Int)) = True := eq_true (by omega)
    clear h2
    go_enter Try.func6, Try.ntmps6
    go_wp2_with (go_at_call 16; refine (Gs.awake5_any _).mono ?_; rintro e u ⟨rfl, hb⟩; have HB := Lib.hid (Lw.go_on HB.out hb); clear hb)
    go_ret
    exact ⟨rfl, HB.out⟩
  · have s2 : ((1000 : Int) < (a2.size : Int)) = False := eq_false (by omega)
    have HS : Hid (a2.size ≤ 1000) := by show a2.size ≤ 1000; omega
    clear h2
    cases a3
    · obtain ⟨M, hM, hMc, hmk0⟩ := Lw.zeros 28 (by decide)
      have hmk : ∀ W : World, (Instr.makeSlice 32 (.int .i64 28) (.int .i64 28)).run Try.prog W = .ok (.slice (some ⟨W.heap.size, 0, none⟩) 28 28) (W.alloc (.cells M 5)) := hmk0
      have HM := Lib.hid hM
      have HMc := Lib.hid hMc
      clear hmk0 hM hMc
      go_enter Try.func6, Try.ntmps6
      go_wp2_with (fail)
      refine (Gs.awake5_any _).mono ?_
      rintro e u ⟨rfl, hb⟩
      have HB := Lib.hid (Lw.go_on HB.out hb)
      clear hb
      go_wp2_with (fail)
      have HR : Hid (Lw.RowB (u.alloc (.cells M 5)) u.heap.size 28 (fun _ => 0)) := Lw.rowB_new u M 28 HM.out HMc.out
      have HG : Hid (w.heap.size ≤ u.heap.size) := HB.out.size
      have HB : Hid (Below w.heap.size w (u.alloc (.cells M 5))) := HB.out.alloc HG.out _
      clear hmk HM HMc
      generalize u.heap.size = g at HR HG ⊢
      generalize u.alloc (.cells M 5) = w1 at HR HB ⊢
      go_loopw [11] (fun v wx => ∃ (j : Nat) (X : Nat → Nat), Hid (j ≤ 28) ∧ v = .int .i64 j ∧ Hid (Lw.RowB wx g 28 X) ∧ Hid (∀ t, X t < 256) ∧ Hid (Below w.heap.size w wx)) (fun v _ => 28 - (intOf v).toNat)
      case atStart => exact ⟨0, fun _ => 0, Nat.zero_le _, rfl, HR, fun _ => by show 0 < 256; decide, HB⟩
      case round =>
        clear HR HB
        obtain ⟨j, X, hj, rfl, HR, HX, HB⟩ := hrel
        by_cases hlt : j < 28 ∧ j < a0.size
        · have jl : ((j : Int) < 28) = True := eq_true (by omega)
          have jl' : (j : Int) < 28 := by omega
          have js : ((j : Int) < (a0.size : Int)) = True := eq_true (by omega)
          have js' : (j : Int) < (a0.size : Int) := by omega
          have jn : j < a0.size := hlt.2
          have xc := World.rowIs.cell HR.out (i := j) hlt.1
          have xf := World.rowIs.frozen HR.out j
          have v0 : ∀ h : j < a0.size, (a0[j]'h).toNat = Aes.byt a0 j := fun h => Aes.get_byt a0 _ h
          have HJ := Lib.hid hlt.1
          clear hlt
          go_wp2_with (fail)
          refine ⟨⟨j + 1, fun i => if i = j then Aes.byt a0 j else X i, HJ.out, by go_num, HR.out.set j _, fun t => ?_, HB.out.setCell HG.out _⟩, Lw.meas 28 j HJ.out⟩
          show (if t = j then _ else X t) < 256
          split
          · exact Aes.byt_lt _ _
          · exact HX.out t
        · have hc1 := Lib.hid fun n => (HR.out.drewN n).text 0 16 28 (by decide)
          have hc2 := Lib.hid fun n => (HR.out.drewN n).text 16 12 12 (by decide)
          have HK : Hid ((Lw.pieceS X 0 16).size = 16) := Lw.pieceS_size _ _ _
          have HN : Hid ((Lw.pieceS X 16 12).size = 12) := Lw.pieceS_size _ _ _
          generalize Lw.pieceS X 0 16 = K at hc1 HK
          generalize Lw.pieceS X 16 12 = N at hc2 HN
          by_cases hl : j < 28
          · have jl : ((j : Int) < 28) = True := eq_true (by omega)
            have js : ((j : Int) < (a0.size : Int)) = False := eq_false (by omega)
            clear hlt hl
            go_wp2_with (fail)
            clear jl js
            clear hc1 hc2 HK HN
            generalize wr = w3 at HR HB ⊢
            go_loopw [12] (fun v wx => ∃ (j : Nat) (X : Nat → Nat), Hid (j ≤ 12) ∧ v = .int .i64 j ∧ Hid (Lw.RowB wx g 28 X) ∧ Hid (∀ t, X t < 256) ∧ Hid (Below w.heap.size w wx)) (fun v _ => 12 - (intOf v).toNat)
            case atStart => exact ⟨0, X, Nat.zero_le _, rfl, HR, HX, HB⟩
            case round =>
              clear HR HB HX
              obtain ⟨l, Y, hl, rfl, HR, HX, HB⟩ := hrel
              by_cases hlt : l < 12 ∧ l < a1.size
              · have jl : ((l : Int) < 12) = True := eq_true (by omega)
                have js : ((l : Int) < (a1.size : Int)) = True := eq_true (by omega)
                have js' : (l : Int) < (a1.size : Int) := by omega
                have jn : l < a1.size := hlt.2
                have jm : (16 : Int) + (l : Int) < 28 := by omega
                have xc := World.rowIs.cell HR.out (i := 16 + l) (by omega)
                have xf := World.rowIs.frozen HR.out (16 + l)
                have v0 : ∀ h : l < a1.size, (a1[l]'h).toNat = Aes.byt a1 l := fun h => Aes.get_byt a1 _ h
                have HJ := Lib.hid hlt.1
                clear hlt
                go_wp2_with (fail)
                refine ⟨⟨l + 1, fun i => if i = 16 + l then Aes.byt a1 l else Y i, HJ.out, by go_num, HR.out.set (16 + l) _, fun t => ?_, HB.out.setCell HG.out _⟩, Lw.meas 12 l HJ.out⟩
                show (if t = 16 + l then _ else Y t) < 256
                split
                · exact Aes.byt_lt _ _
                · exact HX.out t
              · have hc1 := Lib.hid fun n => (HR.out.drewN n).text 0 16 28 (by decide)
                have hc2 := Lib.hid fun n => (HR.out.drewN n).text 16 12 12 (by decide)
                have HK : Hid ((Lw.pieceS Y 0 16).size = 16) := Lw.pieceS_size _ _ _
                have HN : Hid ((Lw.pieceS Y 16 12).size = 12) := Lw.pieceS_size _ _ _
                generalize Lw.pieceS Y 0 16 = K at hc1 HK
                generalize Lw.pieceS Y 16 12 = N at hc2 HN
                by_cases hll : l < 12
                · have jl : ((l : Int) < 12) = True := eq_true (by omega)
                  have js : ((l : Int) < (a1.size : Int)) = False := eq_false (by omega)
                  clear hlt hll
                  go_upto_region 17 with (fail)
                  clear jl js
                  have c1 := hc1.out
                  have c2 := hc2.out
                  go_quiet (fail)
                  have HB := Lib.hid (Lw.below_drewN HB.out nq)
                  clear c1 c2 hc1 hc2 HR HX
                  generalize wr.drewN nq = w2 at HB ⊢
                  go_wp2_with (fail)
                  refine (Gs.seal_fine K N ⟨#[]⟩ a2 _ (Or.inl HK.out) HN.out (by decide) (by have := HS.out; omega)).mono ?_
                  rintro e u ⟨rfl, hb⟩
                  have HB := Lib.hid (Lw.go_on HB.out hb)
                  clear hb
                  have HPt : Hid (∀ m j, j < 16 → 16 * m + j < a2.size → Aes.byt (Gcm.sealS K N ⟨#[]⟩ a2) (16 * m + j) = Aes.byt a2 (16 * m + j) ^^^ Aes.byt (Aes.encS K (N ++ Be.beS (2 + m) 4)) j) := fun m j hj h => Gcm.seal_part K N _ a2 m j hj h
                  have hc : (Gcm.sealS K N ⟨#[]⟩ a2).size = a2.size + 16 := Gcm.sealS_size K N _ a2
                  generalize Gcm.sealS K N ⟨#[]⟩ a2 = c at HPt hc ⊢
                  have sw : (a2.size : Int) ≤ 1000 := by have := HS.out; omega
                  go_wp2_with (go_at_call 15; refine (Lw.num_same _ _).mono ?_; rintro e u ⟨rfl, rfl⟩)
                  go_loopw [17] (fun v wx => ∃ (m I : Nat), Hid (I = 16 * m) ∧ v = .int .i64 I ∧ Hid (Below w.heap.size w wx)) (fun v _ => a2.size + 16 - (intOf v).toNat)
                  case atStart => exact ⟨0, 0, rfl, rfl, HB⟩
                  case round =>
                    clear HB
                    obtain ⟨m, I, hI, rfl, HB⟩ := hrel
                    by_cases hlt : I < a2.size
                    · have il : ((I : Int) < (a2.size : Int)) = True := eq_true (by omega)
                      have HI := Lib.hid hlt
                      have HM : Hid (m ≤ 62) := by have := hI.out; show m ≤ 62; omega
                      have e1 : (I : Int) / 16 = (m : Int) := by have := hI.out; omega
                      clear hlt
                      have m1 : (m : Int) ≤ 62 := by have := HM.out; omega
                      go_upto_region 25 with (fail)
                      clear m1
                      have e2 : (2 + (m : Int)) / 256 = 0 := by have := HM.out; omega
                      have e3 : IntKind.u8.wrap 0 = 0 := by decide
                      have e4 : bits .and .i64 (2 + (m : Int)) 255 = 2 + (m : Int) := by
                        have h := Lw.and_of (2 + (m : Int)) 255 (by decide)
                        rw [show (((2 + (m : Int)) % 18446744073709551616).toNat) = 2 + m by have := HM.out; omega, show (255 : Nat) = 2 ^ 8 - 1 from rfl, Nat.and_two_pow_sub_one_eq_mod, Nat.mod_eq_of_lt (by have := HM.out; omega)] at h
                        refine h.trans ?_; omega
                      have e5 : IntKind.u8.wrap (2 + (m : Int)) = ((2 + m : Nat) : Int) := by show (2 + (m : Int)) % 256 = _; have := HM.out; omega
                      have e6 : (2 + (m : Int)) % 256 = ((2 + m : Nat) : Int) := by have := HM.out; omega
                      have hcv := Gs.four_text wr (2 + m) (by have := HM.out; omega)
                      apply wp_region_lit
                      refine Lw.wpList_val rfl (.string K) wr (by go_simp) ?_
                      refine Lw.wpList_val rfl (.string N) wr (by go_simp) ?_
                      refine Lw.wpList_val rfl (.int .i64 (2 + (m : Int))) wr (by go_simp) ?_
                      refine Lw.wpList_val rfl (.int .i64 0) wr (by go_simp) ?_
                      refine Lw.wpList_val rfl (.int .u8 0) wr (by go_simp) ?_
                      refine Lw.wpList_val rfl (.int .i64 (2 + (m : Int))) wr (by go_simp) ?_
                      refine Lw.wpList_val rfl (.int .i64 (2 + (m : Int))) wr (by go_simp) ?_
                      refine Lw.wpList_val rfl (.int .u8 ((2 + m : Nat) : Int)) wr (by go_simp) ?_
                      generalize hD : wr.alloc (.cells #[.int .u8 0, .int .u8 0, .int .u8 0, .int .u8 ((2 + m : Nat) : Int)] 5) = w6 at hcv
                      refine Lw.wpList_val rfl (.slice (some ⟨wr.heap.size, 0, none⟩) 4 4) w6 (by rw [← hD]; generalize ((2 + m : Nat) : Int) = r; go_simp) ?_
                      have HB : Hid (Below w.heap.size w w6) := by rw [← hD]; exact HB.out.alloc HB.out.size _
                      clear hD e1 e2 e3 e4 e5 e6
                      have HF : Hid ((N ++ Be.beS (2 + m) 4).size = 16) := by show (N ++ Be.beS (2 + m) 4).size = 16; rw [ByteArray.size_append, HN.out, Gs.beS4_size _ (by have := HM.out; omega)]
                      have HP := Lib.hid fun j hj h => HPt.out m j hj h
                      generalize hG : N ++ Be.beS (2 + m) 4 = F at HF HP
                      have HT4 : Hid ((Be.beS (2 + m) 4).size = 4) := Gs.beS4_size _ (by have := HM.out; omega)
                      generalize Be.beS (2 + m) 4 = T4 at hcv hG HT4
                      generalize ((2 + m : Nat) : Int) = r
                      refine Lw.wpList_val rfl (.string T4) w6 (by go_simp) ?_
                      clear hcv
                      refine Lw.wpList_val rfl (.string F) w6 (by rw [← hG]; go_simp; have := HN.out; have := HT4.out; omega) ?_
                      simp only [Act.put, List.setIfInBounds_toArray, List.set_cons_zero, List.set_cons_succ]
                      go_wp2_with (fail)
                      refine (Gs.block_fine K F _ (Or.inl HK.out) HF.out).mono ?_
                      rintro e u6 ⟨rfl, hb⟩
                      have HB := Lib.hid (Lw.go_on HB.out hb)
                      clear hb
                      have hx : (Aes.encS K F).size = 16 := Aes.encS_size K F
                      generalize Aes.encS K F = x at HP hx ⊢
                      go_wp2_with (go_at_call 15; refine (Lw.num_same _ _).mono ?_; rintro e u ⟨rfl, rfl⟩)
                      go_loopw [21] (fun v wx => ∃ j : Nat, Hid (j ≤ 16) ∧ v = .int .i64 j ∧ Hid (Below w.heap.size w wx)) (fun v _ => 16 - (intOf v).toNat)
                      case atStart => exact ⟨0, Nat.zero_le _, rfl, HB⟩
                      case round =>
                        clear HB
                        obtain ⟨j, hj, rfl, HB⟩ := hrel
                        have jw : (j : Int) ≤ 16 := by have := hj.out; omega
                        have Iw : (I : Int) ≤ 1000 := by have := HI.out; omega
                        by_cases hlt : j < 16 ∧ I + j < a2.size
                        · have jl : ((j : Int) < 16) = True := eq_true (by omega)
                          have jl' : (j : Int) < 16 := by omega
                          have js : ((I : Int) + (j : Int) < (a2.size : Int)) = True := eq_true (by omega)
                          have HJ := Lib.hid hlt.1
                          have i1 : (I : Int) + (j : Int) < (c.size : Int) := by omega
                          have i2 : (I : Int) + (j : Int) < (a2.size : Int) := by omega
                          have i3 : (j : Int) < (x.size : Int) := by omega
                          have p1 : (0 : Int) ≤ (I : Int) + (j : Int) := by omega
                          have t1 : ((I : Int) + (j : Int)).toNat = I + j := by omega
                          have x0 : IntKind.i64.wrap ((I : Int) + (j : Int)) = (I : Int) + (j : Int) := IntWalk.i64_in _ (by omega)
                          have v1 : ∀ h : I + j < c.size, (c[I + j]'h).toNat = Aes.byt c (I + j) := fun h => Aes.get_byt c _ h
                          have v2 : ∀ h : I + j < a2.size, (a2[I + j]'h).toNat = Aes.byt a2 (I + j) := fun h => Aes.get_byt a2 _ h
                          have v3 : ∀ h : j < x.size, (x[j]'h).toNat = Aes.byt x j := fun h => Aes.get_byt x _ h
                          have o1 := Aes.u8_xor (Aes.byt a2 (I + j)) (Aes.byt x j) (Aes.byt_lt _ _) (Aes.byt_lt _ _)
                          have h1 := HP.out j hlt.1 (by have := hI.out; omega)
                          rw [← hI.out] at h1
                          rw [← h1] at o1
                          clear hlt h1
                          go_wp2_with (fail)
                          go_quiet (fail)
                          have HB := Lib.hid (Lw.below_drewN HB.out nq)
                          generalize wr.drewN nq = w7 at HB ⊢
                          clear v1 v2 v3 o1 i1 i2 i3 p1 t1 x0
                          go_wp2_with (fail)
                          exact ⟨⟨j + 1, HJ.out, by go_num, HB⟩, Lw.meas 16 j HJ.out⟩
                        · by_cases hjj : j < 16
                          · have jl : ((j : Int) < 16) = True := eq_true (by omega)
                            have js : ((I : Int) + (j : Int) < (a2.size : Int)) = False := eq_false (by omega)
                            clear hlt hjj
                            go_wp2_with (fail)
                            exact ⟨⟨m + 1, I + 16, by have := hI.out; show I + 16 = 16 * (m + 1); omega, by go_num, HB⟩, Gcm.meas16 a2.size I HI.out⟩
                          · have jl : ((j : Int) < 16) = False := eq_false (by omega)
                            clear hlt hjj
                            go_wp2_with (fail)
                            exact ⟨⟨m + 1, I + 16, by have := hI.out; show I + 16 = 16 * (m + 1); omega, by go_num, HB⟩, Gcm.meas16 a2.size I HI.out⟩
                    · have il : ((I : Int) < (a2.size : Int)) = False := eq_false (by omega)
                      clear hlt
                      go_wp2_with (fail)
                      go_ret
                      exact ⟨rfl, HB.out⟩
                · have jl : ((l : Int) < 12) = False := eq_false (by omega)
                  clear hlt hll
                  go_upto_region 17 with (fail)
                  clear jl
                  have c1 := hc1.out
                  have c2 := hc2.out
                  go_quiet (fail)
                  have HB := Lib.hid (Lw.below_drewN HB.out nq)
                  clear c1 c2 hc1 hc2 HR HX
                  generalize wr.drewN nq = w2 at HB ⊢
                  go_wp2_with (fail)
                  refine (Gs.seal_fine K N ⟨#[]⟩ a2 _ (Or.inl HK.out) HN.out (by decide) (by have := HS.out; omega)).mono ?_
                  rintro e u ⟨rfl, hb⟩
                  have HB := Lib.hid (Lw.go_on HB.out hb)
                  clear hb
                  have HPt : Hid (∀ m j, j < 16 → 16 * m + j < a2.size → Aes.byt (Gcm.sealS K N ⟨#[]⟩ a2) (16 * m + j) = Aes.byt a2 (16 * m + j) ^^^ Aes.byt (Aes.encS K (N ++ Be.beS (2 + m) 4)) j) := fun m j hj h => Gcm.seal_part K N _ a2 m j hj h
                  have hc : (Gcm.sealS K N ⟨#[]⟩ a2).size = a2.size + 16 := Gcm.sealS_size K N _ a2
                  generalize Gcm.sealS K N ⟨#[]⟩ a2 = c at HPt hc ⊢
                  have sw : (a2.size : Int) ≤ 1000 := by have := HS.out; omega
                  go_wp2_with (go_at_call 15; refine (Lw.num_same _ _).mono ?_; rintro e u ⟨rfl, rfl⟩)
                  go_loopw [17] (fun v wx => ∃ (m I : Nat), Hid (I = 16 * m) ∧ v = .int .i64 I ∧ Hid (Below w.heap.size w wx)) (fun v _ => a2.size + 16 - (intOf v).toNat)
                  case atStart => exact ⟨0, 0, rfl, rfl, HB⟩
                  case round =>
                    clear HB
                    obtain ⟨m, I, hI, rfl, HB⟩ := hrel
                    by_cases hlt : I < a2.size
                    · have il : ((I : Int) < (a2.size : Int)) = True := eq_true (by omega)
                      have HI := Lib.hid hlt
                      have HM : Hid (m ≤ 62) := by have := hI.out; show m ≤ 62; omega
                      have e1 : (I : Int) / 16 = (m : Int) := by have := hI.out; omega
                      clear hlt
                      have m1 : (m : Int) ≤ 62 := by have := HM.out; omega
                      go_upto_region 25 with (fail)
                      clear m1
                      have e2 : (2 + (m : Int)) / 256 = 0 := by have := HM.out; omega
                      have e3 : IntKind.u8.wrap 0 = 0 := by decide
                      have e4 : bits .and .i64 (2 + (m : Int)) 255 = 2 + (m : Int) := by
                        have h := Lw.and_of (2 + (m : Int)) 255 (by decide)
                        rw [show (((2 + (m : Int)) % 18446744073709551616).toNat) = 2 + m by have := HM.out; omega, show (255 : Nat) = 2 ^ 8 - 1 from rfl, Nat.and_two_pow_sub_one_eq_mod, Nat.mod_eq_of_lt (by have := HM.out; omega)] at h
                        refine h.trans ?_; omega
                      have e5 : IntKind.u8.wrap (2 + (m : Int)) = ((2 + m : Nat) : Int) := by show (2 + (m : Int)) % 256 = _; have := HM.out; omega
                      have e6 : (2 + (m : Int)) % 256 = ((2 + m : Nat) : Int) := by have := HM.out; omega
                      have hcv := Gs.four_text wr (2 + m) (by have := HM.out; omega)
                      apply wp_region_lit
                      refine Lw.wpList_val rfl (.string K) wr (by go_simp) ?_
                      refine Lw.wpList_val rfl (.string N) wr (by go_simp) ?_
                      refine Lw.wpList_val rfl (.int .i64 (2 + (m : Int))) wr (by go_simp) ?_
                      refine Lw.wpList_val rfl (.int .i64 0) wr (by go_simp) ?_
                      refine Lw.wpList_val rfl (.int .u8 0) wr (by go_simp) ?_
                      refine Lw.wpList_val rfl (.int .i64 (2 + (m : Int))) wr (by go_simp) ?_
                      refine Lw.wpList_val rfl (.int .i64 (2 + (m : Int))) wr (by go_simp) ?_
                      refine Lw.wpList_val rfl (.int .u8 ((2 + m : Nat) : Int)) wr (by go_simp) ?_
                      generalize hD : wr.alloc (.cells #[.int .u8 0, .int .u8 0, .int .u8 0, .int .u8 ((2 + m : Nat) : Int)] 5) = w6 at hcv
                      refine Lw.wpList_val rfl (.slice (some ⟨wr.heap.size, 0, none⟩) 4 4) w6 (by rw [← hD]; generalize ((2 + m : Nat) : Int) = r; go_simp) ?_
                      have HB : Hid (Below w.heap.size w w6) := by rw [← hD]; exact HB.out.alloc HB.out.size _
                      clear hD e1 e2 e3 e4 e5 e6
                      have HF : Hid ((N ++ Be.beS (2 + m) 4).size = 16) := by show (N ++ Be.beS (2 + m) 4).size = 16; rw [ByteArray.size_append, HN.out, Gs.beS4_size _ (by have := HM.out; omega)]
                      have HP := Lib.hid fun j hj h => HPt.out m j hj h
                      generalize hG : N ++ Be.beS (2 + m) 4 = F at HF HP
                      have HT4 : Hid ((Be.beS (2 + m) 4).size = 4) := Gs.beS4_size _ (by have := HM.out; omega)
                      generalize Be.beS (2 + m) 4 = T4 at hcv hG HT4
                      generalize ((2 + m : Nat) : Int) = r
                      refine Lw.wpList_val rfl (.string T4) w6 (by go_simp) ?_
                      clear hcv
                      refine Lw.wpList_val rfl (.string F) w6 (by rw [← hG]; go_simp; have := HN.out; have := HT4.out; omega) ?_
                      simp only [Act.put, List.setIfInBounds_toArray, List.set_cons_zero, List.set_cons_succ]
                      go_wp2_with (fail)
                      refine (Gs.block_fine K F _ (Or.inl HK.out) HF.out).mono ?_
                      rintro e u6 ⟨rfl, hb⟩
                      have HB := Lib.hid (Lw.go_on HB.out hb)
                      clear hb
                      have hx : (Aes.encS K F).size = 16 := Aes.encS_size K F
                      generalize Aes.encS K F = x at HP hx ⊢
                      go_wp2_with (go_at_call 15; refine (Lw.num_same _ _).mono ?_; rintro e u ⟨rfl, rfl⟩)
                      go_loopw [21] (fun v wx => ∃ j : Nat, Hid (j ≤ 16) ∧ v = .int .i64 j ∧ Hid (Below w.heap.size w wx)) (fun v _ => 16 - (intOf v).toNat)
                      case atStart => exact ⟨0, Nat.zero_le _, rfl, HB⟩
                      case round =>
                        clear HB
                        obtain ⟨j, hj, rfl, HB⟩ := hrel
                        have jw : (j : Int) ≤ 16 := by have := hj.out; omega
                        have Iw : (I : Int) ≤ 1000 := by have := HI.out; omega
                        by_cases hlt : j < 16 ∧ I + j < a2.size
                        · have jl : ((j : Int) < 16) = True := eq_true (by omega)
                          have jl' : (j : Int) < 16 := by omega
                          have js : ((I : Int) + (j : Int) < (a2.size : Int)) = True := eq_true (by omega)
                          have HJ := Lib.hid hlt.1
                          have i1 : (I : Int) + (j : Int) < (c.size : Int) := by omega
                          have i2 : (I : Int) + (j : Int) < (a2.size : Int) := by omega
                          have i3 : (j : Int) < (x.size : Int) := by omega
                          have p1 : (0 : Int) ≤ (I : Int) + (j : Int) := by omega
                          have t1 : ((I : Int) + (j : Int)).toNat = I + j := by omega
                          have x0 : IntKind.i64.wrap ((I : Int) + (j : Int)) = (I : Int) + (j : Int) := IntWalk.i64_in _ (by omega)
                          have v1 : ∀ h : I + j < c.size, (c[I + j]'h).toNat = Aes.byt c (I + j) := fun h => Aes.get_byt c _ h
                          have v2 : ∀ h : I + j < a2.size, (a2[I + j]'h).toNat = Aes.byt a2 (I + j) := fun h => Aes.get_byt a2 _ h
                          have v3 : ∀ h : j < x.size, (x[j]'h).toNat = Aes.byt x j := fun h => Aes.get_byt x _ h
                          have o1 := Aes.u8_xor (Aes.byt a2 (I + j)) (Aes.byt x j) (Aes.byt_lt _ _) (Aes.byt_lt _ _)
                          have h1 := HP.out j hlt.1 (by have := hI.out; omega)
                          rw [← hI.out] at h1
                          rw [← h1] at o1
                          clear hlt h1
                          go_wp2_with (fail)
                          go_quiet (fail)
                          have HB := Lib.hid (Lw.below_drewN HB.out nq)
                          generalize wr.drewN nq = w7 at HB ⊢
                          clear v1 v2 v3 o1 i1 i2 i3 p1 t1 x0
                          go_wp2_with (fail)
                          exact ⟨⟨j + 1, HJ.out, by go_num, HB⟩, Lw.meas 16 j HJ.out⟩
                        · by_cases hjj : j < 16
                          · have jl : ((j : Int) < 16) = True := eq_true (by omega)
                            have js : ((I : Int) + (j : Int) < (a2.size : Int)) = False := eq_false (by omega)
                            clear hlt hjj
                            go_wp2_with (fail)
                            exact ⟨⟨m + 1, I + 16, by have := hI.out; show I + 16 = 16 * (m + 1); omega, by go_num, HB⟩, Gcm.meas16 a2.size I HI.out⟩
                          · have jl : ((j : Int) < 16) = False := eq_false (by omega)
                            clear hlt hjj
                            go_wp2_with (fail)
                            exact ⟨⟨m + 1, I + 16, by have := hI.out; show I + 16 = 16 * (m + 1); omega, by go_num, HB⟩, Gcm.meas16 a2.size I HI.out⟩
                    · have il : ((I : Int) < (a2.size : Int)) = False := eq_false (by omega)
                      clear hlt
                      go_wp2_with (fail)
                      go_ret
                      exact ⟨rfl, HB.out⟩
          · have jl : ((j : Int) < 28) = False := eq_false (by omega)
            clear hlt hl
            go_wp2_with (fail)
            clear jl
            clear hc1 hc2 HK HN
            generalize wr = w3 at HR HB ⊢
            go_loopw [12] (fun v wx => ∃ (j : Nat) (X : Nat → Nat), Hid (j ≤ 12) ∧ v = .int .i64 j ∧ Hid (Lw.RowB wx g 28 X) ∧ Hid (∀ t, X t < 256) ∧ Hid (Below w.heap.size w wx)) (fun v _ => 12 - (intOf v).toNat)
            case atStart => exact ⟨0, X, Nat.zero_le _, rfl, HR, HX, HB⟩
            case round =>
              clear HR HB HX
              obtain ⟨l, Y, hl, rfl, HR, HX, HB⟩ := hrel
              by_cases hlt : l < 12 ∧ l < a1.size
              · have jl : ((l : Int) < 12) = True := eq_true (by omega)
                have js : ((l : Int) < (a1.size : Int)) = True := eq_true (by omega)
                have js' : (l : Int) < (a1.size : Int) := by omega
                have jn : l < a1.size := hlt.2
                have jm : (16 : Int) + (l : Int) < 28 := by omega
                have xc := World.rowIs.cell HR.out (i := 16 + l) (by omega)
                have xf := World.rowIs.frozen HR.out (16 + l)
                have v0 : ∀ h : l < a1.size, (a1[l]'h).toNat = Aes.byt a1 l := fun h => Aes.get_byt a1 _ h
                have HJ := Lib.hid hlt.1
                clear hlt
                go_wp2_with (fail)
                refine ⟨⟨l + 1, fun i => if i = 16 + l then Aes.byt a1 l else Y i, HJ.out, by go_num, HR.out.set (16 + l) _, fun t => ?_, HB.out.setCell HG.out _⟩, Lw.meas 12 l HJ.out⟩
                show (if t = 16 + l then _ else Y t) < 256
                split
                · exact Aes.byt_lt _ _
                · exact HX.out t
              · have hc1 := Lib.hid fun n => (HR.out.drewN n).text 0 16 28 (by decide)
                have hc2 := Lib.hid fun n => (HR.out.drewN n).text 16 12 12 (by decide)
                have HK : Hid ((Lw.pieceS Y 0 16).size = 16) := Lw.pieceS_size _ _ _
                have HN : Hid ((Lw.pieceS Y 16 12).size = 12) := Lw.pieceS_size _ _ _
                generalize Lw.pieceS Y 0 16 = K at hc1 HK
                generalize Lw.pieceS Y 16 12 = N at hc2 HN
                by_cases hll : l < 12
                · have jl : ((l : Int) < 12) = True := eq_true (by omega)
                  have js : ((l : Int) < (a1.size : Int)) = False := eq_false (by omega)
                  clear hlt hll
                  go_upto_region 17 with (fail)
                  clear jl js
                  have c1 := hc1.out
                  have c2 := hc2.out
                  go_quiet (fail)
                  have HB := Lib.hid (Lw.below_drewN HB.out nq)
                  clear c1 c2 hc1 hc2 HR HX
                  generalize wr.drewN nq = w2 at HB ⊢
                  go_wp2_with (fail)
                  refine (Gs.seal_fine K N ⟨#[]⟩ a2 _ (Or.inl HK.out) HN.out (by decide) (by have := HS.out; omega)).mono ?_
                  rintro e u ⟨rfl, hb⟩
                  have HB := Lib.hid (Lw.go_on HB.out hb)
                  clear hb
                  have HPt : Hid (∀ m j, j < 16 → 16 * m + j < a2.size → Aes.byt (Gcm.sealS K N ⟨#[]⟩ a2) (16 * m + j) = Aes.byt a2 (16 * m + j) ^^^ Aes.byt (Aes.encS K (N ++ Be.beS (2 + m) 4)) j) := fun m j hj h => Gcm.seal_part K N _ a2 m j hj h
                  have hc : (Gcm.sealS K N ⟨#[]⟩ a2).size = a2.size + 16 := Gcm.sealS_size K N _ a2
                  generalize Gcm.sealS K N ⟨#[]⟩ a2 = c at HPt hc ⊢
                  have sw : (a2.size : Int) ≤ 1000 := by have := HS.out; omega
                  go_wp2_with (go_at_call 15; refine (Lw.num_same _ _).mono ?_; rintro e u ⟨rfl, rfl⟩)
                  go_loopw [17] (fun v wx => ∃ (m I : Nat), Hid (I = 16 * m) ∧ v = .int .i64 I ∧ Hid (Below w.heap.size w wx)) (fun v _ => a2.size + 16 - (intOf v).toNat)
                  case atStart => exact ⟨0, 0, rfl, rfl, HB⟩
                  case round =>
                    clear HB
                    obtain ⟨m, I, hI, rfl, HB⟩ := hrel
                    by_cases hlt : I < a2.size
                    · have il : ((I : Int) < (a2.size : Int)) = True := eq_true (by omega)
                      have HI := Lib.hid hlt
                      have HM : Hid (m ≤ 62) := by have := hI.out; show m ≤ 62; omega
                      have e1 : (I : Int) / 16 = (m : Int) := by have := hI.out; omega
                      clear hlt
                      have m1 : (m : Int) ≤ 62 := by have := HM.out; omega
                      go_upto_region 25 with (fail)
                      clear m1
                      have e2 : (2 + (m : Int)) / 256 = 0 := by have := HM.out; omega
                      have e3 : IntKind.u8.wrap 0 = 0 := by decide
                      have e4 : bits .and .i64 (2 + (m : Int)) 255 = 2 + (m : Int) := by
                        have h := Lw.and_of (2 + (m : Int)) 255 (by decide)
                        rw [show (((2 + (m : Int)) % 18446744073709551616).toNat) = 2 + m by have := HM.out; omega, show (255 : Nat) = 2 ^ 8 - 1 from rfl, Nat.and_two_pow_sub_one_eq_mod, Nat.mod_eq_of_lt (by have := HM.out; omega)] at h
                        refine h.trans ?_; omega
                      have e5 : IntKind.u8.wrap (2 + (m : Int)) = ((2 + m : Nat) : Int) := by show (2 + (m : Int)) % 256 = _; have := HM.out; omega
                      have e6 : (2 + (m : Int)) % 256 = ((2 + m : Nat) : Int) := by have := HM.out; omega
                      have hcv := Gs.four_text wr (2 + m) (by have := HM.out; omega)
                      apply wp_region_lit
                      refine Lw.wpList_val rfl (.string K) wr (by go_simp) ?_
                      refine Lw.wpList_val rfl (.string N) wr (by go_simp) ?_
                      refine Lw.wpList_val rfl (.int .i64 (2 + (m : Int))) wr (by go_simp) ?_
                      refine Lw.wpList_val rfl (.int .i64 0) wr (by go_simp) ?_
                      refine Lw.wpList_val rfl (.int .u8 0) wr (by go_simp) ?_
                      refine Lw.wpList_val rfl (.int .i64 (2 + (m : Int))) wr (by go_simp) ?_
                      refine Lw.wpList_val rfl (.int .i64 (2 + (m : Int))) wr (by go_simp) ?_
                      refine Lw.wpList_val rfl (.int .u8 ((2 + m : Nat) : Int)) wr (by go_simp) ?_
                      generalize hD : wr.alloc (.cells #[.int .u8 0, .int .u8 0, .int .u8 0, .int .u8 ((2 + m : Nat) : Int)] 5) = w6 at hcv
                      refine Lw.wpList_val rfl (.slice (some ⟨wr.heap.size, 0, none⟩) 4 4) w6 (by rw [← hD]; generalize ((2 + m : Nat) : Int) = r; go_simp) ?_
                      have HB : Hid (Below w.heap.size w w6) := by rw [← hD]; exact HB.out.alloc HB.out.size _
                      clear hD e1 e2 e3 e4 e5 e6
                      have HF : Hid ((N ++ Be.beS (2 + m) 4).size = 16) := by show (N ++ Be.beS (2 + m) 4).size = 16; rw [ByteArray.size_append, HN.out, Gs.beS4_size _ (by have := HM.out; omega)]
                      have HP := Lib.hid fun j hj h => HPt.out m j hj h
                      generalize hG : N ++ Be.beS (2 + m) 4 = F at HF HP
                      have HT4 : Hid ((Be.beS (2 + m) 4).size = 4) := Gs.beS4_size _ (by have := HM.out; omega)
                      generalize Be.beS (2 + m) 4 = T4 at hcv hG HT4
                      generalize ((2 + m : Nat) : Int) = r
                      refine Lw.wpList_val rfl (.string T4) w6 (by go_simp) ?_
                      clear hcv
                      refine Lw.wpList_val rfl (.string F) w6 (by rw [← hG]; go_simp; have := HN.out; have := HT4.out; omega) ?_
                      simp only [Act.put, List.setIfInBounds_toArray, List.set_cons_zero, List.set_cons_succ]
                      go_wp2_with (fail)
                      refine (Gs.block_fine K F _ (Or.inl HK.out) HF.out).mono ?_
                      rintro e u6 ⟨rfl, hb⟩
                      have HB := Lib.hid (Lw.go_on HB.out hb)
                      clear hb
                      have hx : (Aes.encS K F).size = 16 := Aes.encS_size K F
                      generalize Aes.encS K F = x at HP hx ⊢
                      go_wp2_with (go_at_call 15; refine (Lw.num_same _ _).mono ?_; rintro e u ⟨rfl, rfl⟩)
                      go_loopw [21] (fun v wx => ∃ j : Nat, Hid (j ≤ 16) ∧ v = .int .i64 j ∧ Hid (Below w.heap.size w wx)) (fun v _ => 16 - (intOf v).toNat)
                      case atStart => exact ⟨0, Nat.zero_le _, rfl, HB⟩
                      case round =>
                        clear HB
                        obtain ⟨j, hj, rfl, HB⟩ := hrel
                        have jw : (j : Int) ≤ 16 := by have := hj.out; omega
                        have Iw : (I : Int) ≤ 1000 := by have := HI.out; omega
                        by_cases hlt : j < 16 ∧ I + j < a2.size
                        · have jl : ((j : Int) < 16) = True := eq_true (by omega)
                          have jl' : (j : Int) < 16 := by omega
                          have js : ((I : Int) + (j : Int) < (a2.size : Int)) = True := eq_true (by omega)
                          have HJ := Lib.hid hlt.1
                          have i1 : (I : Int) + (j : Int) < (c.size : Int) := by omega
                          have i2 : (I : Int) + (j : Int) < (a2.size : Int) := by omega
                          have i3 : (j : Int) < (x.size : Int) := by omega
                          have p1 : (0 : Int) ≤ (I : Int) + (j : Int) := by omega
                          have t1 : ((I : Int) + (j : Int)).toNat = I + j := by omega
                          have x0 : IntKind.i64.wrap ((I : Int) + (j : Int)) = (I : Int) + (j : Int) := IntWalk.i64_in _ (by omega)
                          have v1 : ∀ h : I + j < c.size, (c[I + j]'h).toNat = Aes.byt c (I + j) := fun h => Aes.get_byt c _ h
                          have v2 : ∀ h : I + j < a2.size, (a2[I + j]'h).toNat = Aes.byt a2 (I + j) := fun h => Aes.get_byt a2 _ h
                          have v3 : ∀ h : j < x.size, (x[j]'h).toNat = Aes.byt x j := fun h => Aes.get_byt x _ h
                          have o1 := Aes.u8_xor (Aes.byt a2 (I + j)) (Aes.byt x j) (Aes.byt_lt _ _) (Aes.byt_lt _ _)
                          have h1 := HP.out j hlt.1 (by have := hI.out; omega)
                          rw [← hI.out] at h1
                          rw [← h1] at o1
                          clear hlt h1
                          go_wp2_with (fail)
                          go_quiet (fail)
                          have HB := Lib.hid (Lw.below_drewN HB.out nq)
                          generalize wr.drewN nq = w7 at HB ⊢
                          clear v1 v2 v3 o1 i1 i2 i3 p1 t1 x0
                          go_wp2_with (fail)
                          exact ⟨⟨j + 1, HJ.out, by go_num, HB⟩, Lw.meas 16 j HJ.out⟩
                        · by_cases hjj : j < 16
                          · have jl : ((j : Int) < 16) = True := eq_true (by omega)
                            have js : ((I : Int) + (j : Int) < (a2.size : Int)) = False := eq_false (by omega)
                            clear hlt hjj
                            go_wp2_with (fail)
                            exact ⟨⟨m + 1, I + 16, by have := hI.out; show I + 16 = 16 * (m + 1); omega, by go_num, HB⟩, Gcm.meas16 a2.size I HI.out⟩
                          · have jl : ((j : Int) < 16) = False := eq_false (by omega)
                            clear hlt hjj
                            go_wp2_with (fail)
                            exact ⟨⟨m + 1, I + 16, by have := hI.out; show I + 16 = 16 * (m + 1); omega, by go_num, HB⟩, Gcm.meas16 a2.size I HI.out⟩
                    · have il : ((I : Int) < (a2.size : Int)) = False := eq_false (by omega)
                      clear hlt
                      go_wp2_with (fail)
                      go_ret
                      exact ⟨rfl, HB.out⟩
                · have jl : ((l : Int) < 12) = False := eq_false (by omega)
                  clear hlt hll
                  go_upto_region 17 with (fail)
                  clear jl
                  have c1 := hc1.out
                  have c2 := hc2.out
                  go_quiet (fail)
                  have HB := Lib.hid (Lw.below_drewN HB.out nq)
                  clear c1 c2 hc1 hc2 HR HX
                  generalize wr.drewN nq = w2 at HB ⊢
                  go_wp2_with (fail)
                  refine (Gs.seal_fine K N ⟨#[]⟩ a2 _ (Or.inl HK.out) HN.out (by decide) (by have := HS.out; omega)).mono ?_
                  rintro e u ⟨rfl, hb⟩
                  have HB := Lib.hid (Lw.go_on HB.out hb)
                  clear hb
                  have HPt : Hid (∀ m j, j < 16 → 16 * m + j < a2.size → Aes.byt (Gcm.sealS K N ⟨#[]⟩ a2) (16 * m + j) = Aes.byt a2 (16 * m + j) ^^^ Aes.byt (Aes.encS K (N ++ Be.beS (2 + m) 4)) j) := fun m j hj h => Gcm.seal_part K N _ a2 m j hj h
                  have hc : (Gcm.sealS K N ⟨#[]⟩ a2).size = a2.size + 16 := Gcm.sealS_size K N _ a2
                  generalize Gcm.sealS K N ⟨#[]⟩ a2 = c at HPt hc ⊢
                  have sw : (a2.size : Int) ≤ 1000 := by have := HS.out; omega
                  go_wp2_with (go_at_call 15; refine (Lw.num_same _ _).mono ?_; rintro e u ⟨rfl, rfl⟩)
                  go_loopw [17] (fun v wx => ∃ (m I : Nat), Hid (I = 16 * m) ∧ v = .int .i64 I ∧ Hid (Below w.heap.size w wx)) (fun v _ => a2.size + 16 - (intOf v).toNat)
                  case atStart => exact ⟨0, 0, rfl, rfl, HB⟩
                  case round =>
                    clear HB
                    obtain ⟨m, I, hI, rfl, HB⟩ := hrel
                    by_cases hlt : I < a2.size
                    · have il : ((I : Int) < (a2.size : Int)) = True := eq_true (by omega)
                      have HI := Lib.hid hlt
                      have HM : Hid (m ≤ 62) := by have := hI.out; show m ≤ 62; omega
                      have e1 : (I : Int) / 16 = (m : Int) := by have := hI.out; omega
                      clear hlt
                      have m1 : (m : Int) ≤ 62 := by have := HM.out; omega
                      go_upto_region 25 with (fail)
                      clear m1
                      have e2 : (2 + (m : Int)) / 256 = 0 := by have := HM.out; omega
                      have e3 : IntKind.u8.wrap 0 = 0 := by decide
                      have e4 : bits .and .i64 (2 + (m : Int)) 255 = 2 + (m : Int) := by
                        have h := Lw.and_of (2 + (m : Int)) 255 (by decide)
                        rw [show (((2 + (m : Int)) % 18446744073709551616).toNat) = 2 + m by have := HM.out; omega, show (255 : Nat) = 2 ^ 8 - 1 from rfl, Nat.and_two_pow_sub_one_eq_mod, Nat.mod_eq_of_lt (by have := HM.out; omega)] at h
                        refine h.trans ?_; omega
                      have e5 : IntKind.u8.wrap (2 + (m : Int)) = ((2 + m : Nat) : Int) := by show (2 + (m : Int)) % 256 = _; have := HM.out; omega
                      have e6 : (2 + (m : Int)) % 256 = ((2 + m : Nat) : Int) := by have := HM.out; omega
                      have hcv := Gs.four_text wr (2 + m) (by have := HM.out; omega)
                      apply wp_region_lit
                      refine Lw.wpList_val rfl (.string K) wr (by go_simp) ?_
                      refine Lw.wpList_val rfl (.string N) wr (by go_simp) ?_
                      refine Lw.wpList_val rfl (.int .i64 (2 + (m : Int))) wr (by go_simp) ?_
                      refine Lw.wpList_val rfl (.int .i64 0) wr (by go_simp) ?_
                      refine Lw.wpList_val rfl (.int .u8 0) wr (by go_simp) ?_
                      refine Lw.wpList_val rfl (.int .i64 (2 + (m : Int))) wr (by go_simp) ?_
                      refine Lw.wpList_val rfl (.int .i64 (2 + (m : Int))) wr (by go_simp) ?_
                      refine Lw.wpList_val rfl (.int .u8 ((2 + m : Nat) : Int)) wr (by go_simp) ?_
                      generalize hD : wr.alloc (.cells #[.int .u8 0, .int .u8 0, .int .u8 0, .int .u8 ((2 + m : Nat) : Int)] 5) = w6 at hcv
                      refine Lw.wpList_val rfl (.slice (some ⟨wr.heap.size, 0, none⟩) 4 4) w6 (by rw [← hD]; generalize ((2 + m : Nat) : Int) = r; go_simp) ?_
                      have HB : Hid (Below w.heap.size w w6) := by rw [← hD]; exact HB.out.alloc HB.out.size _
                      clear hD e1 e2 e3 e4 e5 e6
                      have HF : Hid ((N ++ Be.beS (2 + m) 4).size = 16) := by show (N ++ Be.beS (2 + m) 4).size = 16; rw [ByteArray.size_append, HN.out, Gs.beS4_size _ (by have := HM.out; omega)]
                      have HP := Lib.hid fun j hj h => HPt.out m j hj h
                      generalize hG : N ++ Be.beS (2 + m) 4 = F at HF HP
                      have HT4 : Hid ((Be.beS (2 + m) 4).size = 4) := Gs.beS4_size _ (by have := HM.out; omega)
                      generalize Be.beS (2 + m) 4 = T4 at hcv hG HT4
                      generalize ((2 + m : Nat) : Int) = r
                      refine Lw.wpList_val rfl (.string T4) w6 (by go_simp) ?_
                      clear hcv
                      refine Lw.wpList_val rfl (.string F) w6 (by rw [← hG]; go_simp; have := HN.out; have := HT4.out; omega) ?_
                      simp only [Act.put, List.setIfInBounds_toArray, List.set_cons_zero, List.set_cons_succ]
                      go_wp2_with (fail)
                      refine (Gs.block_fine K F _ (Or.inl HK.out) HF.out).mono ?_
                      rintro e u6 ⟨rfl, hb⟩
                      have HB := Lib.hid (Lw.go_on HB.out hb)
                      clear hb
                      have hx : (Aes.encS K F).size = 16 := Aes.encS_size K F
                      generalize Aes.encS K F = x at HP hx ⊢
                      go_wp2_with (go_at_call 15; refine (Lw.num_same _ _).mono ?_; rintro e u ⟨rfl, rfl⟩)
                      go_loopw [21] (fun v wx => ∃ j : Nat, Hid (j ≤ 16) ∧ v = .int .i64 j ∧ Hid (Below w.heap.size w wx)) (fun v _ => 16 - (intOf v).toNat)
                      case atStart => exact ⟨0, Nat.zero_le _, rfl, HB⟩
                      case round =>
                        clear HB
                        obtain ⟨j, hj, rfl, HB⟩ := hrel
                        have jw : (j : Int) ≤ 16 := by have := hj.out; omega
                        have Iw : (I : Int) ≤ 1000 := by have := HI.out; omega
                        by_cases hlt : j < 16 ∧ I + j < a2.size
                        · have jl : ((j : Int) < 16) = True := eq_true (by omega)
                          have jl' : (j : Int) < 16 := by omega
                          have js : ((I : Int) + (j : Int) < (a2.size : Int)) = True := eq_true (by omega)
                          have HJ := Lib.hid hlt.1
                          have i1 : (I : Int) + (j : Int) < (c.size : Int) := by omega
                          have i2 : (I : Int) + (j : Int) < (a2.size : Int) := by omega
                          have i3 : (j : Int) < (x.size : Int) := by omega
                          have p1 : (0 : Int) ≤ (I : Int) + (j : Int) := by omega
                          have t1 : ((I : Int) + (j : Int)).toNat = I + j := by omega
                          have x0 : IntKind.i64.wrap ((I : Int) + (j : Int)) = (I : Int) + (j : Int) := IntWalk.i64_in _ (by omega)
                          have v1 : ∀ h : I + j < c.size, (c[I + j]'h).toNat = Aes.byt c (I + j) := fun h => Aes.get_byt c _ h
                          have v2 : ∀ h : I + j < a2.size, (a2[I + j]'h).toNat = Aes.byt a2 (I + j) := fun h => Aes.get_byt a2 _ h
                          have v3 : ∀ h : j < x.size, (x[j]'h).toNat = Aes.byt x j := fun h => Aes.get_byt x _ h
                          have o1 := Aes.u8_xor (Aes.byt a2 (I + j)) (Aes.byt x j) (Aes.byt_lt _ _) (Aes.byt_lt _ _)
                          have h1 := HP.out j hlt.1 (by have := hI.out; omega)
                          rw [← hI.out] at h1
                          rw [← h1] at o1
                          clear hlt h1
                          go_wp2_with (fail)
                          go_quiet (fail)
                          have HB := Lib.hid (Lw.below_drewN HB.out nq)
                          generalize wr.drewN nq = w7 at HB ⊢
                          clear v1 v2 v3 o1 i1 i2 i3 p1 t1 x0
                          go_wp2_with (fail)
                          exact ⟨⟨j + 1, HJ.out, by go_num, HB⟩, Lw.meas 16 j HJ.out⟩
                        · by_cases hjj : j < 16
                          · have jl : ((j : Int) < 16) = True := eq_true (by omega)
                            have js : ((I : Int) + (j : Int) < (a2.size : Int)) = False := eq_false (by omega)
                            clear hlt hjj
                            go_wp2_with (fail)
                            exact ⟨⟨m + 1, I + 16, by have := hI.out; show I + 16 = 16 * (m + 1); omega, by go_num, HB⟩, Gcm.meas16 a2.size I HI.out⟩
                          · have jl : ((j : Int) < 16) = False := eq_false (by omega)
                            clear hlt hjj
                            go_wp2_with (fail)
                            exact ⟨⟨m + 1, I + 16, by have := hI.out; show I + 16 = 16 * (m + 1); omega, by go_num, HB⟩, Gcm.meas16 a2.size I HI.out⟩
                    · have il : ((I : Int) < (a2.size : Int)) = False := eq_false (by omega)
                      clear hlt
                      go_wp2_with (fail)
                      go_ret
                      exact ⟨rfl, HB.out⟩
    · obtain ⟨M, hM, hMc, hmk0⟩ := Lw.zeros 44 (by decide)
      have hmk : ∀ W : World, (Instr.makeSlice 32 (.int .i64 44) (.int .i64 44)).run Try.prog W = .ok (.slice (some ⟨W.heap.size, 0, none⟩) 44 44) (W.alloc (.cells M 5)) := hmk0
      have HM := Lib.hid hM
      have HMc := Lib.hid hMc
      clear hmk0 hM hMc
      go_enter Try.func6, Try.ntmps6
      go_wp2_with (fail)
      refine (Gs.awake5_any _).mono ?_
      rintro e u ⟨rfl, hb⟩
      have HB := Lib.hid (Lw.go_on HB.out hb)
      clear hb
      go_wp2_with (fail)
      have HR : Hid (Lw.RowB (u.alloc (.cells M 5)) u.heap.size 44 (fun _ => 0)) := Lw.rowB_new u M 44 HM.out HMc.out
      have HG : Hid (w.heap.size ≤ u.heap.size) := HB.out.size
      have HB : Hid (Below w.heap.size w (u.alloc (.cells M 5))) := HB.out.alloc HG.out _
      clear hmk HM HMc
      generalize u.heap.size = g at HR HG ⊢
      generalize u.alloc (.cells M 5) = w1 at HR HB ⊢
      go_loopw [11] (fun v wx => ∃ (j : Nat) (X : Nat → Nat), Hid (j ≤ 44) ∧ v = .int .i64 j ∧ Hid (Lw.RowB wx g 44 X) ∧ Hid (∀ t, X t < 256) ∧ Hid (Below w.heap.size w wx)) (fun v _ => 44 - (intOf v).toNat)
      case atStart => exact ⟨0, fun _ => 0, Nat.zero_le _, rfl, HR, fun _ => by show 0 < 256; decide, HB⟩
      case round =>
        clear HR HB
        obtain ⟨j, X, hj, rfl, HR, HX, HB⟩ := hrel
        by_cases hlt : j < 44 ∧ j < a0.size
        · have jl : ((j : Int) < 44) = True := eq_true (by omega)
          have jl' : (j : Int) < 44 := by omega
          have js : ((j : Int) < (a0.size : Int)) = True := eq_true (by omega)
          have js' : (j : Int) < (a0.size : Int) := by omega
          have jn : j < a0.size := hlt.2
          have xc := World.rowIs.cell HR.out (i := j) hlt.1
          have xf := World.rowIs.frozen HR.out j
          have v0 : ∀ h : j < a0.size, (a0[j]'h).toNat = Aes.byt a0 j := fun h => Aes.get_byt a0 _ h
          have HJ := Lib.hid hlt.1
          clear hlt
          go_wp2_with (fail)
          refine ⟨⟨j + 1, fun i => if i = j then Aes.byt a0 j else X i, HJ.out, by go_num, HR.out.set j _, fun t => ?_, HB.out.setCell HG.out _⟩, Lw.meas 44 j HJ.out⟩
          show (if t = j then _ else X t) < 256
          split
          · exact Aes.byt_lt _ _
          · exact HX.out t
        · have hc1 := Lib.hid fun n => (HR.out.drewN n).text 0 32 44 (by decide)
          have hc2 := Lib.hid fun n => (HR.out.drewN n).text 32 12 12 (by decide)
          have HK : Hid ((Lw.pieceS X 0 32).size = 32) := Lw.pieceS_size _ _ _
          have HN : Hid ((Lw.pieceS X 32 12).size = 12) := Lw.pieceS_size _ _ _
          generalize Lw.pieceS X 0 32 = K at hc1 HK
          generalize Lw.pieceS X 32 12 = N at hc2 HN
          by_cases hl : j < 44
          · have jl : ((j : Int) < 44) = True := eq_true (by omega)
            have js : ((j : Int) < (a0.size : Int)) = False := eq_false (by omega)
            clear hlt hl
            go_wp2_with (fail)
            clear jl js
            clear hc1 hc2 HK HN
            generalize wr = w3 at HR HB ⊢
            go_loopw [12] (fun v wx => ∃ (j : Nat) (X : Nat → Nat), Hid (j ≤ 12) ∧ v = .int .i64 j ∧ Hid (Lw.RowB wx g 44 X) ∧ Hid (∀ t, X t < 256) ∧ Hid (Below w.heap.size w wx)) (fun v _ => 12 - (intOf v).toNat)
            case atStart => exact ⟨0, X, Nat.zero_le _, rfl, HR, HX, HB⟩
            case round =>
              clear HR HB HX
              obtain ⟨l, Y, hl, rfl, HR, HX, HB⟩ := hrel
              by_cases hlt : l < 12 ∧ l < a1.size
              · have jl : ((l : Int) < 12) = True := eq_true (by omega)
                have js : ((l : Int) < (a1.size : Int)) = True := eq_true (by omega)
                have js' : (l : Int) < (a1.size : Int) := by omega
                have jn : l < a1.size := hlt.2
                have jm : (32 : Int) + (l : Int) < 44 := by omega
                have xc := World.rowIs.cell HR.out (i := 32 + l) (by omega)
                have xf := World.rowIs.frozen HR.out (32 + l)
                have v0 : ∀ h : l < a1.size, (a1[l]'h).toNat = Aes.byt a1 l := fun h => Aes.get_byt a1 _ h
                have HJ := Lib.hid hlt.1
                clear hlt
                go_wp2_with (fail)
                refine ⟨⟨l + 1, fun i => if i = 32 + l then Aes.byt a1 l else Y i, HJ.out, by go_num, HR.out.set (32 + l) _, fun t => ?_, HB.out.setCell HG.out _⟩, Lw.meas 12 l HJ.out⟩
                show (if t = 32 + l then _ else Y t) < 256
                split
                · exact Aes.byt_lt _ _
                · exact HX.out t
              · have hc1 := Lib.hid fun n => (HR.out.drewN n).text 0 32 44 (by decide)
                have hc2 := Lib.hid fun n => (HR.out.drewN n).text 32 12 12 (by decide)
                have HK : Hid ((Lw.pieceS Y 0 32).size = 32) := Lw.pieceS_size _ _ _
                have HN : Hid ((Lw.pieceS Y 32 12).size = 12) := Lw.pieceS_size _ _ _
                generalize Lw.pieceS Y 0 32 = K at hc1 HK
                generalize Lw.pieceS Y 32 12 = N at hc2 HN
                by_cases hll : l < 12
                · have jl : ((l : Int) < 12) = True := eq_true (by omega)
                  have js : ((l : Int) < (a1.size : Int)) = False := eq_false (by omega)
                  clear hlt hll
                  go_upto_region 17 with (fail)
                  clear jl js
                  have c1 := hc1.out
                  have c2 := hc2.out
                  go_quiet (fail)
                  have HB := Lib.hid (Lw.below_drewN HB.out nq)
                  clear c1 c2 hc1 hc2 HR HX
                  generalize wr.drewN nq = w2 at HB ⊢
                  go_wp2_with (fail)
                  refine (Gs.seal_fine K N ⟨#[]⟩ a2 _ (Or.inr HK.out) HN.out (by decide) (by have := HS.out; omega)).mono ?_
                  rintro e u ⟨rfl, hb⟩
                  have HB := Lib.hid (Lw.go_on HB.out hb)
                  clear hb
                  have HPt : Hid (∀ m j, j < 16 → 16 * m + j < a2.size → Aes.byt (Gcm.sealS K N ⟨#[]⟩ a2) (16 * m + j) = Aes.byt a2 (16 * m + j) ^^^ Aes.byt (Aes.encS K (N ++ Be.beS (2 + m) 4)) j) := fun m j hj h => Gcm.seal_part K N _ a2 m j hj h
                  have hc : (Gcm.sealS K N ⟨#[]⟩ a2).size = a2.size + 16 := Gcm.sealS_size K N _ a2
                  generalize Gcm.sealS K N ⟨#[]⟩ a2 = c at HPt hc ⊢
                  have sw : (a2.size : Int) ≤ 1000 := by have := HS.out; omega
                  go_wp2_with (go_at_call 15; refine (Lw.num_same _ _).mono ?_; rintro e u ⟨rfl, rfl⟩)
                  go_loopw [17] (fun v wx => ∃ (m I : Nat), Hid (I = 16 * m) ∧ v = .int .i64 I ∧ Hid (Below w.heap.size w wx)) (fun v _ => a2.size + 16 - (intOf v).toNat)
                  case atStart => exact ⟨0, 0, rfl, rfl, HB⟩
                  case round =>
                    clear HB
                    obtain ⟨m, I, hI, rfl, HB⟩ := hrel
                    by_cases hlt : I < a2.size
                    · have il : ((I : Int) < (a2.size : Int)) = True := eq_true (by omega)
                      have HI := Lib.hid hlt
                      have HM : Hid (m ≤ 62) := by have := hI.out; show m ≤ 62; omega
                      have e1 : (I : Int) / 16 = (m : Int) := by have := hI.out; omega
                      clear hlt
                      have m1 : (m : Int) ≤ 62 := by have := HM.out; omega
                      go_upto_region 25 with (fail)
                      clear m1
                      have e2 : (2 + (m : Int)) / 256 = 0 := by have := HM.out; omega
                      have e3 : IntKind.u8.wrap 0 = 0 := by decide
                      have e4 : bits .and .i64 (2 + (m : Int)) 255 = 2 + (m : Int) := by
                        have h := Lw.and_of (2 + (m : Int)) 255 (by decide)
                        rw [show (((2 + (m : Int)) % 18446744073709551616).toNat) = 2 + m by have := HM.out; omega, show (255 : Nat) = 2 ^ 8 - 1 from rfl, Nat.and_two_pow_sub_one_eq_mod, Nat.mod_eq_of_lt (by have := HM.out; omega)] at h
                        refine h.trans ?_; omega
                      have e5 : IntKind.u8.wrap (2 + (m : Int)) = ((2 + m : Nat) : Int) := by show (2 + (m : Int)) % 256 = _; have := HM.out; omega
                      have e6 : (2 + (m : Int)) % 256 = ((2 + m : Nat) : Int) := by have := HM.out; omega
                      have hcv := Gs.four_text wr (2 + m) (by have := HM.out; omega)
                      apply wp_region_lit
                      refine Lw.wpList_val rfl (.string K) wr (by go_simp) ?_
                      refine Lw.wpList_val rfl (.string N) wr (by go_simp) ?_
                      refine Lw.wpList_val rfl (.int .i64 (2 + (m : Int))) wr (by go_simp) ?_
                      refine Lw.wpList_val rfl (.int .i64 0) wr (by go_simp) ?_
                      refine Lw.wpList_val rfl (.int .u8 0) wr (by go_simp) ?_
                      refine Lw.wpList_val rfl (.int .i64 (2 + (m : Int))) wr (by go_simp) ?_
                      refine Lw.wpList_val rfl (.int .i64 (2 + (m : Int))) wr (by go_simp) ?_
                      refine Lw.wpList_val rfl (.int .u8 ((2 + m : Nat) : Int)) wr (by go_simp) ?_
                      generalize hD : wr.alloc (.cells #[.int .u8 0, .int .u8 0, .int .u8 0, .int .u8 ((2 + m : Nat) : Int)] 5) = w6 at hcv
                      refine Lw.wpList_val rfl (.slice (some ⟨wr.heap.size, 0, none⟩) 4 4) w6 (by rw [← hD]; generalize ((2 + m : Nat) : Int) = r; go_simp) ?_
                      have HB : Hid (Below w.heap.size w w6) := by rw [← hD]; exact HB.out.alloc HB.out.size _
                      clear hD e1 e2 e3 e4 e5 e6
                      have HF : Hid ((N ++ Be.beS (2 + m) 4).size = 16) := by show (N ++ Be.beS (2 + m) 4).size = 16; rw [ByteArray.size_append, HN.out, Gs.beS4_size _ (by have := HM.out; omega)]
                      have HP := Lib.hid fun j hj h => HPt.out m j hj h
                      generalize hG : N ++ Be.beS (2 + m) 4 = F at HF HP
                      have HT4 : Hid ((Be.beS (2 + m) 4).size = 4) := Gs.beS4_size _ (by have := HM.out; omega)
                      generalize Be.beS (2 + m) 4 = T4 at hcv hG HT4
                      generalize ((2 + m : Nat) : Int) = r
                      refine Lw.wpList_val rfl (.string T4) w6 (by go_simp) ?_
                      clear hcv
                      refine Lw.wpList_val rfl (.string F) w6 (by rw [← hG]; go_simp; have := HN.out; have := HT4.out; omega) ?_
                      simp only [Act.put, List.setIfInBounds_toArray, List.set_cons_zero, List.set_cons_succ]
                      go_wp2_with (fail)
                      refine (Gs.block_fine K F _ (Or.inr HK.out) HF.out).mono ?_
                      rintro e u6 ⟨rfl, hb⟩
                      have HB := Lib.hid (Lw.go_on HB.out hb)
                      clear hb
                      have hx : (Aes.encS K F).size = 16 := Aes.encS_size K F
                      generalize Aes.encS K F = x at HP hx ⊢
                      go_wp2_with (go_at_call 15; refine (Lw.num_same _ _).mono ?_; rintro e u ⟨rfl, rfl⟩)
                      go_loopw [21] (fun v wx => ∃ j : Nat, Hid (j ≤ 16) ∧ v = .int .i64 j ∧ Hid (Below w.heap.size w wx)) (fun v _ => 16 - (intOf v).toNat)
                      case atStart => exact ⟨0, Nat.zero_le _, rfl, HB⟩
                      case round =>
                        clear HB
                        obtain ⟨j, hj, rfl, HB⟩ := hrel
                        have jw : (j : Int) ≤ 16 := by have := hj.out; omega
                        have Iw : (I : Int) ≤ 1000 := by have := HI.out; omega
                        by_cases hlt : j < 16 ∧ I + j < a2.size
                        · have jl : ((j : Int) < 16) = True := eq_true (by omega)
                          have jl' : (j : Int) < 16 := by omega
                          have js : ((I : Int) + (j : Int) < (a2.size : Int)) = True := eq_true (by omega)
                          have HJ := Lib.hid hlt.1
                          have i1 : (I : Int) + (j : Int) < (c.size : Int) := by omega
                          have i2 : (I : Int) + (j : Int) < (a2.size : Int) := by omega
                          have i3 : (j : Int) < (x.size : Int) := by omega
                          have p1 : (0 : Int) ≤ (I : Int) + (j : Int) := by omega
                          have t1 : ((I : Int) + (j : Int)).toNat = I + j := by omega
                          have x0 : IntKind.i64.wrap ((I : Int) + (j : Int)) = (I : Int) + (j : Int) := IntWalk.i64_in _ (by omega)
                          have v1 : ∀ h : I + j < c.size, (c[I + j]'h).toNat = Aes.byt c (I + j) := fun h => Aes.get_byt c _ h
                          have v2 : ∀ h : I + j < a2.size, (a2[I + j]'h).toNat = Aes.byt a2 (I + j) := fun h => Aes.get_byt a2 _ h
                          have v3 : ∀ h : j < x.size, (x[j]'h).toNat = Aes.byt x j := fun h => Aes.get_byt x _ h
                          have o1 := Aes.u8_xor (Aes.byt a2 (I + j)) (Aes.byt x j) (Aes.byt_lt _ _) (Aes.byt_lt _ _)
                          have h1 := HP.out j hlt.1 (by have := hI.out; omega)
                          rw [← hI.out] at h1
                          rw [← h1] at o1
                          clear hlt h1
                          go_wp2_with (fail)
                          go_quiet (fail)
                          have HB := Lib.hid (Lw.below_drewN HB.out nq)
                          generalize wr.drewN nq = w7 at HB ⊢
                          clear v1 v2 v3 o1 i1 i2 i3 p1 t1 x0
                          go_wp2_with (fail)
                          exact ⟨⟨j + 1, HJ.out, by go_num, HB⟩, Lw.meas 16 j HJ.out⟩
                        · by_cases hjj : j < 16
                          · have jl : ((j : Int) < 16) = True := eq_true (by omega)
                            have js : ((I : Int) + (j : Int) < (a2.size : Int)) = False := eq_false (by omega)
                            clear hlt hjj
                            go_wp2_with (fail)
                            exact ⟨⟨m + 1, I + 16, by have := hI.out; show I + 16 = 16 * (m + 1); omega, by go_num, HB⟩, Gcm.meas16 a2.size I HI.out⟩
                          · have jl : ((j : Int) < 16) = False := eq_false (by omega)
                            clear hlt hjj
                            go_wp2_with (fail)
                            exact ⟨⟨m + 1, I + 16, by have := hI.out; show I + 16 = 16 * (m + 1); omega, by go_num, HB⟩, Gcm.meas16 a2.size I HI.out⟩
                    · have il : ((I : Int) < (a2.size : Int)) = False := eq_false (by omega)
                      clear hlt
                      go_wp2_with (fail)
                      go_ret
                      exact ⟨rfl, HB.out⟩
                · have jl : ((l : Int) < 12) = False := eq_false (by omega)
                  clear hlt hll
                  go_upto_region 17 with (fail)
                  clear jl
                  have c1 := hc1.out
                  have c2 := hc2.out
                  go_quiet (fail)
                  have HB := Lib.hid (Lw.below_drewN HB.out nq)
                  clear c1 c2 hc1 hc2 HR HX
                  generalize wr.drewN nq = w2 at HB ⊢
                  go_wp2_with (fail)
                  refine (Gs.seal_fine K N ⟨#[]⟩ a2 _ (Or.inr HK.out) HN.out (by decide) (by have := HS.out; omega)).mono ?_
                  rintro e u ⟨rfl, hb⟩
                  have HB := Lib.hid (Lw.go_on HB.out hb)
                  clear hb
                  have HPt : Hid (∀ m j, j < 16 → 16 * m + j < a2.size → Aes.byt (Gcm.sealS K N ⟨#[]⟩ a2) (16 * m + j) = Aes.byt a2 (16 * m + j) ^^^ Aes.byt (Aes.encS K (N ++ Be.beS (2 + m) 4)) j) := fun m j hj h => Gcm.seal_part K N _ a2 m j hj h
                  have hc : (Gcm.sealS K N ⟨#[]⟩ a2).size = a2.size + 16 := Gcm.sealS_size K N _ a2
                  generalize Gcm.sealS K N ⟨#[]⟩ a2 = c at HPt hc ⊢
                  have sw : (a2.size : Int) ≤ 1000 := by have := HS.out; omega
                  go_wp2_with (go_at_call 15; refine (Lw.num_same _ _).mono ?_; rintro e u ⟨rfl, rfl⟩)
                  go_loopw [17] (fun v wx => ∃ (m I : Nat), Hid (I = 16 * m) ∧ v = .int .i64 I ∧ Hid (Below w.heap.size w wx)) (fun v _ => a2.size + 16 - (intOf v).toNat)
                  case atStart => exact ⟨0, 0, rfl, rfl, HB⟩
                  case round =>
                    clear HB
                    obtain ⟨m, I, hI, rfl, HB⟩ := hrel
                    by_cases hlt : I < a2.size
                    · have il : ((I : Int) < (a2.size : Int)) = True := eq_true (by omega)
                      have HI := Lib.hid hlt
                      have HM : Hid (m ≤ 62) := by have := hI.out; show m ≤ 62; omega
                      have e1 : (I : Int) / 16 = (m : Int) := by have := hI.out; omega
                      clear hlt
                      have m1 : (m : Int) ≤ 62 := by have := HM.out; omega
                      go_upto_region 25 with (fail)
                      clear m1
                      have e2 : (2 + (m : Int)) / 256 = 0 := by have := HM.out; omega
                      have e3 : IntKind.u8.wrap 0 = 0 := by decide
                      have e4 : bits .and .i64 (2 + (m : Int)) 255 = 2 + (m : Int) := by
                        have h := Lw.and_of (2 + (m : Int)) 255 (by decide)
                        rw [show (((2 + (m : Int)) % 18446744073709551616).toNat) = 2 + m by have := HM.out; omega, show (255 : Nat) = 2 ^ 8 - 1 from rfl, Nat.and_two_pow_sub_one_eq_mod, Nat.mod_eq_of_lt (by have := HM.out; omega)] at h
                        refine h.trans ?_; omega
                      have e5 : IntKind.u8.wrap (2 + (m : Int)) = ((2 + m : Nat) : Int) := by show (2 + (m : Int)) % 256 = _; have := HM.out; omega
                      have e6 : (2 + (m : Int)) % 256 = ((2 + m : Nat) : Int) := by have := HM.out; omega
                      have hcv := Gs.four_text wr (2 + m) (by have := HM.out; omega)
                      apply wp_region_lit
                      refine Lw.wpList_val rfl (.string K) wr (by go_simp) ?_
                      refine Lw.wpList_val rfl (.string N) wr (by go_simp) ?_
                      refine Lw.wpList_val rfl (.int .i64 (2 + (m : Int))) wr (by go_simp) ?_
                      refine Lw.wpList_val rfl (.int .i64 0) wr (by go_simp) ?_
                      refine Lw.wpList_val rfl (.int .u8 0) wr (by go_simp) ?_
                      refine Lw.wpList_val rfl (.int .i64 (2 + (m : Int))) wr (by go_simp) ?_
                      refine Lw.wpList_val rfl (.int .i64 (2 + (m : Int))) wr (by go_simp) ?_
                      refine Lw.wpList_val rfl (.int .u8 ((2 + m : Nat) : Int)) wr (by go_simp) ?_
                      generalize hD : wr.alloc (.cells #[.int .u8 0, .int .u8 0, .int .u8 0, .int .u8 ((2 + m : Nat) : Int)] 5) = w6 at hcv
                      refine Lw.wpList_val rfl (.slice (some ⟨wr.heap.size, 0, none⟩) 4 4) w6 (by rw [← hD]; generalize ((2 + m : Nat) : Int) = r; go_simp) ?_
                      have HB : Hid (Below w.heap.size w w6) := by rw [← hD]; exact HB.out.alloc HB.out.size _
                      clear hD e1 e2 e3 e4 e5 e6
                      have HF : Hid ((N ++ Be.beS (2 + m) 4).size = 16) := by show (N ++ Be.beS (2 + m) 4).size = 16; rw [ByteArray.size_append, HN.out, Gs.beS4_size _ (by have := HM.out; omega)]
                      have HP := Lib.hid fun j hj h => HPt.out m j hj h
                      generalize hG : N ++ Be.beS (2 + m) 4 = F at HF HP
                      have HT4 : Hid ((Be.beS (2 + m) 4).size = 4) := Gs.beS4_size _ (by have := HM.out; omega)
                      generalize Be.beS (2 + m) 4 = T4 at hcv hG HT4
                      generalize ((2 + m : Nat) : Int) = r
                      refine Lw.wpList_val rfl (.string T4) w6 (by go_simp) ?_
                      clear hcv
                      refine Lw.wpList_val rfl (.string F) w6 (by rw [← hG]; go_simp; have := HN.out; have := HT4.out; omega) ?_
                      simp only [Act.put, List.setIfInBounds_toArray, List.set_cons_zero, List.set_cons_succ]
                      go_wp2_with (fail)
                      refine (Gs.block_fine K F _ (Or.inr HK.out) HF.out).mono ?_
                      rintro e u6 ⟨rfl, hb⟩
                      have HB := Lib.hid (Lw.go_on HB.out hb)
                      clear hb
                      have hx : (Aes.encS K F).size = 16 := Aes.encS_size K F
                      generalize Aes.encS K F = x at HP hx ⊢
                      go_wp2_with (go_at_call 15; refine (Lw.num_same _ _).mono ?_; rintro e u ⟨rfl, rfl⟩)
                      go_loopw [21] (fun v wx => ∃ j : Nat, Hid (j ≤ 16) ∧ v = .int .i64 j ∧ Hid (Below w.heap.size w wx)) (fun v _ => 16 - (intOf v).toNat)
                      case atStart => exact ⟨0, Nat.zero_le _, rfl, HB⟩
                      case round =>
                        clear HB
                        obtain ⟨j, hj, rfl, HB⟩ := hrel
                        have jw : (j : Int) ≤ 16 := by have := hj.out; omega
                        have Iw : (I : Int) ≤ 1000 := by have := HI.out; omega
                        by_cases hlt : j < 16 ∧ I + j < a2.size
                        · have jl : ((j : Int) < 16) = True := eq_true (by omega)
                          have jl' : (j : Int) < 16 := by omega
                          have js : ((I : Int) + (j : Int) < (a2.size : Int)) = True := eq_true (by omega)
                          have HJ := Lib.hid hlt.1
                          have i1 : (I : Int) + (j : Int) < (c.size : Int) := by omega
                          have i2 : (I : Int) + (j : Int) < (a2.size : Int) := by omega
                          have i3 : (j : Int) < (x.size : Int) := by omega
                          have p1 : (0 : Int) ≤ (I : Int) + (j : Int) := by omega
                          have t1 : ((I : Int) + (j : Int)).toNat = I + j := by omega
                          have x0 : IntKind.i64.wrap ((I : Int) + (j : Int)) = (I : Int) + (j : Int) := IntWalk.i64_in _ (by omega)
                          have v1 : ∀ h : I + j < c.size, (c[I + j]'h).toNat = Aes.byt c (I + j) := fun h => Aes.get_byt c _ h
                          have v2 : ∀ h : I + j < a2.size, (a2[I + j]'h).toNat = Aes.byt a2 (I + j) := fun h => Aes.get_byt a2 _ h
                          have v3 : ∀ h : j < x.size, (x[j]'h).toNat = Aes.byt x j := fun h => Aes.get_byt x _ h
                          have o1 := Aes.u8_xor (Aes.byt a2 (I + j)) (Aes.byt x j) (Aes.byt_lt _ _) (Aes.byt_lt _ _)
                          have h1 := HP.out j hlt.1 (by have := hI.out; omega)
                          rw [← hI.out] at h1
                          rw [← h1] at o1
                          clear hlt h1
                          go_wp2_with (fail)
                          go_quiet (fail)
                          have HB := Lib.hid (Lw.below_drewN HB.out nq)
                          generalize wr.drewN nq = w7 at HB ⊢
                          clear v1 v2 v3 o1 i1 i2 i3 p1 t1 x0
                          go_wp2_with (fail)
                          exact ⟨⟨j + 1, HJ.out, by go_num, HB⟩, Lw.meas 16 j HJ.out⟩
                        · by_cases hjj : j < 16
                          · have jl : ((j : Int) < 16) = True := eq_true (by omega)
                            have js : ((I : Int) + (j : Int) < (a2.size : Int)) = False := eq_false (by omega)
                            clear hlt hjj
                            go_wp2_with (fail)
                            exact ⟨⟨m + 1, I + 16, by have := hI.out; show I + 16 = 16 * (m + 1); omega, by go_num, HB⟩, Gcm.meas16 a2.size I HI.out⟩
                          · have jl : ((j : Int) < 16) = False := eq_false (by omega)
                            clear hlt hjj
                            go_wp2_with (fail)
                            exact ⟨⟨m + 1, I + 16, by have := hI.out; show I + 16 = 16 * (m + 1); omega, by go_num, HB⟩, Gcm.meas16 a2.size I HI.out⟩
                    · have il : ((I : Int) < (a2.size : Int)) = False := eq_false (by omega)
                      clear hlt
                      go_wp2_with (fail)
                      go_ret
                      exact ⟨rfl, HB.out⟩
          · have jl : ((j : Int) < 44) = False := eq_false (by omega)
            clear hlt hl
            go_wp2_with (fail)
            clear jl
            clear hc1 hc2 HK HN
            generalize wr = w3 at HR HB ⊢
            go_loopw [12] (fun v wx => ∃ (j : Nat) (X : Nat → Nat), Hid (j ≤ 12) ∧ v = .int .i64 j ∧ Hid (Lw.RowB wx g 44 X) ∧ Hid (∀ t, X t < 256) ∧ Hid (Below w.heap.size w wx)) (fun v _ => 12 - (intOf v).toNat)
            case atStart => exact ⟨0, X, Nat.zero_le _, rfl, HR, HX, HB⟩
            case round =>
              clear HR HB HX
              obtain ⟨l, Y, hl, rfl, HR, HX, HB⟩ := hrel
              by_cases hlt : l < 12 ∧ l < a1.size
              · have jl : ((l : Int) < 12) = True := eq_true (by omega)
                have js : ((l : Int) < (a1.size : Int)) = True := eq_true (by omega)
                have js' : (l : Int) < (a1.size : Int) := by omega
                have jn : l < a1.size := hlt.2
                have jm : (32 : Int) + (l : Int) < 44 := by omega
                have xc := World.rowIs.cell HR.out (i := 32 + l) (by omega)
                have xf := World.rowIs.frozen HR.out (32 + l)
                have v0 : ∀ h : l < a1.size, (a1[l]'h).toNat = Aes.byt a1 l := fun h => Aes.get_byt a1 _ h
                have HJ := Lib.hid hlt.1
                clear hlt
                go_wp2_with (fail)
                refine ⟨⟨l + 1, fun i => if i = 32 + l then Aes.byt a1 l else Y i, HJ.out, by go_num, HR.out.set (32 + l) _, fun t => ?_, HB.out.setCell HG.out _⟩, Lw.meas 12 l HJ.out⟩
                show (if t = 32 + l then _ else Y t) < 256
                split
                · exact Aes.byt_lt _ _
                · exact HX.out t
              · have hc1 := Lib.hid fun n => (HR.out.drewN n).text 0 32 44 (by decide)
                have hc2 := Lib.hid fun n => (HR.out.drewN n).text 32 12 12 (by decide)
                have HK : Hid ((Lw.pieceS Y 0 32).size = 32) := Lw.pieceS_size _ _ _
                have HN : Hid ((Lw.pieceS Y 32 12).size = 12) := Lw.pieceS_size _ _ _
                generalize Lw.pieceS Y 0 32 = K at hc1 HK
                generalize Lw.pieceS Y 32 12 = N at hc2 HN
                by_cases hll : l < 12
                · have jl : ((l : Int) < 12) = True := eq_true (by omega)
                  have js : ((l : Int) < (a1.size : Int)) = False := eq_false (by omega)
                  clear hlt hll
                  go_upto_region 17 with (fail)
                  clear jl js
                  have c1 := hc1.out
                  have c2 := hc2.out
                  go_quiet (fail)
                  have HB := Lib.hid (Lw.below_drewN HB.out nq)
                  clear c1 c2 hc1 hc2 HR HX
                  generalize wr.drewN nq = w2 at HB ⊢
                  go_wp2_with (fail)
                  refine (Gs.seal_fine K N ⟨#[]⟩ a2 _ (Or.inr HK.out) HN.out (by decide) (by have := HS.out; omega)).mono ?_
                  rintro e u ⟨rfl, hb⟩
                  have HB := Lib.hid (Lw.go_on HB.out hb)
                  clear hb
                  have HPt : Hid (∀ m j, j < 16 → 16 * m + j < a2.size → Aes.byt (Gcm.sealS K N ⟨#[]⟩ a2) (16 * m + j) = Aes.byt a2 (16 * m + j) ^^^ Aes.byt (Aes.encS K (N ++ Be.beS (2 + m) 4)) j) := fun m j hj h => Gcm.seal_part K N _ a2 m j hj h
                  have hc : (Gcm.sealS K N ⟨#[]⟩ a2).size = a2.size + 16 := Gcm.sealS_size K N _ a2
                  generalize Gcm.sealS K N ⟨#[]⟩ a2 = c at HPt hc ⊢
                  have sw : (a2.size : Int) ≤ 1000 := by have := HS.out; omega
                  go_wp2_with (go_at_call 15; refine (Lw.num_same _ _).mono ?_; rintro e u ⟨rfl, rfl⟩)
                  go_loopw [17] (fun v wx => ∃ (m I : Nat), Hid (I = 16 * m) ∧ v = .int .i64 I ∧ Hid (Below w.heap.size w wx)) (fun v _ => a2.size + 16 - (intOf v).toNat)
                  case atStart => exact ⟨0, 0, rfl, rfl, HB⟩
                  case round =>
                    clear HB
                    obtain ⟨m, I, hI, rfl, HB⟩ := hrel
                    by_cases hlt : I < a2.size
                    · have il : ((I : Int) < (a2.size : Int)) = True := eq_true (by omega)
                      have HI := Lib.hid hlt
                      have HM : Hid (m ≤ 62) := by have := hI.out; show m ≤ 62; omega
                      have e1 : (I : Int) / 16 = (m : Int) := by have := hI.out; omega
                      clear hlt
                      have m1 : (m : Int) ≤ 62 := by have := HM.out; omega
                      go_upto_region 25 with (fail)
                      clear m1
                      have e2 : (2 + (m : Int)) / 256 = 0 := by have := HM.out; omega
                      have e3 : IntKind.u8.wrap 0 = 0 := by decide
                      have e4 : bits .and .i64 (2 + (m : Int)) 255 = 2 + (m : Int) := by
                        have h := Lw.and_of (2 + (m : Int)) 255 (by decide)
                        rw [show (((2 + (m : Int)) % 18446744073709551616).toNat) = 2 + m by have := HM.out; omega, show (255 : Nat) = 2 ^ 8 - 1 from rfl, Nat.and_two_pow_sub_one_eq_mod, Nat.mod_eq_of_lt (by have := HM.out; omega)] at h
                        refine h.trans ?_; omega
                      have e5 : IntKind.u8.wrap (2 + (m : Int)) = ((2 + m : Nat) : Int) := by show (2 + (m : Int)) % 256 = _; have := HM.out; omega
                      have e6 : (2 + (m : Int)) % 256 = ((2 + m : Nat) : Int) := by have := HM.out; omega
                      have hcv := Gs.four_text wr (2 + m) (by have := HM.out; omega)
                      apply wp_region_lit
                      refine Lw.wpList_val rfl (.string K) wr (by go_simp) ?_
                      refine Lw.wpList_val rfl (.string N) wr (by go_simp) ?_
                      refine Lw.wpList_val rfl (.int .i64 (2 + (m : Int))) wr (by go_simp) ?_
                      refine Lw.wpList_val rfl (.int .i64 0) wr (by go_simp) ?_
                      refine Lw.wpList_val rfl (.int .u8 0) wr (by go_simp) ?_
                      refine Lw.wpList_val rfl (.int .i64 (2 + (m : Int))) wr (by go_simp) ?_
                      refine Lw.wpList_val rfl (.int .i64 (2 + (m : Int))) wr (by go_simp) ?_
                      refine Lw.wpList_val rfl (.int .u8 ((2 + m : Nat) : Int)) wr (by go_simp) ?_
                      generalize hD : wr.alloc (.cells #[.int .u8 0, .int .u8 0, .int .u8 0, .int .u8 ((2 + m : Nat) : Int)] 5) = w6 at hcv
                      refine Lw.wpList_val rfl (.slice (some ⟨wr.heap.size, 0, none⟩) 4 4) w6 (by rw [← hD]; generalize ((2 + m : Nat) : Int) = r; go_simp) ?_
                      have HB : Hid (Below w.heap.size w w6) := by rw [← hD]; exact HB.out.alloc HB.out.size _
                      clear hD e1 e2 e3 e4 e5 e6
                      have HF : Hid ((N ++ Be.beS (2 + m) 4).size = 16) := by show (N ++ Be.beS (2 + m) 4).size = 16; rw [ByteArray.size_append, HN.out, Gs.beS4_size _ (by have := HM.out; omega)]
                      have HP := Lib.hid fun j hj h => HPt.out m j hj h
                      generalize hG : N ++ Be.beS (2 + m) 4 = F at HF HP
                      have HT4 : Hid ((Be.beS (2 + m) 4).size = 4) := Gs.beS4_size _ (by have := HM.out; omega)
                      generalize Be.beS (2 + m) 4 = T4 at hcv hG HT4
                      generalize ((2 + m : Nat) : Int) = r
                      refine Lw.wpList_val rfl (.string T4) w6 (by go_simp) ?_
                      clear hcv
                      refine Lw.wpList_val rfl (.string F) w6 (by rw [← hG]; go_simp; have := HN.out; have := HT4.out; omega) ?_
                      simp only [Act.put, List.setIfInBounds_toArray, List.set_cons_zero, List.set_cons_succ]
                      go_wp2_with (fail)
                      refine (Gs.block_fine K F _ (Or.inr HK.out) HF.out).mono ?_
                      rintro e u6 ⟨rfl, hb⟩
                      have HB := Lib.hid (Lw.go_on HB.out hb)
                      clear hb
                      have hx : (Aes.encS K F).size = 16 := Aes.encS_size K F
                      generalize Aes.encS K F = x at HP hx ⊢
                      go_wp2_with (go_at_call 15; refine (Lw.num_same _ _).mono ?_; rintro e u ⟨rfl, rfl⟩)
                      go_loopw [21] (fun v wx => ∃ j : Nat, Hid (j ≤ 16) ∧ v = .int .i64 j ∧ Hid (Below w.heap.size w wx)) (fun v _ => 16 - (intOf v).toNat)
                      case atStart => exact ⟨0, Nat.zero_le _, rfl, HB⟩
                      case round =>
                        clear HB
                        obtain ⟨j, hj, rfl, HB⟩ := hrel
                        have jw : (j : Int) ≤ 16 := by have := hj.out; omega
                        have Iw : (I : Int) ≤ 1000 := by have := HI.out; omega
                        by_cases hlt : j < 16 ∧ I + j < a2.size
                        · have jl : ((j : Int) < 16) = True := eq_true (by omega)
                          have jl' : (j : Int) < 16 := by omega
                          have js : ((I : Int) + (j : Int) < (a2.size : Int)) = True := eq_true (by omega)
                          have HJ := Lib.hid hlt.1
                          have i1 : (I : Int) + (j : Int) < (c.size : Int) := by omega
                          have i2 : (I : Int) + (j : Int) < (a2.size : Int) := by omega
                          have i3 : (j : Int) < (x.size : Int) := by omega
                          have p1 : (0 : Int) ≤ (I : Int) + (j : Int) := by omega
                          have t1 : ((I : Int) + (j : Int)).toNat = I + j := by omega
                          have x0 : IntKind.i64.wrap ((I : Int) + (j : Int)) = (I : Int) + (j : Int) := IntWalk.i64_in _ (by omega)
                          have v1 : ∀ h : I + j < c.size, (c[I + j]'h).toNat = Aes.byt c (I + j) := fun h => Aes.get_byt c _ h
                          have v2 : ∀ h : I + j < a2.size, (a2[I + j]'h).toNat = Aes.byt a2 (I + j) := fun h => Aes.get_byt a2 _ h
                          have v3 : ∀ h : j < x.size, (x[j]'h).toNat = Aes.byt x j := fun h => Aes.get_byt x _ h
                          have o1 := Aes.u8_xor (Aes.byt a2 (I + j)) (Aes.byt x j) (Aes.byt_lt _ _) (Aes.byt_lt _ _)
                          have h1 := HP.out j hlt.1 (by have := hI.out; omega)
                          rw [← hI.out] at h1
                          rw [← h1] at o1
                          clear hlt h1
                          go_wp2_with (fail)
                          go_quiet (fail)
                          have HB := Lib.hid (Lw.below_drewN HB.out nq)
                          generalize wr.drewN nq = w7 at HB ⊢
                          clear v1 v2 v3 o1 i1 i2 i3 p1 t1 x0
                          go_wp2_with (fail)
                          exact ⟨⟨j + 1, HJ.out, by go_num, HB⟩, Lw.meas 16 j HJ.out⟩
                        · by_cases hjj : j < 16
                          · have jl : ((j : Int) < 16) = True := eq_true (by omega)
                            have js : ((I : Int) + (j : Int) < (a2.size : Int)) = False := eq_false (by omega)
                            clear hlt hjj
                            go_wp2_with (fail)
                            exact ⟨⟨m + 1, I + 16, by have := hI.out; show I + 16 = 16 * (m + 1); omega, by go_num, HB⟩, Gcm.meas16 a2.size I HI.out⟩
                          · have jl : ((j : Int) < 16) = False := eq_false (by omega)
                            clear hlt hjj
                            go_wp2_with (fail)
                            exact ⟨⟨m + 1, I + 16, by have := hI.out; show I + 16 = 16 * (m + 1); omega, by go_num, HB⟩, Gcm.meas16 a2.size I HI.out⟩
                    · have il : ((I : Int) < (a2.size : Int)) = False := eq_false (by omega)
                      clear hlt
                      go_wp2_with (fail)
                      go_ret
                      exact ⟨rfl, HB.out⟩
                · have jl : ((l : Int) < 12) = False := eq_false (by omega)
                  clear hlt hll
                  go_upto_region 17 with (fail)
                  clear jl
                  have c1 := hc1.out
                  have c2 := hc2.out
                  go_quiet (fail)
                  have HB := Lib.hid (Lw.below_drewN HB.out nq)
                  clear c1 c2 hc1 hc2 HR HX
                  generalize wr.drewN nq = w2 at HB ⊢
                  go_wp2_with (fail)
                  refine (Gs.seal_fine K N ⟨#[]⟩ a2 _ (Or.inr HK.out) HN.out (by decide) (by have := HS.out; omega)).mono ?_
                  rintro e u ⟨rfl, hb⟩
                  have HB := Lib.hid (Lw.go_on HB.out hb)
                  clear hb
                  have HPt : Hid (∀ m j, j < 16 → 16 * m + j < a2.size → Aes.byt (Gcm.sealS K N ⟨#[]⟩ a2) (16 * m + j) = Aes.byt a2 (16 * m + j) ^^^ Aes.byt (Aes.encS K (N ++ Be.beS (2 + m) 4)) j) := fun m j hj h => Gcm.seal_part K N _ a2 m j hj h
                  have hc : (Gcm.sealS K N ⟨#[]⟩ a2).size = a2.size + 16 := Gcm.sealS_size K N _ a2
                  generalize Gcm.sealS K N ⟨#[]⟩ a2 = c at HPt hc ⊢
                  have sw : (a2.size : Int) ≤ 1000 := by have := HS.out; omega
                  go_wp2_with (go_at_call 15; refine (Lw.num_same _ _).mono ?_; rintro e u ⟨rfl, rfl⟩)
                  go_loopw [17] (fun v wx => ∃ (m I : Nat), Hid (I = 16 * m) ∧ v = .int .i64 I ∧ Hid (Below w.heap.size w wx)) (fun v _ => a2.size + 16 - (intOf v).toNat)
                  case atStart => exact ⟨0, 0, rfl, rfl, HB⟩
                  case round =>
                    clear HB
                    obtain ⟨m, I, hI, rfl, HB⟩ := hrel
                    by_cases hlt : I < a2.size
                    · have il : ((I : Int) < (a2.size : Int)) = True := eq_true (by omega)
                      have HI := Lib.hid hlt
                      have HM : Hid (m ≤ 62) := by have := hI.out; show m ≤ 62; omega
                      have e1 : (I : Int) / 16 = (m : Int) := by have := hI.out; omega
                      clear hlt
                      have m1 : (m : Int) ≤ 62 := by have := HM.out; omega
                      go_upto_region 25 with (fail)
                      clear m1
                      have e2 : (2 + (m : Int)) / 256 = 0 := by have := HM.out; omega
                      have e3 : IntKind.u8.wrap 0 = 0 := by decide
                      have e4 : bits .and .i64 (2 + (m : Int)) 255 = 2 + (m : Int) := by
                        have h := Lw.and_of (2 + (m : Int)) 255 (by decide)
                        rw [show (((2 + (m : Int)) % 18446744073709551616).toNat) = 2 + m by have := HM.out; omega, show (255 : Nat) = 2 ^ 8 - 1 from rfl, Nat.and_two_pow_sub_one_eq_mod, Nat.mod_eq_of_lt (by have := HM.out; omega)] at h
                        refine h.trans ?_; omega
                      have e5 : IntKind.u8.wrap (2 + (m : Int)) = ((2 + m : Nat) : Int) := by show (2 + (m : Int)) % 256 = _; have := HM.out; omega
                      have e6 : (2 + (m : Int)) % 256 = ((2 + m : Nat) : Int) := by have := HM.out; omega
                      have hcv := Gs.four_text wr (2 + m) (by have := HM.out; omega)
                      apply wp_region_lit
                      refine Lw.wpList_val rfl (.string K) wr (by go_simp) ?_
                      refine Lw.wpList_val rfl (.string N) wr (by go_simp) ?_
                      refine Lw.wpList_val rfl (.int .i64 (2 + (m : Int))) wr (by go_simp) ?_
                      refine Lw.wpList_val rfl (.int .i64 0) wr (by go_simp) ?_
                      refine Lw.wpList_val rfl (.int .u8 0) wr (by go_simp) ?_
                      refine Lw.wpList_val rfl (.int .i64 (2 + (m : Int))) wr (by go_simp) ?_
                      refine Lw.wpList_val rfl (.int .i64 (2 + (m : Int))) wr (by go_simp) ?_
                      refine Lw.wpList_val rfl (.int .u8 ((2 + m : Nat) : Int)) wr (by go_simp) ?_
                      generalize hD : wr.alloc (.cells #[.int .u8 0, .int .u8 0, .int .u8 0, .int .u8 ((2 + m : Nat) : Int)] 5) = w6 at hcv
                      refine Lw.wpList_val rfl (.slice (some ⟨wr.heap.size, 0, none⟩) 4 4) w6 (by rw [← hD]; generalize ((2 + m : Nat) : Int) = r; go_simp) ?_
                      have HB : Hid (Below w.heap.size w w6) := by rw [← hD]; exact HB.out.alloc HB.out.size _
                      clear hD e1 e2 e3 e4 e5 e6
                      have HF : Hid ((N ++ Be.beS (2 + m) 4).size = 16) := by show (N ++ Be.beS (2 + m) 4).size = 16; rw [ByteArray.size_append, HN.out, Gs.beS4_size _ (by have := HM.out; omega)]
                      have HP := Lib.hid fun j hj h => HPt.out m j hj h
                      generalize hG : N ++ Be.beS (2 + m) 4 = F at HF HP
                      have HT4 : Hid ((Be.beS (2 + m) 4).size = 4) := Gs.beS4_size _ (by have := HM.out; omega)
                      generalize Be.beS (2 + m) 4 = T4 at hcv hG HT4
                      generalize ((2 + m : Nat) : Int) = r
                      refine Lw.wpList_val rfl (.string T4) w6 (by go_simp) ?_
                      clear hcv
                      refine Lw.wpList_val rfl (.string F) w6 (by rw [← hG]; go_simp; have := HN.out; have := HT4.out; omega) ?_
                      simp only [Act.put, List.setIfInBounds_toArray, List.set_cons_zero, List.set_cons_succ]
                      go_wp2_with (fail)
                      refine (Gs.block_fine K F _ (Or.inr HK.out) HF.out).mono ?_
                      rintro e u6 ⟨rfl, hb⟩
                      have HB := Lib.hid (Lw.go_on HB.out hb)
                      clear hb
                      have hx : (Aes.encS K F).size = 16 := Aes.encS_size K F
                      generalize Aes.encS K F = x at HP hx ⊢
                      go_wp2_with (go_at_call 15; refine (Lw.num_same _ _).mono ?_; rintro e u ⟨rfl, rfl⟩)
                      go_loopw [21] (fun v wx => ∃ j : Nat, Hid (j ≤ 16) ∧ v = .int .i64 j ∧ Hid (Below w.heap.size w wx)) (fun v _ => 16 - (intOf v).toNat)
                      case atStart => exact ⟨0, Nat.zero_le _, rfl, HB⟩
                      case round =>
                        clear HB
                        obtain ⟨j, hj, rfl, HB⟩ := hrel
                        have jw : (j : Int) ≤ 16 := by have := hj.out; omega
                        have Iw : (I : Int) ≤ 1000 := by have := HI.out; omega
                        by_cases hlt : j < 16 ∧ I + j < a2.size
                        · have jl : ((j : Int) < 16) = True := eq_true (by omega)
                          have jl' : (j : Int) < 16 := by omega
                          have js : ((I : Int) + (j : Int) < (a2.size : Int)) = True := eq_true (by omega)
                          have HJ := Lib.hid hlt.1
                          have i1 : (I : Int) + (j : Int) < (c.size : Int) := by omega
                          have i2 : (I : Int) + (j : Int) < (a2.size : Int) := by omega
                          have i3 : (j : Int) < (x.size : Int) := by omega
                          have p1 : (0 : Int) ≤ (I : Int) + (j : Int) := by omega
                          have t1 : ((I : Int) + (j : Int)).toNat = I + j := by omega
                          have x0 : IntKind.i64.wrap ((I : Int) + (j : Int)) = (I : Int) + (j : Int) := IntWalk.i64_in _ (by omega)
                          have v1 : ∀ h : I + j < c.size, (c[I + j]'h).toNat = Aes.byt c (I + j) := fun h => Aes.get_byt c _ h
                          have v2 : ∀ h : I + j < a2.size, (a2[I + j]'h).toNat = Aes.byt a2 (I + j) := fun h => Aes.get_byt a2 _ h
                          have v3 : ∀ h : j < x.size, (x[j]'h).toNat = Aes.byt x j := fun h => Aes.get_byt x _ h
                          have o1 := Aes.u8_xor (Aes.byt a2 (I + j)) (Aes.byt x j) (Aes.byt_lt _ _) (Aes.byt_lt _ _)
                          have h1 := HP.out j hlt.1 (by have := hI.out; omega)
                          rw [← hI.out] at h1
                          rw [← h1] at o1
                          clear hlt h1
                          go_wp2_with (fail)
                          go_quiet (fail)
                          have HB := Lib.hid (Lw.below_drewN HB.out nq)
                          generalize wr.drewN nq = w7 at HB ⊢
                          clear v1 v2 v3 o1 i1 i2 i3 p1 t1 x0
                          go_wp2_with (fail)
                          exact ⟨⟨j + 1, HJ.out, by go_num, HB⟩, Lw.meas 16 j HJ.out⟩
                        · by_cases hjj : j < 16
                          · have jl : ((j : Int) < 16) = True := eq_true (by omega)
                            have js : ((I : Int) + (j : Int) < (a2.size : Int)) = False := eq_false (by omega)
                            clear hlt hjj
                            go_wp2_with (fail)
                            exact ⟨⟨m + 1, I + 16, by have := hI.out; show I + 16 = 16 * (m + 1); omega, by go_num, HB⟩, Gcm.meas16 a2.size I HI.out⟩
                          · have jl : ((j : Int) < 16) = False := eq_false (by omega)
                            clear hlt hjj
                            go_wp2_with (fail)
                            exact ⟨⟨m + 1, I + 16, by have := hI.out; show I + 16 = 16 * (m + 1); omega, by go_num, HB⟩, Gcm.meas16 a2.size I HI.out⟩
                    · have il : ((I : Int) < (a2.size : Int)) = False := eq_false (by omega)
                      clear hlt
                      go_wp2_with (fail)
                      go_ret
                      exact ⟨rfl, HB.out⟩

set_option maxRecDepth 100000 in
theorem lifted (os : Os) (started : os.Started) (H : Type) (enc : TypeId × Value → H) :
    ReturnsInHanded {} Try.checked os 6 .any (Rows.gcmPartsSpec.pre6 enc Try.prog Try.f6 Rows.gcmPartsRow.domain false) (Rows.gcmPartsSpec.post enc Try.prog Try.f6 false true false false) := by
  refine returnsInHanded_of_change (C := Try.checked) own started (by kernel_rfl) Try.func6
    (ChangeSpec.witness6 (enc := enc) (C := Try.checked) false ⟨#[], #[.string ByteArray.empty, .string ByteArray.empty, .string ByteArray.empty, .bool false], []⟩ 8 (by kernel_rfl) (by kernel_rfl) (by kernel_rfl) (by kernel_rfl)) ?_
  intro W base args ds gs before hval0 hW hcnd _
  have hval : ∀ (j : Nat) t v, Try.f6.params[j]? = some t → args[j]? = some v → Value.okWide Try.prog W .any base t v := hval0
  have hW' := hW
  obtain ⟨p, q, hA0, hV, rfl, hfz, hnd⟩ := hW
  have hA : DataW.TrodAll enc Try.prog W 0 (fun _ => true) true Try.f6.params.toList args.toList ds p := hA0
  rw [Try.params6] at hA hval
  obtain ⟨v0, vs0, d0, ds0, p0, q0, hargs, rfl, rfl, h0, r0⟩ := trodAll_cons hA
  obtain ⟨v1, vs1, d1, ds1, p1, q1, rfl, rfl, rfl, h1, r1⟩ := trodAll_cons r0
  obtain ⟨v2, vs2, d2, ds2, p2, q2, rfl, rfl, rfl, h2, r2⟩ := trodAll_cons r1
  obtain ⟨v3, vs3, d3, ds3, p3, q3, rfl, rfl, rfl, h3, r3⟩ := trodAll_cons r2
  obtain ⟨rfl, rfl, rfl⟩ := trodAll_nil r3
  obtain rfl : args = #[v0, v1, v2, v3] := by cases args; simp_all
  obtain ⟨rfl, rfl⟩ := trodVars_none hV
  obtain ⟨a0, rfl, rfl, rfl, w0⟩ := open_string Try.underlying9 (hval 0 9 v0 rfl rfl) h0
  obtain ⟨a1, rfl, rfl, rfl, w1⟩ := open_string Try.underlying9 (hval 1 9 v1 rfl rfl) h1
  obtain ⟨a2, rfl, rfl, rfl, w2⟩ := open_string Try.underlying9 (hval 2 9 v2 rfl rfl) h2
  obtain ⟨a3, rfl, rfl, rfl⟩ := open_bool Try.underlying4 (hval 3 4 v3 rfl rfl) h3
  clear hA0 hval0
  simp only [List.append_nil] at hW'
  refine (walk a0 a1 a2 a3 w0 w1 w2 W).mono fun e W' ⟨he, bel⟩ => ?_
  subst he
  exact ⟨_, rfl, _, _, _, [], [], [], hW', trodAll_mk1 (shut_bool Try.underlying4 _), (trodAll_cons_mk (shut_string Try.underlying9 w0) (trodAll_cons_mk (shut_string Try.underlying9 w1) (trodAll_cons_mk (shut_string Try.underlying9 w2) (trodAll_cons_mk (shut_bool Try.underlying4 _) trodAll_mk0)))), rfl, bel.frame _, fun h => by cases h⟩

theorem over : Rows.gcmPartsRow.holds Try.pinned (OpenSpec.ofChange Rows.gcmPartsSpec) :=
  OpenClaim.holds_of_wide 6 Try.f6 rfl rfl rfl rfl rfl rfl rfl ⟨rfl, rfl, rfl, rfl, rfl⟩ rfl rfl rfl rfl rfl (by kernel_rfl) Try.func6 (by kernel_rfl)
    (of_decide_eq_true (by kernel_rfl)) (by unfold Func.isWrapper; first | (rw [if_pos (by decide +kernel)]; kernel_rfl) | (rw [if_neg (by decide +kernel)]; exact ⟨rfl, rfl⟩))
    (fun os started H enc _ => lifted os started H enc)

theorem proved : Rows.GcmPartsSaid :=
  over
#print axioms proved
end Go.Proofs.Ytfjodabkfjfcbaa.gcmParts
