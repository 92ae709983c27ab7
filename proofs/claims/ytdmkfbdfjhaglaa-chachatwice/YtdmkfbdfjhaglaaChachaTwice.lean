/-
  Proved: halberdlaw6.ChachaTwice answers true at every input: the stream added twice is as nothing, a text in parts at a block's end is the text in one, the number goes round. Conditions: none but the row's.
-/
import Derived.Test.YtdmkfbdfjhaglaaCdG
import Derived.Test.YtdmkfbdfjhaglaaRows
import Derived.WalkKit
import Derived.ProofKit
import Derived.OpenShut
import Derived.ShutString
import Derived.Below
import Derived.ChangeOld
namespace Go.Proofs.Ytdmkfbdfjhaglaa.chachaTwice
open Go.ChangeShapes Go.WideShapes Go.ChangeAt Go.RowKit
open Go.ChangeMaps (open_string shut_string)
set_option linter.unusedVariables false

theorem own : ownKnob Try.prog.godebug = none := by kernel_rfl

set_option maxHeartbeats 4000000 in
set_option maxRecDepth 100000 in
theorem walk (a0 : ByteArray) (a1 : Int) (a2 : ByteArray) (a3 : Int) (_w0 : a0.size ≤ maxLen) (_w1 : (Lit.int .i64 a1).wf = true) (_w2 : a2.size ≤ maxLen) (_w3 : (Lit.int .i64 a3).wf = true) (w : World) :
    Calls Try.prog 4 #[.string a0, .int .i64 a1, .string a2, .int .i64 a3] w fun e w' => e = .returned (.bool true) ∧ Below w.heap.size w w' := by
  have HB : Hid (Below w.heap.size w w) := Below.refl _ _
  clear _w0 _w1 _w2 _w3
  by_cases hs : 3000 < a2.size
  · have e3 : ((3000 : Int) < (a2.size : Int)) = True := eq_true (by omega)
    clear hs
    go_enter Try.func4, Try.ntmps4
    go_wp2_with (first | (go_at_call 11; refine (Lw.num_same _ _).mono ?_; rintro e u ⟨rfl, rfl⟩) | (go_at_call 12; refine (Cd.awake6_any _).mono ?_; rintro e u ⟨rfl, hb⟩; have HB := Lib.hid (Lw.go_on HB.out hb); clear hb))
    go_ret
    exact ⟨rfl, HB.out⟩
  · have e3 : ((3000 : Int) < (a2.size : Int)) = False := eq_false (by omega)
    have HS : Hid (a2.size ≤ 3000) := by show a2.size ≤ 3000; omega
    clear hs
    obtain ⟨M, hM, hMc, hmk0⟩ := Lw.zeros 44 (by decide)
    have hmk : ∀ W : World, (Instr.makeSlice 32 (.int .i64 44) (.int .i64 44)).run Try.prog W = .ok (.slice (some ⟨W.heap.size, 0, none⟩) 44 44) (W.alloc (.cells M 5)) := hmk0
    have HM := Lib.hid hM
    have HMc := Lib.hid hMc
    clear hmk0 hM hMc
    go_enter Try.func4, Try.ntmps4
    go_wp2_with (fail)
    refine (Cd.awake6_any _).mono ?_
    rintro e u ⟨rfl, hb⟩
    have HB := Lib.hid (Lw.go_on HB.out hb)
    clear hb
    go_wp2_with (fail)
    have HR : Hid (Lw.RowB (u.alloc (.cells M 5)) u.heap.size 44 (fun _ => 0)) := Lw.rowB_new u M 44 HM.out HMc.out
    have HG : Hid (w.heap.size ≤ u.heap.size) := HB.out.size
    have HB : Hid (Below w.heap.size w (u.alloc (.cells M 5))) := HB.out.alloc HG.out _
    clear hmk HM HMc
    generalize u.heap.size = g at HR HG ⊢
    generalize u.alloc (.cells M 5) = w1 at HR HB ⊢
    go_loopw [10] (fun v wx => ∃ (j : Nat) (X : Nat → Nat), Hid (j ≤ 44) ∧ v = .int .i64 j ∧ Hid (Lw.RowB wx g 44 X) ∧ Hid (∀ t, X t < 256) ∧ Hid (Below w.heap.size w wx)) (fun v _ => 44 - (intOf v).toNat)
    case atStart => exact ⟨0, fun _ => 0, Nat.zero_le _, rfl, HR, fun _ => by show 0 < 256; decide, HB⟩
    case round =>
      clear HR HB
      obtain ⟨j, X, hj, rfl, HR, HX, HB⟩ := hrel
      by_cases hlt : j < 44 ∧ j < a0.size
      · have jl : ((j : Int) < 44) = True := eq_true (by omega)
        have jl' : (j : Int) < 44 := by omega
        have js : ((j : Int) < (a0.size : Int)) = True := eq_true (by omega)
        have js' : (j : Int) < (a0.size : Int) := by omega
        have jn : j < a0.size := hlt.2
        have xc := World.rowIs.cell HR.out (i := j) hlt.1
        have xf := World.rowIs.frozen HR.out j
        have v0 : ∀ h : j < a0.size, (a0[j]'h).toNat = Aes.byt a0 j := fun h => Aes.get_byt a0 _ h
        have HJ := Lib.hid hlt.1
        clear hlt
        go_wp2_with (fail)
        refine ⟨⟨j + 1, fun i => if i = j then Aes.byt a0 j else X i, HJ.out, by go_num, HR.out.set j _, fun t => ?_, HB.out.setCell HG.out _⟩, Lw.meas 44 j HJ.out⟩
        show (if t = j then _ else X t) < 256
        split
        · exact Aes.byt_lt _ _
        · exact HX.out t
      · have hc1 := Lib.hid fun n => (HR.out.drewN n).text 0 32 44 (by decide)
        have hc2 := Lib.hid fun n => (HR.out.drewN n).text 32 12 12 (by decide)
        have HK : Hid ((Lw.pieceS X 0 32).size = 32) := Lw.pieceS_size _ _ _
        have HN : Hid ((Lw.pieceS X 32 12).size = 12) := Lw.pieceS_size _ _ _
        generalize Lw.pieceS X 0 32 = K at hc1 HK
        generalize Lw.pieceS X 32 12 = N at hc2 HN
        by_cases hl : j < 44
        · have jl : ((j : Int) < 44) = True := eq_true (by omega)
          have js : ((j : Int) < (a0.size : Int)) = False := eq_false (by omega)
          clear hlt hl
          go_upto_region 10 with (fail)
          clear jl js
          have c1 := hc1.out
          have c2 := hc2.out
          go_quiet (fail)
          have HB := Lib.hid (Lw.below_drewN HB.out nq)
          clear c1 c2 hc1 hc2 HR HX
          generalize wr.drewN nq = w2 at HB ⊢
          obtain ⟨k, hk, hmk1⟩ := Cd.maskN32 a1
          have HKl : Hid (k < 4294967296) := by show k < 4294967296; omega
          clear hk
          go_wp2_with (fail)
          refine (Cd.xor_fine K k N a2 _ HK.out HN.out HKl.out (by have := HS.out; omega)).mono ?_
          rintro e u ⟨rfl, hb⟩
          have HB := Lib.hid (Lw.go_on HB.out hb)
          clear hb
          have HP := Lib.hid (fun b (h : 64 * b ≤ a2.size) => Cha.strS_parts K k N a2 b h)
          have HW := Lib.hid (fun W => Cd.xor_fine K k N (Cha.strS K k N a2) W HK.out HN.out HKl.out (by rw [Cha.strS_size]; have := HS.out; omega))
          rw [Cha.strS_twice] at HW
          generalize Cha.strS K k N a2 = c at HP HW ⊢
          go_wp2_with (fail)
          refine (HW.out _).mono ?_
          rintro e u ⟨rfl, hb⟩
          have HB := Lib.hid (Lw.go_on HB.out hb)
          clear hb
          clear HW
          have hd : a2.size / 64 + 1 < 100 := by have := HS.out; omega
          obtain ⟨b, hb1, hb2, hq⟩ := Cd.part_of a3 a2.size HS.out
          have HB1 := Lib.hid hb1
          have HB2 := Lib.hid hb2
          have b1 : (b : Int) ≤ 46 := by omega
          have b2 : 64 * (b : Int) ≤ (a2.size : Int) := by omega
          have b3 : (0 : Int) ≤ 64 * (b : Int) := by omega
          have b4 : (64 * (b : Int)).toNat = 64 * b := by omega
          have b5 : (a2.extract 0 (64 * b)).size = 64 * b := by rw [ByteArray.size_extract]; omega
          clear hb1 hb2
          go_wp2_with (fail)
          refine (Cd.xor_fine K k N (a2.extract 0 (64 * b)) _ HK.out HN.out HKl.out (by rw [b5]; have := HB1.out; omega)).mono ?_
          rintro e u ⟨rfl, hb⟩
          have HB := Lib.hid (Lw.go_on HB.out hb)
          clear hb
          have kl : (k : Int) < 4294967296 := by have := HKl.out; omega
          have m2 : bits .and .i64 ((k : Int) + (b : Int)) 4294967295 = (((k + b) % 4294967296 : Nat) : Int) := Cd.mask32 (k + b) (by have := HKl.out; have := HB1.out; omega)
          have HXl : Hid ((k + b) % 4294967296 < 4294967296) := Nat.mod_lt _ (by decide)
          have HP2 := Lib.hid (HP.out b HB2.out)
          generalize (k + b) % 4294967296 = x at m2 HXl HP2
          clear HP b5
          have z1 : (Cha.strS K k N (a2.extract 0 (64 * b))).size ≤ 3000 := by rw [Cha.strS_size, ByteArray.size_extract]; have := HS.out; omega
          generalize Cha.strS K k N (a2.extract 0 (64 * b)) = y1 at HP2 z1 ⊢
          have Z1 := Lib.hid z1
          clear z1
          go_wp2_with (fail)
          refine (Cd.xor_fine K x N (a2.extract (64 * b) a2.size) _ HK.out HN.out HXl.out (by rw [ByteArray.size_extract]; have := HS.out; omega)).mono ?_
          rintro e u ⟨rfl, hb⟩
          have HB := Lib.hid (Lw.go_on HB.out hb)
          clear hb
          have z2 : (Cha.strS K x N (a2.extract (64 * b) a2.size)).size ≤ 3000 := by rw [Cha.strS_size, ByteArray.size_extract]; have := HS.out; omega
          generalize Cha.strS K x N (a2.extract (64 * b) a2.size) = y2 at HP2 z2 ⊢
          have z1 := Z1.out
          have hp := HP2.out
          clear b1 b2 b3 b4 m2 kl hd hq hmk1 e3
          go_wp2_with (go_at_call 11; refine (Lw.num_same _ _).mono ?_; rintro e u ⟨rfl, rfl⟩)
          go_ret
          exact ⟨rfl, HB.out⟩
        · have jl : ((j : Int) < 44) = False := eq_false (by omega)
          clear hlt hl
          go_upto_region 10 with (fail)
          clear jl
          have c1 := hc1.out
          have c2 := hc2.out
          go_quiet (fail)
          have HB := Lib.hid (Lw.below_drewN HB.out nq)
          clear c1 c2 hc1 hc2 HR HX
          generalize wr.drewN nq = w2 at HB ⊢
          obtain ⟨k, hk, hmk1⟩ := Cd.maskN32 a1
          have HKl : Hid (k < 4294967296) := by show k < 4294967296; omega
          clear hk
          go_wp2_with (fail)
          refine (Cd.xor_fine K k N a2 _ HK.out HN.out HKl.out (by have := HS.out; omega)).mono ?_
          rintro e u ⟨rfl, hb⟩
          have HB := Lib.hid (Lw.go_on HB.out hb)
          clear hb
          have HP := Lib.hid (fun b (h : 64 * b ≤ a2.size) => Cha.strS_parts K k N a2 b h)
          have HW := Lib.hid (fun W => Cd.xor_fine K k N (Cha.strS K k N a2) W HK.out HN.out HKl.out (by rw [Cha.strS_size]; have := HS.out; omega))
          rw [Cha.strS_twice] at HW
          generalize Cha.strS K k N a2 = c at HP HW ⊢
          go_wp2_with (fail)
          refine (HW.out _).mono ?_
          rintro e u ⟨rfl, hb⟩
          have HB := Lib.hid (Lw.go_on HB.out hb)
          clear hb
          clear HW
          have hd : a2.size / 64 + 1 < 100 := by have := HS.out; omega
          obtain ⟨b, hb1, hb2, hq⟩ := Cd.part_of a3 a2.size HS.out
          have HB1 := Lib.hid hb1
          have HB2 := Lib.hid hb2
          have b1 : (b : Int) ≤ 46 := by omega
          have b2 : 64 * (b : Int) ≤ (a2.size : Int) := by omega
          have b3 : (0 : Int) ≤ 64 * (b : Int) := by omega
          have b4 : (64 * (b : Int)).toNat = 64 * b := by omega
          have b5 : (a2.extract 0 (64 * b)).size = 64 * b := by rw [ByteArray.size_extract]; omega
          clear hb1 hb2
          go_wp2_with (fail)
          refine (Cd.xor_fine K k N (a2.extract 0 (64 * b)) _ HK.out HN.out HKl.out (by rw [b5]; have := HB1.out; omega)).mono ?_
          rintro e u ⟨rfl, hb⟩
          have HB := Lib.hid (Lw.go_on HB.out hb)
          clear hb
          have kl : (k : Int) < 4294967296 := by have := HKl.out; omega
          have m2 : bits .and .i64 ((k : Int) + (b : Int)) 4294967295 = (((k + b) % 4294967296 : Nat) : Int) := Cd.mask32 (k + b) (by have := HKl.out; have := HB1.out; omega)
          have HXl : Hid ((k + b) % 4294967296 < 4294967296) := Nat.mod_lt _ (by decide)
          have HP2 := Lib.hid (HP.out b HB2.out)
          generalize (k + b) % 4294967296 = x at m2 HXl HP2
          clear HP b5
          have z1 : (Cha.strS K k N (a2.extract 0 (64 * b))).size ≤ 3000 := by rw [Cha.strS_size, ByteArray.size_extract]; have := HS.out; omega
          generalize Cha.strS K k N (a2.extract 0 (64 * b)) = y1 at HP2 z1 ⊢
          have Z1 := Lib.hid z1
          clear z1
          go_wp2_with (fail)
          refine (Cd.xor_fine K x N (a2.extract (64 * b) a2.size) _ HK.out HN.out HXl.out (by rw [ByteArray.size_extract]; have := HS.out; omega)).mono ?_
          rintro e u ⟨rfl, hb⟩
          have HB := Lib.hid (Lw.go_on HB.out hb)
          clear hb
          have z2 : (Cha.strS K x N (a2.extract (64 * b) a2.size)).size ≤ 3000 := by rw [Cha.strS_size, ByteArray.size_extract]; have := HS.out; omega
          generalize Cha.strS K x N (a2.extract (64 * b) a2.size) = y2 at HP2 z2 ⊢
          have z1 := Z1.out
          have hp := HP2.out
          clear b1 b2 b3 b4 m2 kl hd hq hmk1 e3
          go_wp2_with (go_at_call 11; refine (Lw.num_same _ _).mono ?_; rintro e u ⟨rfl, rfl⟩)
          go_ret
          exact ⟨rfl, HB.out⟩

set_option maxRecDepth 100000 in
theorem lifted (os : Os) (started : os.Started) (H : Type) (enc : TypeId × Value → H) :
    ReturnsInHanded {} Try.checked os 4 .any (Rows.chachaTwiceSpec.pre6 enc Try.prog Try.f4 Rows.chachaTwiceRow.domain false) (Rows.chachaTwiceSpec.post enc Try.prog Try.f4 false true false false) := by
  refine returnsInHanded_of_change (C := Try.checked) own started (by kernel_rfl) Try.func4
    (ChangeSpec.witness6 (enc := enc) (C := Try.checked) false ⟨#[], #[.string ByteArray.empty, .int .i64 0, .string ByteArray.empty, .int .i64 0], []⟩ 8 (by kernel_rfl) (by kernel_rfl) (by kernel_rfl) (by kernel_rfl)) ?_
  intro W base args ds gs before hval0 hW hcnd _
  have hval : ∀ (j : Nat) t v, Try.f4.params[j]? = some t → args[j]? = some v → Value.okWide Try.prog W .any base t v := hval0
  have hW' := hW
  obtain ⟨p, q, hA0, hV, rfl, hfz, hnd⟩ := hW
  have hA : DataW.TrodAll enc Try.prog W 0 (fun _ => true) true Try.f4.params.toList args.toList ds p := hA0
  rw [Try.params4] at hA hval
  obtain ⟨v0, vs0, d0, ds0, p0, q0, hargs, rfl, rfl, h0, r0⟩ := trodAll_cons hA
  obtain ⟨v1, vs1, d1, ds1, p1, q1, rfl, rfl, rfl, h1, r1⟩ := trodAll_cons r0
  obtain ⟨v2, vs2, d2, ds2, p2, q2, rfl, rfl, rfl, h2, r2⟩ := trodAll_cons r1
  obtain ⟨v3, vs3, d3, ds3, p3, q3, rfl, rfl, rfl, h3, r3⟩ := trodAll_cons r2
  obtain ⟨rfl, rfl, rfl⟩ := trodAll_nil r3
  obtain rfl : args = #[v0, v1, v2, v3] := by cases args; simp_all
  obtain ⟨rfl, rfl⟩ := trodVars_none hV
  obtain ⟨a0, rfl, rfl, rfl, w0⟩ := open_string Try.underlying9 (hval 0 9 v0 rfl rfl) h0
  obtain ⟨a1, rfl, rfl, rfl, w1⟩ := open_int Try.underlying3 (hval 1 3 v1 rfl rfl) h1
  obtain ⟨a2, rfl, rfl, rfl, w2⟩ := open_string Try.underlying9 (hval 2 9 v2 rfl rfl) h2
  obtain ⟨a3, rfl, rfl, rfl, w3⟩ := open_int Try.underlying3 (hval 3 3 v3 rfl rfl) h3
  clear hA0 hval0
  simp only [List.append_nil] at hW'
  refine (walk a0 a1 a2 a3 w0 w1 w2 w3 W).mono fun e W' ⟨he, bel⟩ => ?_
  subst he
  exact ⟨_, rfl, _, _, _, [], [], [], hW', trodAll_mk1 (shut_bool Try.underlying4 _), (trodAll_cons_mk (shut_string Try.underlying9 w0) (trodAll_cons_mk (shut_int Try.underlying3 w1) (trodAll_cons_mk (shut_string Try.underlying9 w2) (trodAll_cons_mk (shut_int Try.underlying3 w3) trodAll_mk0)))), rfl, bel.frame _, fun h => by cases h⟩

theorem over : Rows.chachaTwiceRow.holds Try.pinned (OpenSpec.ofChange Rows.chachaTwiceSpec) :=
  OpenClaim.holds_of_wide 4 Try.f4 rfl rfl rfl rfl rfl rfl rfl ⟨rfl, rfl, rfl, rfl, rfl⟩ rfl rfl rfl rfl rfl (by kernel_rfl) Try.func4 (by kernel_rfl)
    (of_decide_eq_true (by kernel_rfl)) (by unfold Func.isWrapper; first | (rw [if_pos (by decide +kernel)]; kernel_rfl) | (rw [if_neg (by decide +kernel)]; exact ⟨rfl, rfl⟩))
    (fun os started H enc _ => lifted os started H enc)

theorem proved : Rows.ChachaTwiceSaid :=
  over
#print axioms proved
end Go.Proofs.Ytdmkfbdfjhaglaa.chachaTwice
