/-
  Proved: halberdlaw6.ChachaBlocks answers true at every input: noughts under the stream are its blocks, one behind the other. Conditions: none but the row's.
-/
import Derived.Test.YtdmkfbdfjhaglaaCdG
import Derived.Test.YtdmkfbdfjhaglaaRows
import Derived.WalkKit
import Derived.ProofKit
import Derived.OpenShut
import Derived.ShutString
import Derived.Below
import Derived.ChangeOld
namespace Go.Proofs.Ytdmkfbdfjhaglaa.chachaBlocks
open Go.ChangeShapes Go.WideShapes Go.ChangeAt Go.RowKit
open Go.ChangeMaps (open_string shut_string)
set_option linter.unusedVariables false

theorem own : ownKnob Try.prog.godebug = none := by kernel_rfl

set_option maxHeartbeats 4000000 in
set_option maxRecDepth 100000 in
theorem walk (a0 : ByteArray) (a1 : Int) (a2 : Int) (_w0 : a0.size ≤ maxLen) (_w1 : (Lit.int .i64 a1).wf = true) (_w2 : (Lit.int .i64 a2).wf = true) (w : World) :
    Calls Try.prog 5 #[.string a0, .int .i64 a1, .int .i64 a2] w fun e w' => e = .returned (.bool true) ∧ Below w.heap.size w w' := by
  have HB : Hid (Below w.heap.size w w) := Below.refl _ _
  clear _w0 _w1 _w2
  obtain ⟨M, hM, hMc, hmk0⟩ := Lw.zeros 44 (by decide)
  have hmk : ∀ W : World, (Instr.makeSlice 32 (.int .i64 44) (.int .i64 44)).run Try.prog W = .ok (.slice (some ⟨W.heap.size, 0, none⟩) 44 44) (W.alloc (.cells M 5)) := hmk0
  have HM := Lib.hid hM
  have HMc := Lib.hid hMc
  clear hmk0 hM hMc
  go_enter Try.func5, Try.ntmps5
  go_wp2_with (fail)
  refine (Cd.awake6_any _).mono ?_
  rintro e u ⟨rfl, hb⟩
  have HB := Lib.hid (Lw.go_on HB.out hb)
  clear hb
  go_wp2_with (fail)
  have HR : Hid (Lw.RowB (u.alloc (.cells M 5)) u.heap.size 44 (fun _ => 0)) := Lw.rowB_new u M 44 HM.out HMc.out
  have HG : Hid (w.heap.size ≤ u.heap.size) := HB.out.size
  have HB : Hid (Below w.heap.size w (u.alloc (.cells M 5))) := HB.out.alloc HG.out _
  clear hmk HM HMc
  generalize u.heap.size = g at HR HG ⊢
  generalize u.alloc (.cells M 5) = w1 at HR HB ⊢
  go_loopw [8] (fun v wx => ∃ (j : Nat) (X : Nat → Nat), Hid (j ≤ 44) ∧ v = .int .i64 j ∧ Hid (Lw.RowB wx g 44 X) ∧ Hid (∀ t, X t < 256) ∧ Hid (Below w.heap.size w wx)) (fun v _ => 44 - (intOf v).toNat)
  case atStart => exact ⟨0, fun _ => 0, Nat.zero_le _, rfl, HR, fun _ => by show 0 < 256; decide, HB⟩
  case round =>
    clear HR HB
    obtain ⟨j, X, hj, rfl, HR, HX, HB⟩ := hrel
    by_cases hlt : j < 44 ∧ j < a0.size
    · have jl : ((j : Int) < 44) = True := eq_true (by omega)
      have jl' : (j : Int) < 44 := by omega
      have js : ((j : Int) < (a0.size : Int)) = True := eq_true (by omega)
      have js' : (j : Int) < (a0.size : Int) := by omega
      have jn : j < a0.size := hlt.2
      have xc := World.rowIs.cell HR.out (i := j) hlt.1
      have xf := World.rowIs.frozen HR.out j
      have v0 : ∀ h : j < a0.size, (a0[j]'h).toNat = Aes.byt a0 j := fun h => Aes.get_byt a0 _ h
      have HJ := Lib.hid hlt.1
      clear hlt
      go_wp2_with (fail)
      refine ⟨⟨j + 1, fun i => if i = j then Aes.byt a0 j else X i, HJ.out, by go_num, HR.out.set j _, fun t => ?_, HB.out.setCell HG.out _⟩, Lw.meas 44 j HJ.out⟩
      show (if t = j then _ else X t) < 256
      split
      · exact Aes.byt_lt _ _
      · exact HX.out t
    · have hc1 := Lib.hid fun n => (HR.out.drewN n).text 0 32 44 (by decide)
      have hc2 := Lib.hid fun n => (HR.out.drewN n).text 32 12 12 (by decide)
      have HK : Hid ((Lw.pieceS X 0 32).size = 32) := Lw.pieceS_size _ _ _
      have HN : Hid ((Lw.pieceS X 32 12).size = 12) := Lw.pieceS_size _ _ _
      generalize Lw.pieceS X 0 32 = K at hc1 HK
      generalize Lw.pieceS X 32 12 = N at hc2 HN
      by_cases hl : j < 44
      · have jl : ((j : Int) < 44) = True := eq_true (by omega)
        have js : ((j : Int) < (a0.size : Int)) = False := eq_false (by omega)
        clear hlt hl
        go_upto_region 8 with (fail)
        clear jl js
        have c1 := hc1.out
        have c2 := hc2.out
        go_quiet (fail)
        have HB := Lib.hid (Lw.below_drewN HB.out nq)
        clear c1 c2 hc1 hc2 HR HX
        generalize wr.drewN nq = w2 at HB ⊢
        obtain ⟨k, hk, hmk1⟩ := Cd.maskN32 a1
        obtain ⟨m, hm, hmk2⟩ := Cd.maskN7 a2
        have HKl : Hid (k < 4294967296) := by show k < 4294967296; omega
        have HMl : Hid (m ≤ 7) := hm
        obtain ⟨n, hn⟩ : ∃ n : Nat, n = 64 * m := ⟨_, rfl⟩
        have m1 : 64 * (m : Int) = (n : Int) := by omega
        have m2 : wrap64 (n : Int) = (n : Int) := by unfold wrap64; omega
        have m3 : IntKind.i64.wrap (64 * (m : Int)) = (n : Int) := by rw [IntWalk.i64_in _ (by omega)]; omega
        obtain ⟨Mz, h1z, h2z, hmkz⟩ := Lw.zeros n (by omega)
        have HT := Lib.hid fun W g (h : Lw.RowB W g n (fun _ => 0)) => h.text 0 n n (by omega)
        have HZs : Hid ((Lw.pieceS (fun _ => 0) 0 n).size = n) := Lw.pieceS_size _ _ _
        have HZ0 : Hid (∀ t, t < n → Aes.byt (Lw.pieceS (fun _ => 0) 0 n) t = 0) := fun t ht => Lw.byt_piece _ 0 n t ht fun _ => by decide
        generalize Lw.pieceS (fun _ => 0) 0 n = Z at HT HZs HZ0
        have HMz : Hid (Mz.size = n ∧ ∀ i, i < n → Mz[i]? = some (.int .u8 0)) := ⟨h1z, h2z⟩
        have HN6 : Hid (n = 64 * m) := hn
        clear hk hm hn h1z h2z
        have HRz := Lib.hid (Lw.rowB_new w2 Mz n HMz.out.1 HMz.out.2)
        have cz := HT.out _ _ HRz.out
        go_wp2_with (fail)
        refine (Cd.xor_fine K k N Z _ HK.out HN.out HKl.out (by have := HZs.out; have := HN6.out; have := HMl.out; omega)).mono ?_
        rintro e u2 ⟨rfl, hb⟩
        have HB := Lib.hid (Lw.go_on (HB.out.alloc HB.out.size (.cells Mz 5)) hb)
        clear hb cz HRz hmkz m3
        have HE := Lib.hid (Cha.strS_noughts K k N Z m (by rw [HZs.out]; exact HN6.out) (fun t ht => HZ0.out t (by rw [HZs.out] at ht; exact ht)))
        rw [HE.out]
        have hcs : (Cha.blocksS K k N m).size = n := by rw [Cha.blocksS_size]; exact HN6.out.symm
        have HCe : Hid (∃ c, c = Cha.blocksS K k N m) := ⟨_, rfl⟩
        obtain ⟨c, hc⟩ := HCe.out
        rw [← hc] at hcs ⊢
        have HC := Lib.hid hc
        have HCs := Lib.hid hcs
        clear hc HCe hcs HE HT HZs HZ0
        go_wp2_with (fail)
        clear m1 m2
        go_loopw [15, 16] (fun vw vi wx => ∃ i : Nat, Hid (i ≤ m) ∧ vi = .int .i64 i ∧ vw = .string (Cha.blocksS K k N i) ∧ Hid (Below w.heap.size w wx)) (fun _ vi _ => m - (intOf vi).toNat)
        case atStart => exact ⟨0, Nat.zero_le _, rfl, rfl, HB⟩
        case round =>
          clear HB
          obtain ⟨i, hi, rfl, rfl, HB⟩ := hrel
          by_cases hlt : i < m
          · have il : ((i : Int) < (m : Int)) = True := eq_true (by omega)
            have il2 : (i < m) = True := eq_true hlt
            have HI := Lib.hid hlt
            have i7 : (i : Int) ≤ 7 := by have := HMl.out; omega
            have kl : (k : Int) < 4294967296 := by have := HKl.out; omega
            have m4 : bits .and .i64 ((k : Int) + (i : Int)) 4294967295 = (((k + i) % 4294967296 : Nat) : Int) := Cd.mask32 (k + i) (by have := HKl.out; have := HMl.out; omega)
            have HXl : Hid ((k + i) % 4294967296 < 4294967296) := Nat.mod_lt _ (by decide)
            have HNx : Hid (Cha.blocksS K k N i ++ Cha.chaS K ((k + i) % 4294967296) N = Cha.blocksS K k N (i + 1)) := rfl
            have s1 : (Cha.blocksS K k N i).size ≤ 1000 := by rw [Cha.blocksS_size]; have := HMl.out; omega
            generalize (k + i) % 4294967296 = x at m4 HXl HNx
            have s2 := Cha.chaS_size K x N
            generalize hW1 : Cha.blocksS K k N (i + 1) = W1 at HNx
            have HW1 := Lib.hid hW1
            generalize Cha.blocksS K k N i = W0 at HNx s1 ⊢
            clear hlt hW1
            go_wp2_with (fail)
            refine (Cd.blk_fine K x N _ HK.out HN.out HXl.out).mono ?_
            rintro e u ⟨rfl, hb⟩
            have HB := Lib.hid (Lw.go_on HB.out hb)
            clear hb
            generalize Cha.chaS K x N = W2 at HNx s2 ⊢
            have hj := HNx.out
            clear m4
            go_wp2_with (go_at_call 11; refine (Lw.num_same _ _).mono ?_; rintro e u ⟨rfl, rfl⟩)
            exact ⟨⟨i + 1, HI.out, by go_num, by rw [HW1.out], HB⟩, Lw.meas m i HI.out⟩
          · have il : ((i : Int) < (m : Int)) = False := eq_false (by omega)
            have il2 : (i < m) = False := eq_false hlt
            obtain rfl : i = m := by have := hi.out; omega
            rw [← HC.out]
            have hcs := HCs.out
            have m1 : 64 * (i : Int) = (n : Int) := by have := HN6.out; omega
            have m2 : wrap64 (n : Int) = (n : Int) := by have := HN6.out; have := HMl.out; unfold wrap64; omega
            clear hlt
            go_wp2_with (go_at_call 11; refine (Lw.num_same _ _).mono ?_; rintro e u ⟨rfl, rfl⟩)
            go_ret
            exact ⟨rfl, HB.out⟩
      · have jl : ((j : Int) < 44) = False := eq_false (by omega)
        clear hlt hl
        go_upto_region 8 with (fail)
        clear jl
        have c1 := hc1.out
        have c2 := hc2.out
        go_quiet (fail)
        have HB := Lib.hid (Lw.below_drewN HB.out nq)
        clear c1 c2 hc1 hc2 HR HX
        generalize wr.drewN nq = w2 at HB ⊢
        obtain ⟨k, hk, hmk1⟩ := Cd.maskN32 a1
        obtain ⟨m, hm, hmk2⟩ := Cd.maskN7 a2
        have HKl : Hid (k < 4294967296) := by show k < 4294967296; omega
        have HMl : Hid (m ≤ 7) := hm
        obtain ⟨n, hn⟩ : ∃ n : Nat, n = 64 * m := ⟨_, rfl⟩
        have m1 : 64 * (m : Int) = (n : Int) := by omega
        have m2 : wrap64 (n : Int) = (n : Int) := by unfold wrap64; omega
        have m3 : IntKind.i64.wrap (64 * (m : Int)) = (n : Int) := by rw [IntWalk.i64_in _ (by omega)]; omega
        obtain ⟨Mz, h1z, h2z, hmkz⟩ := Lw.zeros n (by omega)
        have HT := Lib.hid fun W g (h : Lw.RowB W g n (fun _ => 0)) => h.text 0 n n (by omega)
        have HZs : Hid ((Lw.pieceS (fun _ => 0) 0 n).size = n) := Lw.pieceS_size _ _ _
        have HZ0 : Hid (∀ t, t < n → Aes.byt (Lw.pieceS (fun _ => 0) 0 n) t = 0) := fun t ht => Lw.byt_piece _ 0 n t ht fun _ => by decide
        generalize Lw.pieceS (fun _ => 0) 0 n = Z at HT HZs HZ0
        have HMz : Hid (Mz.size = n ∧ ∀ i, i < n → Mz[i]? = some (.int .u8 0)) := ⟨h1z, h2z⟩
        have HN6 : Hid (n = 64 * m) := hn
        clear hk hm hn h1z h2z
        have HRz := Lib.hid (Lw.rowB_new w2 Mz n HMz.out.1 HMz.out.2)
        have cz := HT.out _ _ HRz.out
        go_wp2_with (fail)
        refine (Cd.xor_fine K k N Z _ HK.out HN.out HKl.out (by have := HZs.out; have := HN6.out; have := HMl.out; omega)).mono ?_
        rintro e u2 ⟨rfl, hb⟩
        have HB := Lib.hid (Lw.go_on (HB.out.alloc HB.out.size (.cells Mz 5)) hb)
        clear hb cz HRz hmkz m3
        have HE := Lib.hid (Cha.strS_noughts K k N Z m (by rw [HZs.out]; exact HN6.out) (fun t ht => HZ0.out t (by rw [HZs.out] at ht; exact ht)))
        rw [HE.out]
        have hcs : (Cha.blocksS K k N m).size = n := by rw [Cha.blocksS_size]; exact HN6.out.symm
        have HCe : Hid (∃ c, c = Cha.blocksS K k N m) := ⟨_, rfl⟩
        obtain ⟨c, hc⟩ := HCe.out
        rw [← hc] at hcs ⊢
        have HC := Lib.hid hc
        have HCs := Lib.hid hcs
        clear hc HCe hcs HE HT HZs HZ0
        go_wp2_with (fail)
        clear m1 m2
        go_loopw [15, 16] (fun vw vi wx => ∃ i : Nat, Hid (i ≤ m) ∧ vi = .int .i64 i ∧ vw = .string (Cha.blocksS K k N i) ∧ Hid (Below w.heap.size w wx)) (fun _ vi _ => m - (intOf vi).toNat)
        case atStart => exact ⟨0, Nat.zero_le _, rfl, rfl, HB⟩
        case round =>
          clear HB
          obtain ⟨i, hi, rfl, rfl, HB⟩ := hrel
          by_cases hlt : i < m
          · have il : ((i : Int) < (m : Int)) = True := eq_true (by omega)
            have il2 : (i < m) = True := eq_true hlt
            have HI := Lib.hid hlt
            have i7 : (i : Int) ≤ 7 := by have := HMl.out; omega
            have kl : (k : Int) < 4294967296 := by have := HKl.out; omega
            have m4 : bits .and .i64 ((k : Int) + (i : Int)) 4294967295 = (((k + i) % 4294967296 : Nat) : Int) := Cd.mask32 (k + i) (by have := HKl.out; have := HMl.out; omega)
            have HXl : Hid ((k + i) % 4294967296 < 4294967296) := Nat.mod_lt _ (by decide)
            have HNx : Hid (Cha.blocksS K k N i ++ Cha.chaS K ((k + i) % 4294967296) N = Cha.blocksS K k N (i + 1)) := rfl
            have s1 : (Cha.blocksS K k N i).size ≤ 1000 := by rw [Cha.blocksS_size]; have := HMl.out; omega
            generalize (k + i) % 4294967296 = x at m4 HXl HNx
            have s2 := Cha.chaS_size K x N
            generalize hW1 : Cha.blocksS K k N (i + 1) = W1 at HNx
            have HW1 := Lib.hid hW1
            generalize Cha.blocksS K k N i = W0 at HNx s1 ⊢
            clear hlt hW1
            go_wp2_with (fail)
            refine (Cd.blk_fine K x N _ HK.out HN.out HXl.out).mono ?_
            rintro e u ⟨rfl, hb⟩
            have HB := Lib.hid (Lw.go_on HB.out hb)
            clear hb
            generalize Cha.chaS K x N = W2 at HNx s2 ⊢
            have hj := HNx.out
            clear m4
            go_wp2_with (go_at_call 11; refine (Lw.num_same _ _).mono ?_; rintro e u ⟨rfl, rfl⟩)
            exact ⟨⟨i + 1, HI.out, by go_num, by rw [HW1.out], HB⟩, Lw.meas m i HI.out⟩
          · have il : ((i : Int) < (m : Int)) = False := eq_false (by omega)
            have il2 : (i < m) = False := eq_false hlt
            obtain rfl : i = m := by have := hi.out; omega
            rw [← HC.out]
            have hcs := HCs.out
            have m1 : 64 * (i : Int) = (n : Int) := by have := HN6.out; omega
            have m2 : wrap64 (n : Int) = (n : Int) := by have := HN6.out; have := HMl.out; unfold wrap64; omega
            clear hlt
            go_wp2_with (go_at_call 11; refine (Lw.num_same _ _).mono ?_; rintro e u ⟨rfl, rfl⟩)
            go_ret
            exact ⟨rfl, HB.out⟩

set_option maxRecDepth 100000 in
theorem lifted (os : Os) (started : os.Started) (H : Type) (enc : TypeId × Value → H) :
    ReturnsInHanded {} Try.checked os 5 .any (Rows.chachaBlocksSpec.pre6 enc Try.prog Try.f5 Rows.chachaBlocksRow.domain false) (Rows.chachaBlocksSpec.post enc Try.prog Try.f5 false true false false) := by
  refine returnsInHanded_of_change (C := Try.checked) own started (by kernel_rfl) Try.func5
    (ChangeSpec.witness6 (enc := enc) (C := Try.checked) false ⟨#[], #[.string ByteArray.empty, .int .i64 0, .int .i64 0], []⟩ 8 (by kernel_rfl) (by kernel_rfl) (by kernel_rfl) (by kernel_rfl)) ?_
  intro W base args ds gs before hval0 hW hcnd _
  have hval : ∀ (j : Nat) t v, Try.f5.params[j]? = some t → args[j]? = some v → Value.okWide Try.prog W .any base t v := hval0
  have hW' := hW
  obtain ⟨p, q, hA0, hV, rfl, hfz, hnd⟩ := hW
  have hA : DataW.TrodAll enc Try.prog W 0 (fun _ => true) true Try.f5.params.toList args.toList ds p := hA0
  rw [Try.params5] at hA hval
  obtain ⟨v0, vs0, d0, ds0, p0, q0, hargs, rfl, rfl, h0, r0⟩ := trodAll_cons hA
  obtain ⟨v1, vs1, d1, ds1, p1, q1, rfl, rfl, rfl, h1, r1⟩ := trodAll_cons r0
  obtain ⟨v2, vs2, d2, ds2, p2, q2, rfl, rfl, rfl, h2, r2⟩ := trodAll_cons r1
  obtain ⟨rfl, rfl, rfl⟩ := trodAll_nil r2
  obtain rfl : args = #[v0, v1, v2] := by cases args; simp_all
  obtain ⟨rfl, rfl⟩ := trodVars_none hV
  obtain ⟨a0, rfl, rfl, rfl, w0⟩ := open_string Try.underlying9 (hval 0 9 v0 rfl rfl) h0
  obtain ⟨a1, rfl, rfl, rfl, w1⟩ := open_int Try.underlying3 (hval 1 3 v1 rfl rfl) h1
  obtain ⟨a2, rfl, rfl, rfl, w2⟩ := open_int Try.underlying3 (hval 2 3 v2 rfl rfl) h2
  clear hA0 hval0
  simp only [List.append_nil] at hW'
  refine (walk a0 a1 a2 w0 w1 w2 W).mono fun e W' ⟨he, bel⟩ => ?_
  subst he
  exact ⟨_, rfl, _, _, _, [], [], [], hW', trodAll_mk1 (shut_bool Try.underlying4 _), (trodAll_cons_mk (shut_string Try.underlying9 w0) (trodAll_cons_mk (shut_int Try.underlying3 w1) (trodAll_cons_mk (shut_int Try.underlying3 w2) trodAll_mk0))), rfl, bel.frame _, fun h => by cases h⟩

theorem over : Rows.chachaBlocksRow.holds Try.pinned (OpenSpec.ofChange Rows.chachaBlocksSpec) :=
  OpenClaim.holds_of_wide 5 Try.f5 rfl rfl rfl rfl rfl rfl rfl ⟨rfl, rfl, rfl, rfl, rfl⟩ rfl rfl rfl rfl rfl (by kernel_rfl) Try.func5 (by kernel_rfl)
    (of_decide_eq_true (by kernel_rfl)) (by unfold Func.isWrapper; first | (rw [if_pos (by decide +kernel)]; kernel_rfl) | (rw [if_neg (by decide +kernel)]; exact ⟨rfl, rfl⟩))
    (fun os started H enc _ => lifted os started H enc)

theorem proved : Rows.ChachaBlocksSaid :=
  over
#print axioms proved
end Go.Proofs.Ytdmkfbdfjhaglaa.chachaBlocks
