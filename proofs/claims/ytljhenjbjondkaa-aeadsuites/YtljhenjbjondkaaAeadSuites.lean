/-
  AeadSuites (P8.1): at every input each suite seals and opens as the layer that it names does.
-/
import Derived.Test.YtljhenjbjondkaaJocb
import Derived.Test.YtljhenjbjondkaaRows
import Derived.WalkKit
import Derived.ProofKit
import Derived.OpenShut
import Derived.ShutString
import Derived.Below
import Derived.ChangeOld
namespace Go.Proofs.Ytljhenjbjondkaa.aeadSuites
open Go.ChangeShapes Go.WideShapes Go.ChangeAt Go.RowKit
open Go.ChangeMaps (open_string shut_string)
set_option linter.unusedVariables false

theorem own : ownKnob Try.prog.godebug = none := by kernel_rfl

set_option maxHeartbeats 8000000 in
set_option maxRecDepth 100000 in
theorem walk (a0 : ByteArray) (a1 : ByteArray) (a2 : ByteArray) (a3 : Bool) (_w0 : a0.size ≤ maxLen) (_w1 : a1.size ≤ maxLen) (_w2 : a2.size ≤ maxLen) (w : World) :
    Calls Try.prog 4 #[.string a0, .string a1, .string a2, .bool a3] w fun e w' => e = .returned (.bool true) ∧ Below w.heap.size w w' := by
  have HB : Hid (Below w.heap.size w w) := Below.refl _ _
  clear _w0 _w1 _w2
  by_cases hs : 2000 < a2.size
  · have e3 : ((2000 : Int) < (a2.size : Int)) = True := eq_true (by omega)
    clear hs
    go_enter Try.func4, Try.ntmps4
    go_wp2_with (first | (go_at_call 11; refine (Lw.num_same _ _).mono ?_; rintro e u ⟨rfl, rfl⟩) | (go_at_call 7; refine (Ew.awake8_any _).mono ?_; rintro e u ⟨rfl, hb⟩; have HB := Lib.hid (Lw.go_on HB.out hb); clear hb))
    go_ret
    exact ⟨rfl, HB.out⟩
  by_cases ha : 2000 < a1.size
  · have e3 : ((2000 : Int) < (a2.size : Int)) = False := eq_false (by omega)
    have e4 : ((2000 : Int) < (a1.size : Int)) = True := eq_true (by omega)
    clear hs ha
    go_enter Try.func4, Try.ntmps4
    go_wp2_with (first | (go_at_call 11; refine (Lw.num_same _ _).mono ?_; rintro e u ⟨rfl, rfl⟩) | (go_at_call 7; refine (Ew.awake8_any _).mono ?_; rintro e u ⟨rfl, hb⟩; have HB := Lib.hid (Lw.go_on HB.out hb); clear hb))
    go_ret
    exact ⟨rfl, HB.out⟩
  have e3 : ((2000 : Int) < (a2.size : Int)) = False := eq_false (by omega)
  have e4 : ((2000 : Int) < (a1.size : Int)) = False := eq_false (by omega)
  have HS : Hid (a2.size ≤ 2000) := by show a2.size ≤ 2000; omega
  have HA : Hid (a1.size ≤ 2000) := by show a1.size ≤ 2000; omega
  clear hs ha
  obtain ⟨M, hM, hMc, hmk0⟩ := Lw.zeros 44 (by decide)
  have hmk : ∀ W : World, (Instr.makeSlice 27 (.int .i64 44) (.int .i64 44)).run Try.prog W = .ok (.slice (some ⟨W.heap.size, 0, none⟩) 44 44) (W.alloc (.cells M 5)) := hmk0
  have HM := Lib.hid hM
  have HMc := Lib.hid hMc
  clear hmk0 hM hMc
  go_enter Try.func4, Try.ntmps4
  go_wp2_with (go_at_call 7; fail)
  refine (Ew.awake8_any _).mono ?_
  rintro e u ⟨rfl, hb⟩
  have HB := Lib.hid (Lw.go_on HB.out hb)
  clear hb
  go_wp2_with (fail)
  have HR : Hid (Lw.RowB (u.alloc (.cells M 5)) u.heap.size 44 (fun _ => 0)) := Lw.rowB_new u M 44 HM.out HMc.out
  have HG : Hid (w.heap.size ≤ u.heap.size) := HB.out.size
  have HB : Hid (Below w.heap.size w (u.alloc (.cells M 5))) := HB.out.alloc HG.out _
  clear hmk HM HMc e3 e4
  generalize u.heap.size = g at HR HG ⊢
  generalize u.alloc (.cells M 5) = w1 at HR HB ⊢
  go_loopw [10] (fun v wx => ∃ (j : Nat) (X : Nat → Nat), Hid (j ≤ 44) ∧ v = .int .i64 j ∧ Hid (Lw.RowB wx g 44 X) ∧ Hid (Below w.heap.size w wx)) (fun v _ => 44 - (intOf v).toNat)
  case atStart => exact ⟨0, fun _ => 0, Nat.zero_le _, rfl, HR, HB⟩
  case round =>
    clear HR HB
    obtain ⟨j, X, hj, rfl, HR, HB⟩ := hrel
    by_cases hlt : j < 44 ∧ j < a0.size
    · have jl : ((j : Int) < 44) = True := eq_true (by omega)
      have jl' : (j : Int) < 44 := by omega
      have js : ((j : Int) < (a0.size : Int)) = True := eq_true (by omega)
      have js' : (j : Int) < (a0.size : Int) := by omega
      have jn : j < a0.size := hlt.2
      have xc := World.rowIs.cell HR.out (i := j) hlt.1
      have xf := World.rowIs.frozen HR.out j
      have v0 : ∀ h : j < a0.size, (a0[j]'h).toNat = Aes.byt a0 j := fun h => Aes.get_byt a0 _ h
      have HJ := Lib.hid hlt.1
      clear hlt
      go_wp2_with (fail)
      exact ⟨⟨j + 1, _, HJ.out, by go_num, HR.out.set j (Aes.byt a0 j), HB.out.setCell HG.out _⟩, Lw.meas 44 j HJ.out⟩
    · have HC : Hid (∀ W, Lw.RowB W g 44 X → (Go.convert 27 9 (.slice (some ⟨g, 0, none⟩) 16 44)).run Try.prog W = .ok (.string (Lw.pieceS X 0 16)) W ∧ (Go.convert 27 9 (.slice (some ⟨g, 0, none⟩) 32 44)).run Try.prog W = .ok (.string (Lw.pieceS X 0 32)) W ∧ (Go.convert 27 9 (.slice (some ⟨g, 32, none⟩) 12 12)).run Try.prog W = .ok (.string (Lw.pieceS X 32 12)) W) := fun W r => ⟨r.text 0 16 44 (by decide), r.text 0 32 44 (by decide), r.text 32 12 12 (by decide)⟩
      have HK6 : Hid ((Lw.pieceS X 0 16).size = 16) := Lw.pieceS_size _ _ _
      have HK : Hid ((Lw.pieceS X 0 32).size = 32) := Lw.pieceS_size _ _ _
      have HN : Hid ((Lw.pieceS X 32 12).size = 12) := Lw.pieceS_size _ _ _
      generalize Lw.pieceS X 0 16 = J at HC HK6
      generalize Lw.pieceS X 0 32 = K at HC HK
      generalize Lw.pieceS X 32 12 = N at HC HN
      have s1 : a2.size ≤ 65536 := by have := HS.out; omega
      have s2 : a1.size ≤ 65536 := by have := HA.out; omega
      have H1 : Hid (∀ u, Calls Try.prog 10 #[.int .i64 4865, .string J, .string N, .string a1, .string a2] u fun e w' => e = .returned (.tuple #[.string (Gcm.sealS J N a1 a2), .int .i64 0]) ∧ Below u.heap.size u w') := fun u => Ew.seal8_fine 4865 J N a1 a2 u Ad.siz_one.2.2 (by rw [Ad.siz_one.1, HK6.out]; rfl) HN.out s2 s1
      have H2 : Hid (∀ u, Calls Try.prog 10 #[.int .i64 4866, .string K, .string N, .string a1, .string a2] u fun e w' => e = .returned (.tuple #[.string (Gcm.sealS K N a1 a2), .int .i64 0]) ∧ Below u.heap.size u w') := fun u => Ew.seal8_fine 4866 K N a1 a2 u Ad.siz_two.2.2 (by rw [Ad.siz_two.1, HK.out]; rfl) HN.out s2 s1
      have H3 : Hid (∀ u, Calls Try.prog 10 #[.int .i64 4867, .string K, .string N, .string a1, .string a2] u fun e w' => e = .returned (.tuple #[.string (Pol.sealT K N a1 a2), .int .i64 0]) ∧ Below u.heap.size u w') := fun u => Ew.seal8_fine 4867 K N a1 a2 u Ad.siz_three.2.2 (by rw [Ad.siz_three.1, HK.out]; rfl) HN.out s2 s1
      have H4 := Lib.hid (fun u => Ew.gseal_fine J N a1 a2 u (by unfold Gcm.keyOk; rw [decide_eq_true HK6.out]; rfl) HN.out s2 s1)
      have H5 := Lib.hid (fun u => Ew.gseal_fine K N a1 a2 u (by unfold Gcm.keyOk; rw [decide_eq_true HK.out]; exact Bool.or_true _) HN.out s2 s1)
      have H6 := Lib.hid (fun u => Pw.seal_fine K N a1 a2 u HK.out HN.out s2 s1)
      have HZ : Hid ((Pol.sealT K N a1 a2).size = a2.size + 16) := Pol.sealT_size _ _ _ _
      have HO := Lib.hid (fun t (ht : t.size ≤ 65552) => Ew.open8_three K N a1 t HK.out HN.out s2 ht)
      have HO1 := Lib.hid (fun t (ht : t.size ≤ 65552) u => Ed.open_any 4867 K N a1 t u (by omega))
      have HO2 := Lib.hid (fun t u => Ps.open_any K N a1 t u)
      clear s1 s2
      generalize Gcm.sealS J N a1 a2 = A1 at H1 H4
      generalize Gcm.sealS K N a1 a2 = A2 at H2 H5
      generalize Pol.sealT K N a1 a2 = A3 at H3 H6 HZ
      by_cases hl : j < 44
      · have jl : ((j : Int) < 44) = True := eq_true (by omega)
        have js : ((j : Int) < (a0.size : Int)) = False := eq_false (by omega)
        clear hlt hl
        go_upto_region 10 with (fail)
        clear jl js
        have hcc := HC.out wr HR.out
        have c1 := hcc.1
        have c2 := hcc.2.1
        have c3 := hcc.2.2
        clear hcc
        go_wp2_with (go_at_call 10; fail)
        refine (H1.out _).mono ?_
        rintro e u0 ⟨rfl, hb⟩
        have HB := Lib.hid (Lw.go_on HB.out hb)
        have HR := Lib.hid (HR.out.on hb)
        have hcc := HC.out u0 HR.out
        have c1 := hcc.1
        have c2 := hcc.2.1
        have c3 := hcc.2.2
        clear hb hcc
        go_wp2_with (go_at_call 10; fail)
        refine (H2.out _).mono ?_
        rintro e u1 ⟨rfl, hb⟩
        have HB := Lib.hid (Lw.go_on HB.out hb)
        have HR := Lib.hid (HR.out.on hb)
        have hcc := HC.out u1 HR.out
        have c1 := hcc.1
        have c2 := hcc.2.1
        have c3 := hcc.2.2
        clear hb hcc
        go_wp2_with (go_at_call 10; fail)
        refine (H3.out _).mono ?_
        rintro e u2 ⟨rfl, hb⟩
        have HB := Lib.hid (Lw.go_on HB.out hb)
        have HR := Lib.hid (HR.out.on hb)
        have hcc := HC.out u2 HR.out
        have c1 := hcc.1
        have c2 := hcc.2.1
        have c3 := hcc.2.2
        clear hb hcc
        go_wp2_with (go_at_call 13; fail)
        refine (H4.out _).mono ?_
        rintro e u3 ⟨rfl, hb⟩
        have HB := Lib.hid (Lw.go_on HB.out hb)
        have HR := Lib.hid (HR.out.on hb)
        have hcc := HC.out u3 HR.out
        have c1 := hcc.1
        have c2 := hcc.2.1
        have c3 := hcc.2.2
        clear hb hcc
        go_wp2_with (go_at_call 13; fail)
        refine (H5.out _).mono ?_
        rintro e u4 ⟨rfl, hb⟩
        have HB := Lib.hid (Lw.go_on HB.out hb)
        have HR := Lib.hid (HR.out.on hb)
        have hcc := HC.out u4 HR.out
        have c1 := hcc.1
        have c2 := hcc.2.1
        have c3 := hcc.2.2
        clear hb hcc
        go_wp2_with (go_at_call 14; fail)
        refine (H6.out _).mono ?_
        rintro e u5 ⟨rfl, hb⟩
        have HB := Lib.hid (Lw.go_on HB.out hb)
        have HR := Lib.hid (HR.out.on hb)
        have hcc := HC.out u5 HR.out
        have c1 := hcc.1
        have c2 := hcc.2.1
        have c3 := hcc.2.2
        clear hb hcc
        cases a3
        · have ho := HO.out a2 (by have := HS.out; omega)
          obtain ⟨ho1, ho2⟩ := ho
          have h7 := Lib.hid (HO1.out a2 (by have := HS.out; omega))
          have h8 := Lib.hid (HO2.out a2)
          rw [ho1] at h7
          generalize Pol.poS K N a1 a2 = P at h7 h8
          generalize Ad.o8E 4867 K N a1 a2 = E1 at h7 ho2
          generalize Pol.poE K N a1 a2 = E2 at h8 ho2
          clear ho1
          go_wp2_with (go_at_call 15; fail)
          refine (h7.out _).mono ?_
          rintro e u7 ⟨rfl, hb⟩
          have HB := Lib.hid (Lw.go_on HB.out hb)
          have HR := Lib.hid (HR.out.on hb)
          have hcc := HC.out u7 HR.out
          have c1 := hcc.1
          have c2 := hcc.2.1
          have c3 := hcc.2.2
          clear hb hcc
          go_wp2_with (go_at_call 16; fail)
          refine (h8.out _).mono ?_
          rintro e u8 ⟨rfl, hb⟩
          have HB := Lib.hid (Lw.go_on HB.out hb)
          have HR := Lib.hid (HR.out.on hb)
          have hcc := HC.out u8 HR.out
          have c1 := hcc.1
          have c2 := hcc.2.1
          have c3 := hcc.2.2
          clear hb hcc
          clear c1 c2 c3 HC HR
          rcases ho2 with ⟨rfl, rfl⟩ | ⟨rfl, rfl⟩
          · go_wp2_with (go_at_call 11; refine (Lw.num_same _ _).mono ?_; rintro e u ⟨rfl, rfl⟩)
            go_ret
            exact ⟨rfl, HB.out⟩
          · go_wp2_with (go_at_call 11; refine (Lw.num_same _ _).mono ?_; rintro e u ⟨rfl, rfl⟩)
            go_ret
            exact ⟨rfl, HB.out⟩
        · have ho := HO.out A3 (by rw [HZ.out]; have := HS.out; omega)
          obtain ⟨ho1, ho2⟩ := ho
          have h7 := Lib.hid (HO1.out A3 (by rw [HZ.out]; have := HS.out; omega))
          have h8 := Lib.hid (HO2.out A3)
          rw [ho1] at h7
          generalize Pol.poS K N a1 A3 = P at h7 h8
          generalize Ad.o8E 4867 K N a1 A3 = E1 at h7 ho2
          generalize Pol.poE K N a1 A3 = E2 at h8 ho2
          clear ho1
          go_wp2_with (go_at_call 15; fail)
          refine (h7.out _).mono ?_
          rintro e u7 ⟨rfl, hb⟩
          have HB := Lib.hid (Lw.go_on HB.out hb)
          have HR := Lib.hid (HR.out.on hb)
          have hcc := HC.out u7 HR.out
          have c1 := hcc.1
          have c2 := hcc.2.1
          have c3 := hcc.2.2
          clear hb hcc
          go_wp2_with (go_at_call 16; fail)
          refine (h8.out _).mono ?_
          rintro e u8 ⟨rfl, hb⟩
          have HB := Lib.hid (Lw.go_on HB.out hb)
          have HR := Lib.hid (HR.out.on hb)
          have hcc := HC.out u8 HR.out
          have c1 := hcc.1
          have c2 := hcc.2.1
          have c3 := hcc.2.2
          clear hb hcc
          clear c1 c2 c3 HC HR
          rcases ho2 with ⟨rfl, rfl⟩ | ⟨rfl, rfl⟩
          · go_wp2_with (go_at_call 11; refine (Lw.num_same _ _).mono ?_; rintro e u ⟨rfl, rfl⟩)
            go_ret
            exact ⟨rfl, HB.out⟩
          · go_wp2_with (go_at_call 11; refine (Lw.num_same _ _).mono ?_; rintro e u ⟨rfl, rfl⟩)
            go_ret
            exact ⟨rfl, HB.out⟩
      · have jl : ((j : Int) < 44) = False := eq_false (by omega)
        clear hlt hl
        go_upto_region 10 with (fail)
        clear jl
        have hcc := HC.out wr HR.out
        have c1 := hcc.1
        have c2 := hcc.2.1
        have c3 := hcc.2.2
        clear hcc
        go_wp2_with (go_at_call 10; fail)
        refine (H1.out _).mono ?_
        rintro e u0 ⟨rfl, hb⟩
        have HB := Lib.hid (Lw.go_on HB.out hb)
        have HR := Lib.hid (HR.out.on hb)
        have hcc := HC.out u0 HR.out
        have c1 := hcc.1
        have c2 := hcc.2.1
        have c3 := hcc.2.2
        clear hb hcc
        go_wp2_with (go_at_call 10; fail)
        refine (H2.out _).mono ?_
        rintro e u1 ⟨rfl, hb⟩
        have HB := Lib.hid (Lw.go_on HB.out hb)
        have HR := Lib.hid (HR.out.on hb)
        have hcc := HC.out u1 HR.out
        have c1 := hcc.1
        have c2 := hcc.2.1
        have c3 := hcc.2.2
        clear hb hcc
        go_wp2_with (go_at_call 10; fail)
        refine (H3.out _).mono ?_
        rintro e u2 ⟨rfl, hb⟩
        have HB := Lib.hid (Lw.go_on HB.out hb)
        have HR := Lib.hid (HR.out.on hb)
        have hcc := HC.out u2 HR.out
        have c1 := hcc.1
        have c2 := hcc.2.1
        have c3 := hcc.2.2
        clear hb hcc
        go_wp2_with (go_at_call 13; fail)
        refine (H4.out _).mono ?_
        rintro e u3 ⟨rfl, hb⟩
        have HB := Lib.hid (Lw.go_on HB.out hb)
        have HR := Lib.hid (HR.out.on hb)
        have hcc := HC.out u3 HR.out
        have c1 := hcc.1
        have c2 := hcc.2.1
        have c3 := hcc.2.2
        clear hb hcc
        go_wp2_with (go_at_call 13; fail)
        refine (H5.out _).mono ?_
        rintro e u4 ⟨rfl, hb⟩
        have HB := Lib.hid (Lw.go_on HB.out hb)
        have HR := Lib.hid (HR.out.on hb)
        have hcc := HC.out u4 HR.out
        have c1 := hcc.1
        have c2 := hcc.2.1
        have c3 := hcc.2.2
        clear hb hcc
        go_wp2_with (go_at_call 14; fail)
        refine (H6.out _).mono ?_
        rintro e u5 ⟨rfl, hb⟩
        have HB := Lib.hid (Lw.go_on HB.out hb)
        have HR := Lib.hid (HR.out.on hb)
        have hcc := HC.out u5 HR.out
        have c1 := hcc.1
        have c2 := hcc.2.1
        have c3 := hcc.2.2
        clear hb hcc
        cases a3
        · have ho := HO.out a2 (by have := HS.out; omega)
          obtain ⟨ho1, ho2⟩ := ho
          have h7 := Lib.hid (HO1.out a2 (by have := HS.out; omega))
          have h8 := Lib.hid (HO2.out a2)
          rw [ho1] at h7
          generalize Pol.poS K N a1 a2 = P at h7 h8
          generalize Ad.o8E 4867 K N a1 a2 = E1 at h7 ho2
          generalize Pol.poE K N a1 a2 = E2 at h8 ho2
          clear ho1
          go_wp2_with (go_at_call 15; fail)
          refine (h7.out _).mono ?_
          rintro e u7 ⟨rfl, hb⟩
          have HB := Lib.hid (Lw.go_on HB.out hb)
          have HR := Lib.hid (HR.out.on hb)
          have hcc := HC.out u7 HR.out
          have c1 := hcc.1
          have c2 := hcc.2.1
          have c3 := hcc.2.2
          clear hb hcc
          go_wp2_with (go_at_call 16; fail)
          refine (h8.out _).mono ?_
          rintro e u8 ⟨rfl, hb⟩
          have HB := Lib.hid (Lw.go_on HB.out hb)
          have HR := Lib.hid (HR.out.on hb)
          have hcc := HC.out u8 HR.out
          have c1 := hcc.1
          have c2 := hcc.2.1
          have c3 := hcc.2.2
          clear hb hcc
          clear c1 c2 c3 HC HR
          rcases ho2 with ⟨rfl, rfl⟩ | ⟨rfl, rfl⟩
          · go_wp2_with (go_at_call 11; refine (Lw.num_same _ _).mono ?_; rintro e u ⟨rfl, rfl⟩)
            go_ret
            exact ⟨rfl, HB.out⟩
          · go_wp2_with (go_at_call 11; refine (Lw.num_same _ _).mono ?_; rintro e u ⟨rfl, rfl⟩)
            go_ret
            exact ⟨rfl, HB.out⟩
        · have ho := HO.out A3 (by rw [HZ.out]; have := HS.out; omega)
          obtain ⟨ho1, ho2⟩ := ho
          have h7 := Lib.hid (HO1.out A3 (by rw [HZ.out]; have := HS.out; omega))
          have h8 := Lib.hid (HO2.out A3)
          rw [ho1] at h7
          generalize Pol.poS K N a1 A3 = P at h7 h8
          generalize Ad.o8E 4867 K N a1 A3 = E1 at h7 ho2
          generalize Pol.poE K N a1 A3 = E2 at h8 ho2
          clear ho1
          go_wp2_with (go_at_call 15; fail)
          refine (h7.out _).mono ?_
          rintro e u7 ⟨rfl, hb⟩
          have HB := Lib.hid (Lw.go_on HB.out hb)
          have HR := Lib.hid (HR.out.on hb)
          have hcc := HC.out u7 HR.out
          have c1 := hcc.1
          have c2 := hcc.2.1
          have c3 := hcc.2.2
          clear hb hcc
          go_wp2_with (go_at_call 16; fail)
          refine (h8.out _).mono ?_
          rintro e u8 ⟨rfl, hb⟩
          have HB := Lib.hid (Lw.go_on HB.out hb)
          have HR := Lib.hid (HR.out.on hb)
          have hcc := HC.out u8 HR.out
          have c1 := hcc.1
          have c2 := hcc.2.1
          have c3 := hcc.2.2
          clear hb hcc
          clear c1 c2 c3 HC HR
          rcases ho2 with ⟨rfl, rfl⟩ | ⟨rfl, rfl⟩
          · go_wp2_with (go_at_call 11; refine (Lw.num_same _ _).mono ?_; rintro e u ⟨rfl, rfl⟩)
            go_ret
            exact ⟨rfl, HB.out⟩
          · go_wp2_with (go_at_call 11; refine (Lw.num_same _ _).mono ?_; rintro e u ⟨rfl, rfl⟩)
            go_ret
            exact ⟨rfl, HB.out⟩

set_option maxRecDepth 100000 in
theorem lifted (os : Os) (started : os.Started) (H : Type) (enc : TypeId × Value → H) :
    ReturnsInHanded {} Try.checked os 4 .any (Rows.aeadSuitesSpec.pre6 enc Try.prog Try.f4 Rows.aeadSuitesRow.domain false) (Rows.aeadSuitesSpec.post enc Try.prog Try.f4 false true false false) := by
  refine returnsInHanded_of_change (C := Try.checked) own started (by kernel_rfl) Try.func4
    (ChangeSpec.witness6 (enc := enc) (C := Try.checked) false ⟨#[], #[.string ByteArray.empty, .string ByteArray.empty, .string ByteArray.empty, .bool false], []⟩ 8 (by kernel_rfl) (by kernel_rfl) (by kernel_rfl) (by kernel_rfl)) ?_
  intro W base args ds gs before hval0 hW hcnd _
  have hval : ∀ (j : Nat) t v, Try.f4.params[j]? = some t → args[j]? = some v → Value.okWide Try.prog W .any base t v := hval0
  have hW' := hW
  obtain ⟨p, q, hA0, hV, rfl, hfz, hnd⟩ := hW
  have hA : DataW.TrodAll enc Try.prog W 0 (fun _ => true) true Try.f4.params.toList args.toList ds p := hA0
  rw [Try.params4] at hA hval
  obtain ⟨v0, vs0, d0, ds0, p0, q0, hargs, rfl, rfl, h0, r0⟩ := trodAll_cons hA
  obtain ⟨v1, vs1, d1, ds1, p1, q1, rfl, rfl, rfl, h1, r1⟩ := trodAll_cons r0
  obtain ⟨v2, vs2, d2, ds2, p2, q2, rfl, rfl, rfl, h2, r2⟩ := trodAll_cons r1
  obtain ⟨v3, vs3, d3, ds3, p3, q3, rfl, rfl, rfl, h3, r3⟩ := trodAll_cons r2
  obtain ⟨rfl, rfl, rfl⟩ := trodAll_nil r3
  obtain rfl : args = #[v0, v1, v2, v3] := by cases args; simp_all
  obtain ⟨rfl, rfl⟩ := trodVars_none hV
  obtain ⟨a0, rfl, rfl, rfl, w0⟩ := open_string Try.underlying9 (hval 0 9 v0 rfl rfl) h0
  obtain ⟨a1, rfl, rfl, rfl, w1⟩ := open_string Try.underlying9 (hval 1 9 v1 rfl rfl) h1
  obtain ⟨a2, rfl, rfl, rfl, w2⟩ := open_string Try.underlying9 (hval 2 9 v2 rfl rfl) h2
  obtain ⟨a3, rfl, rfl, rfl⟩ := open_bool Try.underlying4 (hval 3 4 v3 rfl rfl) h3
  clear hA0 hval0
  simp only [List.append_nil] at hW'
  refine (walk a0 a1 a2 a3 w0 w1 w2 W).mono fun e W' ⟨he, bel⟩ => ?_
  subst he
  exact ⟨_, rfl, _, _, _, [], [], [], hW', trodAll_mk1 (shut_bool Try.underlying4 _), (trodAll_cons_mk (shut_string Try.underlying9 w0) (trodAll_cons_mk (shut_string Try.underlying9 w1) (trodAll_cons_mk (shut_string Try.underlying9 w2) (trodAll_cons_mk (shut_bool Try.underlying4 _) trodAll_mk0)))), rfl, bel.frame _, fun h => by cases h⟩

theorem over : Rows.aeadSuitesRow.holds Try.pinned (OpenSpec.ofChange Rows.aeadSuitesSpec) :=
  OpenClaim.holds_of_wide 4 Try.f4 rfl rfl rfl rfl rfl rfl rfl ⟨rfl, rfl, rfl, rfl, rfl⟩ rfl rfl rfl rfl rfl (by kernel_rfl) Try.func4 (by kernel_rfl)
    (of_decide_eq_true (by kernel_rfl)) (by unfold Func.isWrapper; first | (rw [if_pos (by decide +kernel)]; kernel_rfl) | (rw [if_neg (by decide +kernel)]; exact ⟨rfl, rfl⟩))
    (fun os started H enc _ => lifted os started H enc)

theorem proved : Rows.AeadSuitesSaid :=
  over
#print axioms proved
end Go.Proofs.Ytljhenjbjondkaa.aeadSuites
