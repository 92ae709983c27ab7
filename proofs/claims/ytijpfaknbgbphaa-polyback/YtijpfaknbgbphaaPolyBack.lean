/-
  PolyBack: what Seal made of a text and an added text of at most 5000 bytes under the key and nonce of a seed is opened by Open, at every seed; no condition.
-/
import Derived.Test.YtijpfaknbgbphaaPwW
import Derived.Test.YtijpfaknbgbphaaPolJ
import Derived.Test.YtijpfaknbgbphaaRows
import Derived.WalkKit
import Derived.ProofKit
import Derived.OpenShut
import Derived.ShutString
import Derived.Below
import Derived.ChangeOld
namespace Go.Proofs.Ytijpfaknbgbphaa.polyBack
open Go.ChangeShapes Go.WideShapes Go.ChangeAt Go.RowKit
open Go.ChangeMaps (open_string shut_string)
set_option linter.unusedVariables false

theorem own : ownKnob Try.prog.godebug = none := by kernel_rfl

set_option maxHeartbeats 4000000 in
set_option maxRecDepth 100000 in
theorem walk (a0 : ByteArray) (a1 : ByteArray) (a2 : ByteArray) (_w0 : a0.size ≤ maxLen) (_w1 : a1.size ≤ maxLen) (_w2 : a2.size ≤ maxLen) (w : World) :
    Calls Try.prog 5 #[.string a0, .string a1, .string a2] w fun e w' => e = .returned (.bool true) ∧ Below w.heap.size w w' := by
  have HB : Hid (Below w.heap.size w w) := Below.refl _ _
  clear _w0 _w1 _w2
  by_cases hs : 5000 < a2.size
  · have e3 : ((5000 : Int) < (a2.size : Int)) = True := eq_true (by omega)
    clear hs
    go_enter Try.func5, Try.ntmps5
    go_wp2_with (first | (go_at_call 14; refine (Lw.num_same _ _).mono ?_; rintro e u ⟨rfl, rfl⟩) | (go_at_call 15; refine (Pw.awake7_any _).mono ?_; rintro e u ⟨rfl, hb⟩; have HB := Lib.hid (Lw.go_on HB.out hb); clear hb))
    go_ret
    exact ⟨rfl, HB.out⟩
  by_cases ha : 5000 < a1.size
  · have e3 : ((5000 : Int) < (a2.size : Int)) = False := eq_false (by omega)
    have e4 : ((5000 : Int) < (a1.size : Int)) = True := eq_true (by omega)
    clear hs ha
    go_enter Try.func5, Try.ntmps5
    go_wp2_with (first | (go_at_call 14; refine (Lw.num_same _ _).mono ?_; rintro e u ⟨rfl, rfl⟩) | (go_at_call 15; refine (Pw.awake7_any _).mono ?_; rintro e u ⟨rfl, hb⟩; have HB := Lib.hid (Lw.go_on HB.out hb); clear hb))
    go_ret
    exact ⟨rfl, HB.out⟩
  have e3 : ((5000 : Int) < (a2.size : Int)) = False := eq_false (by omega)
  have e4 : ((5000 : Int) < (a1.size : Int)) = False := eq_false (by omega)
  have HS : Hid (a2.size ≤ 5000) := by show a2.size ≤ 5000; omega
  have HA : Hid (a1.size ≤ 5000) := by show a1.size ≤ 5000; omega
  clear hs ha
  obtain ⟨M, hM, hMc, hmk0⟩ := Lw.zeros 44 (by decide)
  have hmk : ∀ W : World, (Instr.makeSlice 32 (.int .i64 44) (.int .i64 44)).run Try.prog W = .ok (.slice (some ⟨W.heap.size, 0, none⟩) 44 44) (W.alloc (.cells M 5)) := hmk0
  have HM := Lib.hid hM
  have HMc := Lib.hid hMc
  clear hmk0 hM hMc
  go_enter Try.func5, Try.ntmps5
  go_wp2_with (go_at_call 15; fail)
  refine (Pw.awake7_any _).mono ?_
  rintro e u ⟨rfl, hb⟩
  have HB := Lib.hid (Lw.go_on HB.out hb)
  clear hb
  go_wp2_with (fail)
  have HR : Hid (Lw.RowB (u.alloc (.cells M 5)) u.heap.size 44 (fun _ => 0)) := Lw.rowB_new u M 44 HM.out HMc.out
  have HG : Hid (w.heap.size ≤ u.heap.size) := HB.out.size
  have HB : Hid (Below w.heap.size w (u.alloc (.cells M 5))) := HB.out.alloc HG.out _
  clear hmk HM HMc e3 e4
  generalize u.heap.size = g at HR HG ⊢
  generalize u.alloc (.cells M 5) = w1 at HR HB ⊢
  go_loopw [8] (fun v wx => ∃ (j : Nat) (X : Nat → Nat), Hid (j ≤ 44) ∧ v = .int .i64 j ∧ Hid (Lw.RowB wx g 44 X) ∧ Hid (∀ t, X t < 256) ∧ Hid (Below w.heap.size w wx)) (fun v _ => 44 - (intOf v).toNat)
  case atStart => exact ⟨0, fun _ => 0, Nat.zero_le _, rfl, HR, fun _ => by show 0 < 256; decide, HB⟩
  case round =>
    clear HR HB
    obtain ⟨j, X, hj, rfl, HR, HX, HB⟩ := hrel
    by_cases hlt : j < 44 ∧ j < a0.size
    · have jl : ((j : Int) < 44) = True := eq_true (by omega)
      have jl' : (j : Int) < 44 := by omega
      have js : ((j : Int) < (a0.size : Int)) = True := eq_true (by omega)
      have js' : (j : Int) < (a0.size : Int) := by omega
      have jn : j < a0.size := hlt.2
      have xc := World.rowIs.cell HR.out (i := j) hlt.1
      have xf := World.rowIs.frozen HR.out j
      have v0 : ∀ h : j < a0.size, (a0[j]'h).toNat = Aes.byt a0 j := fun h => Aes.get_byt a0 _ h
      have HJ := Lib.hid hlt.1
      clear hlt
      go_wp2_with (fail)
      refine ⟨⟨j + 1, fun i => if i = j then Aes.byt a0 j else X i, HJ.out, by go_num, HR.out.set j _, fun t => ?_, HB.out.setCell HG.out _⟩, Lw.meas 44 j HJ.out⟩
      show (if t = j then _ else X t) < 256
      split
      · exact Aes.byt_lt _ _
      · exact HX.out t
    · have HK : Hid ((Lw.pieceS X 0 32).size = 32) := Lw.pieceS_size _ _ _
      have HN : Hid ((Lw.pieceS X 32 12).size = 12) := Lw.pieceS_size _ _ _
      have HC : Hid (∀ W, Lw.RowB W g 44 X → Below w.heap.size w W → (Go.convert 32 9 (.slice (some ⟨g, 0, none⟩) 32 44)).run Try.prog W = .ok (.string (Lw.pieceS X 0 32)) W ∧ (Go.convert 32 9 (.slice (some ⟨g, 32, none⟩) 12 12)).run Try.prog W = .ok (.string (Lw.pieceS X 32 12)) W ∧ Lw.RowB W g 44 X ∧ Below w.heap.size w W) := fun W r b => ⟨r.text 0 32 44 (by decide), r.text 32 12 12 (by decide), r, b⟩
      generalize Lw.pieceS X 0 32 = K at HC HK
      generalize Lw.pieceS X 32 12 = N at HC HN
      have HSe : Hid (∀ u, Lw.RowB u g 44 X → Below w.heap.size w u → Calls Try.prog 10 #[.string K, .string N, .string a1, .string a2] u fun e W => e = .returned (.tuple #[.string (Pol.sealT K N a1 a2), .int .i64 0]) ∧ (Go.convert 32 9 (.slice (some ⟨g, 0, none⟩) 32 44)).run Try.prog W = .ok (.string K) W ∧ (Go.convert 32 9 (.slice (some ⟨g, 32, none⟩) 12 12)).run Try.prog W = .ok (.string N) W ∧ Lw.RowB W g 44 X ∧ Below w.heap.size w W) := fun u r b =>
        (Pw.seal_fine K N a1 a2 u HK.out HN.out (by have := HA.out; omega) (by have := HS.out; omega)).mono fun _ _ ⟨h1, h2⟩ => ⟨h1, HC.out _ (r.on h2) (Lw.go_on b h2)⟩
      have HOp : Hid (∀ u, Lw.RowB u g 44 X → Below w.heap.size w u → Calls Try.prog 12 #[.string K, .string N, .string a1, .string (Pol.sealT K N a1 a2)] u fun e W => e = .returned (.tuple #[.string a2, .int .i64 0]) ∧ (Go.convert 32 9 (.slice (some ⟨g, 0, none⟩) 32 44)).run Try.prog W = .ok (.string K) W ∧ (Go.convert 32 9 (.slice (some ⟨g, 32, none⟩) 12 12)).run Try.prog W = .ok (.string N) W ∧ Lw.RowB W g 44 X ∧ Below w.heap.size w W) := fun u r b =>
        (Pw.open_fine K N a1 a2 u HK.out HN.out (by have := HA.out; omega) (by have := HS.out; omega)).mono fun _ _ ⟨h1, h2⟩ => ⟨h1, HC.out _ (r.on h2) (Lw.go_on b h2)⟩
      have HZ : Hid ((Pol.sealT K N a1 a2).size = a2.size + 16) := Pol.sealT_size _ _ _ _
      generalize Pol.sealT K N a1 a2 = R at HSe HOp HZ
      by_cases hl : j < 44
      · have jl : ((j : Int) < 44) = True := eq_true (by omega)
        have js : ((j : Int) < (a0.size : Int)) = False := eq_false (by omega)
        clear hlt hl
        go_upto_region 10 with (fail)
        clear jl js
        have hSd := HC.out wr.drew HR.out.drew HB.out.drew
        clear HR HB
        go_region_held3 (fun W => (Go.convert 32 9 (.slice (some ⟨g, 0, none⟩) 32 44)).run Try.prog W = .ok (.string K) W ∧ (Go.convert 32 9 (.slice (some ⟨g, 32, none⟩) 12 12)).run Try.prog W = .ok (.string N) W ∧ Lw.RowB W g 44 X ∧ Below w.heap.size w W) (first | exact hS1 | exact hSd)
          (first | (go_at_call 10; refine (HSe.out _ hSd.2.2.1 hSd.2.2.2).mono ?_; rintro e u1 ⟨rfl, hS1⟩))
        clear hSd
        go_upto_region 11 with (fail)
        have hSe := HC.out u1.drew hS1.2.2.1.drew hS1.2.2.2.drew
        clear hS1
        go_region_held3 (fun W => (Go.convert 32 9 (.slice (some ⟨g, 0, none⟩) 32 44)).run Try.prog W = .ok (.string K) W ∧ (Go.convert 32 9 (.slice (some ⟨g, 32, none⟩) 12 12)).run Try.prog W = .ok (.string N) W ∧ Lw.RowB W g 44 X ∧ Below w.heap.size w W) (first | exact hS2 | exact hSe)
          (first | (go_at_call 12; refine (HOp.out _ hSe.2.2.1 hSe.2.2.2).mono ?_; rintro e u2 ⟨rfl, hS2⟩))
        have HB := Lib.hid hS2.2.2.2
        clear hSe hS2
        have hz := HZ.out
        have q1 : (a2.size : Int) ≤ 5000 := by have := HS.out; omega
        go_wp2_with (go_at_call 14; refine (Lw.num_same _ _).mono ?_; rintro e u ⟨rfl, rfl⟩)
        go_ret
        exact ⟨rfl, HB.out⟩
      · have jl : ((j : Int) < 44) = False := eq_false (by omega)
        clear hlt hl
        go_upto_region 10 with (fail)
        clear jl
        have hSd := HC.out wr.drew HR.out.drew HB.out.drew
        clear HR HB
        go_region_held3 (fun W => (Go.convert 32 9 (.slice (some ⟨g, 0, none⟩) 32 44)).run Try.prog W = .ok (.string K) W ∧ (Go.convert 32 9 (.slice (some ⟨g, 32, none⟩) 12 12)).run Try.prog W = .ok (.string N) W ∧ Lw.RowB W g 44 X ∧ Below w.heap.size w W) (first | exact hS1 | exact hSd)
          (first | (go_at_call 10; refine (HSe.out _ hSd.2.2.1 hSd.2.2.2).mono ?_; rintro e u1 ⟨rfl, hS1⟩))
        clear hSd
        go_upto_region 11 with (fail)
        have hSe := HC.out u1.drew hS1.2.2.1.drew hS1.2.2.2.drew
        clear hS1
        go_region_held3 (fun W => (Go.convert 32 9 (.slice (some ⟨g, 0, none⟩) 32 44)).run Try.prog W = .ok (.string K) W ∧ (Go.convert 32 9 (.slice (some ⟨g, 32, none⟩) 12 12)).run Try.prog W = .ok (.string N) W ∧ Lw.RowB W g 44 X ∧ Below w.heap.size w W) (first | exact hS2 | exact hSe)
          (first | (go_at_call 12; refine (HOp.out _ hSe.2.2.1 hSe.2.2.2).mono ?_; rintro e u2 ⟨rfl, hS2⟩))
        have HB := Lib.hid hS2.2.2.2
        clear hSe hS2
        have hz := HZ.out
        have q1 : (a2.size : Int) ≤ 5000 := by have := HS.out; omega
        go_wp2_with (go_at_call 14; refine (Lw.num_same _ _).mono ?_; rintro e u ⟨rfl, rfl⟩)
        go_ret
        exact ⟨rfl, HB.out⟩

set_option maxRecDepth 100000 in
theorem lifted (os : Os) (started : os.Started) (H : Type) (enc : TypeId × Value → H) :
    ReturnsInHanded {} Try.checked os 5 .any (Rows.polyBackSpec.pre6 enc Try.prog Try.f5 Rows.polyBackRow.domain false) (Rows.polyBackSpec.post enc Try.prog Try.f5 false true false false) := by
  refine returnsInHanded_of_change (C := Try.checked) own started (by kernel_rfl) Try.func5
    (ChangeSpec.witness6 (enc := enc) (C := Try.checked) false ⟨#[], #[.string ByteArray.empty, .string ByteArray.empty, .string ByteArray.empty], []⟩ 8 (by kernel_rfl) (by kernel_rfl) (by kernel_rfl) (by kernel_rfl)) ?_
  intro W base args ds gs before hval0 hW hcnd _
  have hval : ∀ (j : Nat) t v, Try.f5.params[j]? = some t → args[j]? = some v → Value.okWide Try.prog W .any base t v := hval0
  have hW' := hW
  obtain ⟨p, q, hA0, hV, rfl, hfz, hnd⟩ := hW
  have hA : DataW.TrodAll enc Try.prog W 0 (fun _ => true) true Try.f5.params.toList args.toList ds p := hA0
  rw [Try.params5] at hA hval
  obtain ⟨v0, vs0, d0, ds0, p0, q0, hargs, rfl, rfl, h0, r0⟩ := trodAll_cons hA
  obtain ⟨v1, vs1, d1, ds1, p1, q1, rfl, rfl, rfl, h1, r1⟩ := trodAll_cons r0
  obtain ⟨v2, vs2, d2, ds2, p2, q2, rfl, rfl, rfl, h2, r2⟩ := trodAll_cons r1
  obtain ⟨rfl, rfl, rfl⟩ := trodAll_nil r2
  obtain rfl : args = #[v0, v1, v2] := by cases args; simp_all
  obtain ⟨rfl, rfl⟩ := trodVars_none hV
  obtain ⟨a0, rfl, rfl, rfl, w0⟩ := open_string Try.underlying9 (hval 0 9 v0 rfl rfl) h0
  obtain ⟨a1, rfl, rfl, rfl, w1⟩ := open_string Try.underlying9 (hval 1 9 v1 rfl rfl) h1
  obtain ⟨a2, rfl, rfl, rfl, w2⟩ := open_string Try.underlying9 (hval 2 9 v2 rfl rfl) h2
  clear hA0 hval0
  simp only [List.append_nil] at hW'
  refine (walk a0 a1 a2 w0 w1 w2 W).mono fun e W' ⟨he, bel⟩ => ?_
  subst he
  exact ⟨_, rfl, _, _, _, [], [], [], hW', trodAll_mk1 (shut_bool Try.underlying4 _), (trodAll_cons_mk (shut_string Try.underlying9 w0) (trodAll_cons_mk (shut_string Try.underlying9 w1) (trodAll_cons_mk (shut_string Try.underlying9 w2) trodAll_mk0))), rfl, bel.frame _, fun h => by cases h⟩

theorem over : Rows.polyBackRow.holds Try.pinned (OpenSpec.ofChange Rows.polyBackSpec) :=
  OpenClaim.holds_of_wide 5 Try.f5 rfl rfl rfl rfl rfl rfl rfl ⟨rfl, rfl, rfl, rfl, rfl⟩ rfl rfl rfl rfl rfl (by kernel_rfl) Try.func5 (by kernel_rfl)
    (of_decide_eq_true (by kernel_rfl)) (by unfold Func.isWrapper; first | (rw [if_pos (by decide +kernel)]; kernel_rfl) | (rw [if_neg (by decide +kernel)]; exact ⟨rfl, rfl⟩))
    (fun os started H enc _ => lifted os started H enc)

theorem proved : Rows.PolyBackSaid :=
  over
#print axioms proved
end Go.Proofs.Ytijpfaknbgbphaa.polyBack
