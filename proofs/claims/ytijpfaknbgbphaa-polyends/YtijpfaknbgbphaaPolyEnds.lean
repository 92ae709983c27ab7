/-
  PolyEnds: Mac answers the document's tag of 16 bytes for keys and texts of the greatest bytes, where carries run, at every key's beginning and every two numbers; no condition.
-/
import Derived.Test.YtijpfaknbgbphaaPwW
import Derived.Test.YtijpfaknbgbphaaPolJ
import Derived.Test.YtijpfaknbgbphaaRows
import Derived.WalkKit
import Derived.ProofKit
import Derived.OpenShut
import Derived.ShutString
import Derived.Below
import Derived.ChangeOld
namespace Go.Proofs.Ytijpfaknbgbphaa.polyEnds
open Go.ChangeShapes Go.WideShapes Go.ChangeAt Go.RowKit
open Go.ChangeMaps (open_string shut_string)
set_option linter.unusedVariables false

theorem own : ownKnob Try.prog.godebug = none := by kernel_rfl

theorem u8_some (z : Int) : ∃ v : Nat, IntKind.u8.wrap z = (v : Int) ∧ z % 256 = (v : Int) := ⟨(z % 256).toNat, by show z % 256 = _; omega, by omega⟩
set_option maxHeartbeats 4000000 in
set_option maxRecDepth 100000 in
theorem walk (a0 : ByteArray) (a1 : Int) (a2 : Int) (_w0 : a0.size ≤ maxLen) (_w1 : (Lit.int .i64 a1).wf = true) (_w2 : (Lit.int .i64 a2).wf = true) (w : World) :
    Calls Try.prog 4 #[.string a0, .int .i64 a1, .int .i64 a2] w fun e w' => e = .returned (.bool true) ∧ Below w.heap.size w w' := by
  have HB : Hid (Below w.heap.size w w) := Below.refl _ _
  clear _w0 _w1 _w2
  obtain ⟨n, hn, hmn⟩ := Lw.maskN127 a1
  have HN := Lib.hid hn
  obtain ⟨v1, hv1, hv1b⟩ := u8_some a2
  obtain ⟨m7, hm7, hmm⟩ := Cd.maskN7 (a2 / 256)
  obtain ⟨v2, hv2, hv2b⟩ := u8_some (251 + (m7 : Int))
  have m7l : (m7 : Int) ≤ 7 := by omega
  obtain ⟨M, hM, hMc, hmk0⟩ := Lw.zeros 32 (by decide)
  have hmk : ∀ W : World, (Instr.makeSlice 32 (.int .i64 32) (.int .i64 32)).run Try.prog W = .ok (.slice (some ⟨W.heap.size, 0, none⟩) 32 32) (W.alloc (.cells M 5)) := hmk0
  have HM := Lib.hid hM
  have HMc := Lib.hid hMc
  obtain ⟨M2, hM2, hMc2, hmk2⟩ := Lw.zeros n (by omega)
  have HM2 := Lib.hid hM2
  have HMc2 := Lib.hid hMc2
  have HMk2 := Lib.hid hmk2
  have HV := Lib.hid (And.intro hv1 (And.intro hv1b (And.intro hmm (And.intro hv2 (And.intro hv2b m7l)))))
  have HMn := Lib.hid hmn
  clear hmk0 hM hMc hM2 hMc2 hmk2 hn hv1 hv1b hmm hv2 hv2b m7l hmn hm7
  go_enter Try.func4, Try.ntmps4
  go_wp2_with (go_at_call 15; fail)
  refine (Pw.awake7_any _).mono ?_
  rintro e u ⟨rfl, hb⟩
  have HB := Lib.hid (Lw.go_on HB.out hb)
  clear hb
  go_wp2_with (fail)
  have HR : Hid (Lw.RowB (u.alloc (.cells M 5)) u.heap.size 32 (fun _ => 0)) := Lw.rowB_new u M 32 HM.out HMc.out
  have HG : Hid (w.heap.size ≤ u.heap.size) := HB.out.size
  have HB : Hid (Below w.heap.size w (u.alloc (.cells M 5))) := HB.out.alloc HG.out _
  clear hmk HM HMc
  generalize u.heap.size = gk at HR HG ⊢
  generalize u.alloc (.cells M 5) = w1 at HR HB ⊢
  go_loopw [8] (fun v wx => ∃ (j : Nat) (X : Nat → Nat), Hid (j ≤ 32) ∧ v = .int .i64 j ∧ Hid (Lw.RowB wx gk 32 X) ∧ Hid (Below w.heap.size w wx)) (fun v _ => 32 - (intOf v).toNat)
  case atStart => exact ⟨0, fun _ => 0, Nat.zero_le _, rfl, HR, HB⟩
  case round =>
    clear HR HB
    obtain ⟨j, X, hj, rfl, HRk, HB⟩ := hrel
    by_cases hlt : j < 32
    · have jl : ((j : Int) < 32) = True := eq_true (by omega)
      have jl' : (j : Int) < 32 := by omega
      have xc := World.rowIs.cell HRk.out (i := j) hlt
      have xf := World.rowIs.frozen HRk.out j
      have HJ := Lib.hid hlt
      by_cases hr : j < a0.size
      · have js : ((j : Int) < (a0.size : Int)) = True := eq_true (by omega)
        have js' : (j : Int) < (a0.size : Int) := by omega
        have v0 : ∀ h : j < a0.size, (a0[j]'h).toNat = Aes.byt a0 j := fun h => Aes.get_byt a0 _ h
        clear hlt
        go_upto_region 8 with (fail)
        have HRk := Lib.hid (HRk.out.set j 255)
        have HB : Hid (Below w.heap.size w (wr.setCell ⟨gk, j, none⟩ (.int .u8 ((255 : Nat) : Int)))) := HB.out.setCell HG.out _
        rw [show ((255 : Nat) : Int) = 255 from rfl] at HRk HB
        clear xc xf
        generalize wr.setCell ⟨gk, j, none⟩ (.int .u8 255) = w3 at HRk HB ⊢
        have xc := World.rowIs.cell HRk.out (i := j) HJ.out
        have xf := World.rowIs.frozen HRk.out j
        dsimp only at xc
        go_wp2_with (fail)
        exact ⟨⟨j + 1, _, HJ.out, by go_num, HRk.out.set j (Aes.byt a0 j), HB.out.setCell HG.out _⟩, Lw.meas 32 j HJ.out⟩
      · have js : ((j : Int) < (a0.size : Int)) = False := eq_false (by omega)
        clear hlt hr
        go_wp2_with (fail)
        exact ⟨⟨j + 1, _, HJ.out, by go_num, HRk.out.set j 255, HB.out.setCell HG.out _⟩, Lw.meas 32 j HJ.out⟩
    · have jl : ((j : Int) < 32) = False := eq_false (by omega)
      clear hlt hj
      go_upto_region 10 with (fail)
      clear jl
      have hmn := HMn.out
      have hmk2 := HMk2.out
      go_wp2_with (fail)
      clear hmn hmk2 HMk2
      have HRb : Hid (Lw.RowB (wr.alloc (.cells M2 5)) wr.heap.size n (fun _ => 0)) := Lw.rowB_new wr M2 n HM2.out HMc2.out
      have HGb : Hid (w.heap.size ≤ wr.heap.size) := HB.out.size
      have HKb : Hid (gk < wr.heap.size) := World.rowIs.lt HRk.out
      have HRk : Hid (Lw.RowB (wr.alloc (.cells M2 5)) gk 32 X) := HRk.out.on ((Below.refl _ _).alloc (Nat.le_refl _) _)
      have HB : Hid (Below w.heap.size w (wr.alloc (.cells M2 5))) := HB.out.alloc HGb.out _
      clear HM2 HMc2
      generalize wr.heap.size = gb at HRb HGb HKb ⊢
      generalize wr.alloc (.cells M2 5) = w4 at HRb HRk HB ⊢
      go_loopw [11] (fun v wx => ∃ (i : Nat) (Y : Nat → Nat), Hid (i ≤ n) ∧ v = .int .i64 i ∧ Hid (Lw.RowB wx gb n Y) ∧ Hid (Lw.RowB wx gk 32 X) ∧ Hid (Below w.heap.size w wx)) (fun v _ => n - (intOf v).toNat)
      case atStart => exact ⟨0, fun _ => 0, Nat.zero_le _, rfl, HRb, HRk, HB⟩
      case round =>
        clear HRb HRk HB
        obtain ⟨i, Y, hi, rfl, HRb, HRk, HB⟩ := hrel
        by_cases hlt : i < n
        · have il : ((i : Int) < (n : Int)) = True := eq_true (by omega)
          have il' : (i : Int) < (n : Int) := by omega
          have i127 : (i : Int) < 127 := by have := HN.out; omega
          have xc := World.rowIs.cell HRb.out (i := i) hlt
          have xf := World.rowIs.frozen HRb.out i
          have HI := Lib.hid hlt
          clear hlt
          go_wp2_with (fail)
          exact ⟨⟨i + 1, _, HI.out, by go_num, HRb.out.set i 255, World.rowIs.setOther HRk.out (by show gk ≠ gb; have := HKb.out; omega) _, HB.out.setCell HGb.out _⟩, Lw.meas n i HI.out⟩
        · have il : ((i : Int) < (n : Int)) = False := eq_false (by omega)
          clear hlt hi
          go_upto_region 16 with (fail)
          clear il
          by_cases h0 : 0 < n
          · have n0 : ((0 : Int) < (n : Int)) = True := eq_true (by omega)
            have n0' : (0 < n) = True := eq_true h0
            have H0 := Lib.hid h0
            obtain ⟨k, hk⟩ : ∃ k, n - 1 = k := ⟨_, rfl⟩
            have HK := Lib.hid hk
            have k1 : (n : Int) - 1 = (k : Int) := by omega
            have k2 : (k : Int) < (n : Int) := by omega
            have k3 : (k : Int) ≤ 127 := by have := HN.out; omega
            have xc := World.rowIs.cell HRb.out (i := k) (by omega)
            have xf := World.rowIs.frozen HRb.out k
            have hv1 := HV.out.1
            have hv1b := HV.out.2.1
            clear h0 hk
            go_upto_region 18 with (fail)
            have HRb := Lib.hid (HRb.out.set k v1)
            have HRk : Hid (Lw.RowB (wr.setCell ⟨gb, k, none⟩ (.int .u8 (v1 : Int))) gk 32 X) := World.rowIs.setOther HRk.out (by show gk ≠ gb; have := HKb.out; omega) _
            have HB : Hid (Below w.heap.size w (wr.setCell ⟨gb, k, none⟩ (.int .u8 (v1 : Int)))) := HB.out.setCell HGb.out _
            clear xc xf hv1 hv1b k1 k2 k3
            generalize wr.setCell ⟨gb, k, none⟩ (.int .u8 (v1 : Int)) = w5 at HRb HRk HB ⊢
            have xc := World.rowIs.cell HRb.out (i := 0) H0.out
            have xf := World.rowIs.frozen HRb.out 0
            dsimp only at xc
            generalize (if 0 = k then v1 else Y 0) = old at xc
            have hmm := HV.out.2.2.1
            have hv2 := HV.out.2.2.2.1
            have hv2b := HV.out.2.2.2.2.1
            have m7l := HV.out.2.2.2.2.2
            go_upto_region 19 with (fail)
            have HRb := Lib.hid (HRb.out.set 0 v2)
            have HRk : Hid (Lw.RowB (w5.setCell ⟨gb, 0, none⟩ (.int .u8 (v2 : Int))) gk 32 X) := World.rowIs.setOther HRk.out (by show gk ≠ gb; have := HKb.out; omega) _
            have HB : Hid (Below w.heap.size w (w5.setCell ⟨gb, 0, none⟩ (.int .u8 (v2 : Int)))) := HB.out.setCell HGb.out _
            clear xc xf hmm hv2 hv2b m7l
            generalize w5.setCell ⟨gb, 0, none⟩ (.int .u8 (v2 : Int)) = w6 at HRb HRk HB ⊢
            generalize (fun t => if t = 0 then v2 else if t = k then v1 else Y t) = Y at HRb
            have hc1 := HRk.out.text 0 32 32 (by decide)
            have hc2 := HRb.out.text 0 n n (by omega)
            have HC : Hid (∀ W, Below w6.heap.size w6 W → (Go.convert 32 9 (.slice (some ⟨gk, 0, none⟩) 32 32)).run Try.prog W = .ok (.string (Lw.pieceS X 0 32)) W ∧ (Go.convert 32 9 (.slice (some ⟨gb, 0, none⟩) n n)).run Try.prog W = .ok (.string (Lw.pieceS Y 0 n)) W) := fun W b => ⟨(HRk.out.on b).text 0 32 32 (by decide), (HRb.out.on b).text 0 n n (by omega)⟩
            have HM1 := Lib.hid (fun u => Pw.mac_fine (Lw.pieceS X 0 32) (Lw.pieceS Y 0 n) u (Lw.pieceS_size _ _ _) (by rw [Lw.pieceS_size]; have := HN.out; omega))
            have HP1 := Lib.hid (fun u => Pw.poly_fine (Lw.pieceS X 0 32) (Lw.pieceS Y 0 n) u (Lw.pieceS_size _ _ _) (by rw [Lw.pieceS_size]; have := HN.out; omega))
            have zt := Pol.macS_size (Lw.pieceS X 0 32) (Lw.pieceS Y 0 n)
            generalize Pol.macS (Lw.pieceS X 0 32) (Lw.pieceS Y 0 n) = T at HM1 HP1 zt
            generalize Lw.pieceS X 0 32 = K at hc1 HC HM1 HP1
            generalize Lw.pieceS Y 0 n = B at hc2 HC HM1 HP1
            clear HRk HRb
            go_wp2_with (go_at_call 8; fail)
            refine (HM1.out _).mono ?_
            rintro e u1 ⟨rfl, hb⟩
            have hcc := HC.out _ hb
            have hc1 := hcc.1
            have hc2 := hcc.2
            have HB := Lib.hid (Lw.go_on HB.out hb)
            clear hb hcc
            go_wp2_with (go_at_call 9; fail)
            refine (HP1.out _).mono ?_
            rintro e u2 ⟨rfl, hb⟩
            have HB := Lib.hid (Lw.go_on HB.out hb)
            clear hb hc1 hc2 HC
            go_wp2_with (go_at_call 14; refine (Lw.num_same _ _).mono ?_; rintro e u ⟨rfl, rfl⟩)
            go_ret
            exact ⟨rfl, HB.out⟩
          · have n0 : ((0 : Int) < (n : Int)) = False := eq_false (by omega)
            have n0' : (0 < n) = False := eq_false h0
            clear h0
            go_upto_region 19 with (fail)
            have hc1 := HRk.out.text 0 32 32 (by decide)
            have hc2 := HRb.out.text 0 n n (by omega)
            have HC : Hid (∀ W, Below wr.heap.size wr W → (Go.convert 32 9 (.slice (some ⟨gk, 0, none⟩) 32 32)).run Try.prog W = .ok (.string (Lw.pieceS X 0 32)) W ∧ (Go.convert 32 9 (.slice (some ⟨gb, 0, none⟩) n n)).run Try.prog W = .ok (.string (Lw.pieceS Y 0 n)) W) := fun W b => ⟨(HRk.out.on b).text 0 32 32 (by decide), (HRb.out.on b).text 0 n n (by omega)⟩
            have HM1 := Lib.hid (fun u => Pw.mac_fine (Lw.pieceS X 0 32) (Lw.pieceS Y 0 n) u (Lw.pieceS_size _ _ _) (by rw [Lw.pieceS_size]; have := HN.out; omega))
            have HP1 := Lib.hid (fun u => Pw.poly_fine (Lw.pieceS X 0 32) (Lw.pieceS Y 0 n) u (Lw.pieceS_size _ _ _) (by rw [Lw.pieceS_size]; have := HN.out; omega))
            have zt := Pol.macS_size (Lw.pieceS X 0 32) (Lw.pieceS Y 0 n)
            generalize Pol.macS (Lw.pieceS X 0 32) (Lw.pieceS Y 0 n) = T at HM1 HP1 zt
            generalize Lw.pieceS X 0 32 = K at hc1 HC HM1 HP1
            generalize Lw.pieceS Y 0 n = B at hc2 HC HM1 HP1
            clear HRk HRb
            go_wp2_with (go_at_call 8; fail)
            refine (HM1.out _).mono ?_
            rintro e u1 ⟨rfl, hb⟩
            have hcc := HC.out _ hb
            have hc1 := hcc.1
            have hc2 := hcc.2
            have HB := Lib.hid (Lw.go_on HB.out hb)
            clear hb hcc
            go_wp2_with (go_at_call 9; fail)
            refine (HP1.out _).mono ?_
            rintro e u2 ⟨rfl, hb⟩
            have HB := Lib.hid (Lw.go_on HB.out hb)
            clear hb hc1 hc2 HC
            go_wp2_with (go_at_call 14; refine (Lw.num_same _ _).mono ?_; rintro e u ⟨rfl, rfl⟩)
            go_ret
            exact ⟨rfl, HB.out⟩

set_option maxRecDepth 100000 in
theorem lifted (os : Os) (started : os.Started) (H : Type) (enc : TypeId × Value → H) :
    ReturnsInHanded {} Try.checked os 4 .any (Rows.polyEndsSpec.pre6 enc Try.prog Try.f4 Rows.polyEndsRow.domain false) (Rows.polyEndsSpec.post enc Try.prog Try.f4 false true false false) := by
  refine returnsInHanded_of_change (C := Try.checked) own started (by kernel_rfl) Try.func4
    (ChangeSpec.witness6 (enc := enc) (C := Try.checked) false ⟨#[], #[.string ByteArray.empty, .int .i64 0, .int .i64 0], []⟩ 8 (by kernel_rfl) (by kernel_rfl) (by kernel_rfl) (by kernel_rfl)) ?_
  intro W base args ds gs before hval0 hW hcnd _
  have hval : ∀ (j : Nat) t v, Try.f4.params[j]? = some t → args[j]? = some v → Value.okWide Try.prog W .any base t v := hval0
  have hW' := hW
  obtain ⟨p, q, hA0, hV, rfl, hfz, hnd⟩ := hW
  have hA : DataW.TrodAll enc Try.prog W 0 (fun _ => true) true Try.f4.params.toList args.toList ds p := hA0
  rw [Try.params4] at hA hval
  obtain ⟨v0, vs0, d0, ds0, p0, q0, hargs, rfl, rfl, h0, r0⟩ := trodAll_cons hA
  obtain ⟨v1, vs1, d1, ds1, p1, q1, rfl, rfl, rfl, h1, r1⟩ := trodAll_cons r0
  obtain ⟨v2, vs2, d2, ds2, p2, q2, rfl, rfl, rfl, h2, r2⟩ := trodAll_cons r1
  obtain ⟨rfl, rfl, rfl⟩ := trodAll_nil r2
  obtain rfl : args = #[v0, v1, v2] := by cases args; simp_all
  obtain ⟨rfl, rfl⟩ := trodVars_none hV
  obtain ⟨a0, rfl, rfl, rfl, w0⟩ := open_string Try.underlying9 (hval 0 9 v0 rfl rfl) h0
  obtain ⟨a1, rfl, rfl, rfl, w1⟩ := open_int Try.underlying3 (hval 1 3 v1 rfl rfl) h1
  obtain ⟨a2, rfl, rfl, rfl, w2⟩ := open_int Try.underlying3 (hval 2 3 v2 rfl rfl) h2
  clear hA0 hval0
  simp only [List.append_nil] at hW'
  refine (walk a0 a1 a2 w0 w1 w2 W).mono fun e W' ⟨he, bel⟩ => ?_
  subst he
  exact ⟨_, rfl, _, _, _, [], [], [], hW', trodAll_mk1 (shut_bool Try.underlying4 _), (trodAll_cons_mk (shut_string Try.underlying9 w0) (trodAll_cons_mk (shut_int Try.underlying3 w1) (trodAll_cons_mk (shut_int Try.underlying3 w2) trodAll_mk0))), rfl, bel.frame _, fun h => by cases h⟩

theorem over : Rows.polyEndsRow.holds Try.pinned (OpenSpec.ofChange Rows.polyEndsSpec) :=
  OpenClaim.holds_of_wide 4 Try.f4 rfl rfl rfl rfl rfl rfl rfl ⟨rfl, rfl, rfl, rfl, rfl⟩ rfl rfl rfl rfl rfl (by kernel_rfl) Try.func4 (by kernel_rfl)
    (of_decide_eq_true (by kernel_rfl)) (by unfold Func.isWrapper; first | (rw [if_pos (by decide +kernel)]; kernel_rfl) | (rw [if_neg (by decide +kernel)]; exact ⟨rfl, rfl⟩))
    (fun os started H enc _ => lifted os started H enc)

theorem proved : Rows.PolyEndsSaid :=
  over
#print axioms proved
end Go.Proofs.Ytijpfaknbgbphaa.polyEnds
