/-
  PolyKnown: Mac answers RFC 8439's tag, and a key of another size than 32 noughts is refused, at every number; no condition.
-/
import Derived.Test.YtijpfaknbgbphaaPwW
import Derived.Test.YtijpfaknbgbphaaPolJ
import Derived.Test.YtijpfaknbgbphaaRows
import Derived.WalkKit
import Derived.ProofKit
import Derived.OpenShut
import Derived.ShutString
import Derived.Below
import Derived.ChangeOld
namespace Go.Proofs.Ytijpfaknbgbphaa.polyKnown
open Go.ChangeShapes Go.WideShapes Go.ChangeAt Go.RowKit
open Go.ChangeMaps (open_string shut_string)
set_option linter.unusedVariables false

theorem own : ownKnob Try.prog.godebug = none := by kernel_rfl

theorem z16_same : Lw.pieceS (fun _ => 0) 0 16 = Cha.z32.extract 0 16 := by decide +kernel
set_option maxHeartbeats 4000000 in
set_option maxRecDepth 100000 in
theorem walk (a0 : Int) (_w0 : (Lit.int .i64 a0).wf = true) (w : World) :
    Calls Try.prog 7 #[.int .i64 a0] w fun e w' => e = .returned (.bool true) ∧ Below w.heap.size w w' := by
  have HB : Hid (Below w.heap.size w w) := Below.refl _ _
  clear _w0
  have k1 : Hid (∀ w, Calls Try.prog 8 #[.string ⟨#[133, 214, 190, 120, 87, 85, 109, 51, 127, 68, 82, 254, 66, 213, 6, 168, 1, 3, 128, 138, 251, 13, 178, 253, 74, 191, 246, 175, 65, 73, 245, 27]⟩, .string ⟨#[67, 114, 121, 112, 116, 111, 103, 114, 97, 112, 104, 105, 99, 32, 70, 111, 114, 117, 109, 32, 82, 101, 115, 101, 97, 114, 99, 104, 32, 71, 114, 111, 117, 112]⟩] w fun e w' => e = .returned (.tuple #[.string ⟨#[168, 6, 29, 193, 48, 81, 54, 198, 194, 43, 139, 175, 12, 1, 39, 169]⟩, .int .i64 0]) ∧ Below w.heap.size w w') := fun w => by
    have h := Pw.mac_fine Pol.keyR Pol.textR w (by decide) (by decide)
    rw [Pol.mac_rfc] at h
    exact h
  obtain ⟨n, hn, hm⟩ := Lw.maskN63 a0
  obtain ⟨M, hM, hMc, hmk0⟩ := Lw.zeros n (by omega)
  have HM := Lib.hid hM
  have HMc := Lib.hid hMc
  by_cases h32 : n = 32
  · subst h32
    have hmk : ∀ W : World, (Instr.makeSlice 32 (.int .i64 32) (.int .i64 32)).run Try.prog W = .ok (.slice (some ⟨W.heap.size, 0, none⟩) 32 32) (W.alloc (.cells M 5)) := hmk0
    have hm : bits .and .i64 a0 63 = 32 := hm
    obtain ⟨T, hT⟩ : ∃ T, Cha.z32.extract 0 16 = T := ⟨_, rfl⟩
    have k2 : Hid (∀ w, Calls Try.prog 8 #[.string Cha.z32, .string ⟨#[97, 98, 99]⟩] w fun e w' => e = .returned (.tuple #[.string T, .int .i64 0]) ∧ Below w.heap.size w w') := fun w => by
      have h := Pw.mac_fine Cha.z32 Pol.abcS w (by decide) (by decide)
      rw [Pol.mac_abc, hT] at h
      exact h
    obtain ⟨M2, hM2, hMc2, hmk20⟩ := Lw.zeros 16 (by decide)
    have hmk2 : ∀ W : World, (Instr.makeSlice 32 (.int .i64 16) (.int .i64 16)).run Try.prog W = .ok (.slice (some ⟨W.heap.size, 0, none⟩) 16 16) (W.alloc (.cells M2 5)) := hmk20
    have HM2 := Lib.hid hM2
    have HMc2 := Lib.hid hMc2
    have HT := Lib.hid hT
    have hcv := fun W => Pw.nought32 _ _ (Lw.rowB_new W M 32 HM.out HMc.out)
    generalize Cha.z32 = Z at k2 hcv
    clear hmk0 hM hMc hmk20 hM2 hMc2 hn hT
    go_enter Try.func7, Try.ntmps7
    go_wp2_with (go_at_call 15; fail)
    refine (Pw.awake7_any _).mono ?_
    rintro e u ⟨rfl, hb⟩
    have HB := Lib.hid (Lw.go_on HB.out hb)
    clear hb
    go_wp2_with (go_at_call 8; fail)
    refine (k1.out _).mono ?_
    rintro e u ⟨rfl, hb⟩
    have HB := Lib.hid (Lw.go_on HB.out hb)
    clear hb
    go_wp2_with (go_at_call 8; fail)
    refine (k2.out _).mono ?_
    rintro e u2 ⟨rfl, hb⟩
    have HB := Lib.hid (Lw.go_on (HB.out.alloc HB.out.size _) hb)
    clear hb hcv hmk
    have hcv2 := fun W => (Lw.rowB_new W M2 16 HM2.out HMc2.out).text 0 16 16 (by decide)
    rw [z16_same, HT.out] at hcv2
    go_wp2_with (go_at_call 14; refine (Lw.num_same _ _).mono ?_; rintro e u ⟨rfl, rfl⟩)
    go_ret
    exact ⟨rfl, HB.out.alloc HB.out.size _⟩
  · have hmk := hmk0
    have hcv := fun W => (Lw.rowB_new W M n HM.out HMc.out).text 0 n n (by omega)
    have zs : (Lw.pieceS (fun _ => 0) 0 n).size = n := Lw.pieceS_size _ _ _
    have k2 : Hid (∀ w, Calls Try.prog 8 #[.string (Lw.pieceS (fun _ => 0) 0 n), .string ⟨#[97, 98, 99]⟩] w fun e w' => e = .returned (.tuple #[.string ⟨#[]⟩, .int .i64 700]) ∧ Below w.heap.size w w') := fun w => Pw.mac_none _ Pol.abcS w (by omega) (by decide)
    generalize Lw.pieceS (fun _ => 0) 0 n = Z at k2 hcv
    have n32 : ((n : Int) = 32) = False := eq_false (by omega)
    have n32b : ((n : Int) == 32) = false := by simpa using n32
    have n32c : ((n : Int) != 32) = true := by simp only [bne, n32b]; rfl
    clear hmk0 hM hMc zs hn h32
    go_enter Try.func7, Try.ntmps7
    go_wp2_with (go_at_call 15; fail)
    refine (Pw.awake7_any _).mono ?_
    rintro e u ⟨rfl, hb⟩
    have HB := Lib.hid (Lw.go_on HB.out hb)
    clear hb
    go_wp2_with (go_at_call 8; fail)
    refine (k1.out _).mono ?_
    rintro e u ⟨rfl, hb⟩
    have HB := Lib.hid (Lw.go_on HB.out hb)
    clear hb
    go_wp2_with (go_at_call 8; fail)
    refine (k2.out _).mono ?_
    rintro e u2 ⟨rfl, hb⟩
    have HB := Lib.hid (Lw.go_on (HB.out.alloc HB.out.size _) hb)
    clear hb hcv hmk
    go_wp2_with (go_at_call 14; refine (Lw.num_same _ _).mono ?_; rintro e u ⟨rfl, rfl⟩)
    go_ret
    exact ⟨rfl, HB.out⟩

set_option maxRecDepth 100000 in
theorem lifted (os : Os) (started : os.Started) (H : Type) (enc : TypeId × Value → H) :
    ReturnsInHanded {} Try.checked os 7 .any (Rows.polyKnownSpec.pre6 enc Try.prog Try.f7 Rows.polyKnownRow.domain false) (Rows.polyKnownSpec.post enc Try.prog Try.f7 false true false false) := by
  refine returnsInHanded_of_change (C := Try.checked) own started (by kernel_rfl) Try.func7
    (ChangeSpec.witness6 (enc := enc) (C := Try.checked) false ⟨#[], #[.int .i64 0], []⟩ 8 (by kernel_rfl) (by kernel_rfl) (by kernel_rfl) (by kernel_rfl)) ?_
  intro W base args ds gs before hval0 hW hcnd _
  have hval : ∀ (j : Nat) t v, Try.f7.params[j]? = some t → args[j]? = some v → Value.okWide Try.prog W .any base t v := hval0
  have hW' := hW
  obtain ⟨p, q, hA0, hV, rfl, hfz, hnd⟩ := hW
  have hA : DataW.TrodAll enc Try.prog W 0 (fun _ => true) true Try.f7.params.toList args.toList ds p := hA0
  rw [Try.params7] at hA hval
  obtain ⟨v0, vs0, d0, ds0, p0, q0, hargs, rfl, rfl, h0, r0⟩ := trodAll_cons hA
  obtain ⟨rfl, rfl, rfl⟩ := trodAll_nil r0
  obtain rfl : args = #[v0] := by cases args; simp_all
  obtain ⟨rfl, rfl⟩ := trodVars_none hV
  obtain ⟨a0, rfl, rfl, rfl, w0⟩ := open_int Try.underlying3 (hval 0 3 v0 rfl rfl) h0
  clear hA0 hval0
  simp only [List.append_nil] at hW'
  refine (walk a0 w0 W).mono fun e W' ⟨he, bel⟩ => ?_
  subst he
  exact ⟨_, rfl, _, _, _, [], [], [], hW', trodAll_mk1 (shut_bool Try.underlying4 _), (trodAll_cons_mk (shut_int Try.underlying3 w0) trodAll_mk0), rfl, bel.frame _, fun h => by cases h⟩

theorem over : Rows.polyKnownRow.holds Try.pinned (OpenSpec.ofChange Rows.polyKnownSpec) :=
  OpenClaim.holds_of_wide 7 Try.f7 rfl rfl rfl rfl rfl rfl rfl ⟨rfl, rfl, rfl, rfl, rfl⟩ rfl rfl rfl rfl rfl (by kernel_rfl) Try.func7 (by kernel_rfl)
    (of_decide_eq_true (by kernel_rfl)) (by unfold Func.isWrapper; first | (rw [if_pos (by decide +kernel)]; kernel_rfl) | (rw [if_neg (by decide +kernel)]; exact ⟨rfl, rfl⟩))
    (fun os started H enc _ => lifted os started H enc)

theorem proved : Rows.PolyKnownSaid :=
  over
#print axioms proved
end Go.Proofs.Ytijpfaknbgbphaa.polyKnown
