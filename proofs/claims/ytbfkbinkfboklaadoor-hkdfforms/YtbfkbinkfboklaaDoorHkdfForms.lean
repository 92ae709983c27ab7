/-
  Hmac, Extract, Expand and Label of package hkdf answer the document's error at bits of neither hash, Expand answers it below nought and above 255 digests, and answers no bytes where none are asked for.
-/
import Derived.Test.YtbfkbinkfboklaaDoorKdH
import Derived.Test.YtbfkbinkfboklaaDoorRows
import Derived.WalkKit
import Derived.ProofKit
import Derived.OpenShut
import Derived.ShutString
import Derived.Test.YtbfkbinkfboklaaDoorImW
import Derived.Test.YtbfkbinkfboklaaDoorTie
import Derived.Test.YtbfkbinkfboklaaDoorCards
import Derived.SevenTiedAt
import Derived.SizedLaws
import Derived.Stop.Joined
import Derived.LaidMore
import Derived.Below
import Derived.ChangeOld
namespace Go.Proofs.YtbfkbinkfboklaaDoor.hkdfForms
open Go.ChangeShapes Go.WideShapes Go.ChangeAt Go.RowKit
open Go.Proofs.YtbfkbinkfboklaaDoor
open Go.ChangeMaps (open_string shut_string)
set_option linter.unusedVariables false

theorem own : ownKnob Tryd.prog.godebug = none := by kernel_rfl

set_option maxHeartbeats 4000000 in
set_option maxRecDepth 100000 in
theorem walk (a0 : Int) (a1 : Int) (a2 : ByteArray) (w0 : (Lit.int .i64 a0).wf = true) (w1 : (Lit.int .i64 a1).wf = true) (r2 : a2.size ≤ 140737488355328) (w : World) (hT : Im.Tab w) :
    Calls Tryd.prog 7 #[.int .i64 a0, .int .i64 a1, .string a2] w fun e w' => e = .returned (.bool true) ∧ Below w.heap.size w w' := by
  have HT := Lib.hid hT
  have HK : Hid (a2.size ≤ 288230376151711744) := Nat.le_trans r2 (by decide)
  have HB : Hid (Below w.heap.size w w) := Below.refl _ _
  obtain ⟨x, hx, hm⟩ := Im.maskN1023 a1
  have x1 : (x : Int) ≤ 1023 := by omega
  clear hT r2 w1 hx
  by_cases h1 : a0 = 256
  · subst h1
    go_enter Tryd.func7, Tryd.ntmps7
    go_wp2_with (fail)
    refine (Kd.awake3_any _ (Im.tab_of HT.out HB.out)).mono ?_
    rintro e u ⟨rfl, hb⟩
    have HB := Lib.hid (Im.go_on HB.out hb)
    clear hb
    go_wp2_with (fail)
    refine (Kd.hmac_none 257 a2 _ _ (by decide) (by decide)).mono ?_
    rintro e u ⟨rfl, hb⟩
    have HB := Lib.hid (Im.go_on HB.out hb)
    clear hb
    go_wp2_with (fail)
    refine (Kd.extract_none 257 a2 _ _ (by decide) (by decide)).mono ?_
    rintro e u ⟨rfl, hb⟩
    have HB := Lib.hid (Im.go_on HB.out hb)
    clear hb
    go_wp2_with (fail)
    refine (Kd.expand_none 257 5 a2 _ _ (by decide) (by decide)).mono ?_
    rintro e u ⟨rfl, hb⟩
    have HB := Lib.hid (Im.go_on HB.out hb)
    clear hb
    go_wp2_with (fail)
    refine (Kd.label_none 257 5 a2 ⟨#[108]⟩ ⟨#[]⟩ _ (Im.tab_of HT.out HB.out) HK.out (by decide) (by decide) (by decide) (by decide) (by decide)).mono ?_
    rintro e u ⟨rfl, hb⟩
    have HB := Lib.hid (Im.go_on HB.out hb)
    clear hb
    go_wp2_with (fail)
    refine (Kd.exp256_no _ a2 _ _ (Im.tab_of HT.out HB.out) HK.out (by omega)).mono ?_
    rintro e u ⟨rfl, hb⟩
    have HB := Lib.hid (Im.go_on HB.out hb)
    clear hb
    go_wp2_with (fail)
    refine (Kd.exp256_no _ a2 _ _ (Im.tab_of HT.out HB.out) HK.out (by omega)).mono ?_
    rintro e u ⟨rfl, hb⟩
    have HB := Lib.hid (Im.go_on HB.out hb)
    clear hb
    go_wp2_with (fail)
    refine (Kd.exp384_no _ a2 _ _ (Im.tab_of HT.out HB.out) HK.out (by omega)).mono ?_
    rintro e u ⟨rfl, hb⟩
    have HB := Lib.hid (Im.go_on HB.out hb)
    clear hb
    go_wp2_with (fail)
    refine (Kd.exp384_zero a2 _ (Im.tab_of HT.out HB.out) HK.out).mono ?_
    rintro e u ⟨rfl, hb⟩
    have HB := Lib.hid (Im.go_on HB.out hb)
    clear hb
    go_wp2_with (go_at_call 15; refine (Im.num_same _ _).mono ?_; rintro e u ⟨rfl, rfl⟩)
    go_ret
    exact ⟨rfl, HB.out⟩
  · by_cases h2 : a0 = 384
    · subst h2
      go_enter Tryd.func7, Tryd.ntmps7
      go_wp2_with (fail)
      refine (Kd.awake3_any _ (Im.tab_of HT.out HB.out)).mono ?_
      rintro e u ⟨rfl, hb⟩
      have HB := Lib.hid (Im.go_on HB.out hb)
      clear hb
      go_wp2_with (fail)
      refine (Kd.hmac_none 385 a2 _ _ (by decide) (by decide)).mono ?_
      rintro e u ⟨rfl, hb⟩
      have HB := Lib.hid (Im.go_on HB.out hb)
      clear hb
      go_wp2_with (fail)
      refine (Kd.extract_none 385 a2 _ _ (by decide) (by decide)).mono ?_
      rintro e u ⟨rfl, hb⟩
      have HB := Lib.hid (Im.go_on HB.out hb)
      clear hb
      go_wp2_with (fail)
      refine (Kd.expand_none 385 5 a2 _ _ (by decide) (by decide)).mono ?_
      rintro e u ⟨rfl, hb⟩
      have HB := Lib.hid (Im.go_on HB.out hb)
      clear hb
      go_wp2_with (fail)
      refine (Kd.label_none 385 5 a2 ⟨#[108]⟩ ⟨#[]⟩ _ (Im.tab_of HT.out HB.out) HK.out (by decide) (by decide) (by decide) (by decide) (by decide)).mono ?_
      rintro e u ⟨rfl, hb⟩
      have HB := Lib.hid (Im.go_on HB.out hb)
      clear hb
      go_wp2_with (fail)
      refine (Kd.exp256_no _ a2 _ _ (Im.tab_of HT.out HB.out) HK.out (by omega)).mono ?_
      rintro e u ⟨rfl, hb⟩
      have HB := Lib.hid (Im.go_on HB.out hb)
      clear hb
      go_wp2_with (fail)
      refine (Kd.exp256_no _ a2 _ _ (Im.tab_of HT.out HB.out) HK.out (by omega)).mono ?_
      rintro e u ⟨rfl, hb⟩
      have HB := Lib.hid (Im.go_on HB.out hb)
      clear hb
      go_wp2_with (fail)
      refine (Kd.exp384_no _ a2 _ _ (Im.tab_of HT.out HB.out) HK.out (by omega)).mono ?_
      rintro e u ⟨rfl, hb⟩
      have HB := Lib.hid (Im.go_on HB.out hb)
      clear hb
      go_wp2_with (fail)
      refine (Kd.exp384_zero a2 _ (Im.tab_of HT.out HB.out) HK.out).mono ?_
      rintro e u ⟨rfl, hb⟩
      have HB := Lib.hid (Im.go_on HB.out hb)
      clear hb
      go_wp2_with (go_at_call 15; refine (Im.num_same _ _).mono ?_; rintro e u ⟨rfl, rfl⟩)
      go_ret
      exact ⟨rfl, HB.out⟩
    · have H1 := Lib.hid h1
      have H2 := Lib.hid h2
      have b1 : (a0 == 256) = false := by simpa using h1
      have b2 : (a0 == 384) = false := by simpa using h2
      clear h1 h2
      go_enter Tryd.func7, Tryd.ntmps7
      go_wp2_with (fail)
      refine (Kd.awake3_any _ (Im.tab_of HT.out HB.out)).mono ?_
      rintro e u ⟨rfl, hb⟩
      have HB := Lib.hid (Im.go_on HB.out hb)
      clear hb
      go_wp2_with (fail)
      refine (Kd.hmac_none a0 a2 _ _ H1.out H2.out).mono ?_
      rintro e u ⟨rfl, hb⟩
      have HB := Lib.hid (Im.go_on HB.out hb)
      clear hb
      go_wp2_with (fail)
      refine (Kd.extract_none a0 a2 _ _ H1.out H2.out).mono ?_
      rintro e u ⟨rfl, hb⟩
      have HB := Lib.hid (Im.go_on HB.out hb)
      clear hb
      go_wp2_with (fail)
      refine (Kd.expand_none a0 5 a2 _ _ H1.out H2.out).mono ?_
      rintro e u ⟨rfl, hb⟩
      have HB := Lib.hid (Im.go_on HB.out hb)
      clear hb
      go_wp2_with (fail)
      refine (Kd.label_none a0 5 a2 ⟨#[108]⟩ ⟨#[]⟩ _ (Im.tab_of HT.out HB.out) HK.out (by decide) (by decide) (by decide) H1.out H2.out).mono ?_
      rintro e u ⟨rfl, hb⟩
      have HB := Lib.hid (Im.go_on HB.out hb)
      clear hb
      go_wp2_with (fail)
      refine (Kd.exp256_no _ a2 _ _ (Im.tab_of HT.out HB.out) HK.out (by omega)).mono ?_
      rintro e u ⟨rfl, hb⟩
      have HB := Lib.hid (Im.go_on HB.out hb)
      clear hb
      go_wp2_with (fail)
      refine (Kd.exp256_no _ a2 _ _ (Im.tab_of HT.out HB.out) HK.out (by omega)).mono ?_
      rintro e u ⟨rfl, hb⟩
      have HB := Lib.hid (Im.go_on HB.out hb)
      clear hb
      go_wp2_with (fail)
      refine (Kd.exp384_no _ a2 _ _ (Im.tab_of HT.out HB.out) HK.out (by omega)).mono ?_
      rintro e u ⟨rfl, hb⟩
      have HB := Lib.hid (Im.go_on HB.out hb)
      clear hb
      go_wp2_with (fail)
      refine (Kd.exp384_zero a2 _ (Im.tab_of HT.out HB.out) HK.out).mono ?_
      rintro e u ⟨rfl, hb⟩
      have HB := Lib.hid (Im.go_on HB.out hb)
      clear hb
      go_wp2_with (go_at_call 15; refine (Im.num_same _ _).mono ?_; rintro e u ⟨rfl, rfl⟩)
      go_ret
      exact ⟨rfl, HB.out⟩

set_option maxRecDepth 100000 in
theorem lifted (os : Os) (started : os.Started) (H : Type) (enc : TypeId × Value → H) :
    ReturnsInHanded {} Tryd.checked os 7 .any (fun w args => (Rows.hkdfFormsSpec.pre enc Tryd.prog Tryd.f7 [] false w args ∧ laidMetH Tryd.prog laid1 w) ∧ sizedMet enc Tryd.prog Tryd.f7 (OpenSpec.ofChange Rows.hkdfFormsSpec) false w args)
      (Rows.hkdfFormsSpec.post enc Tryd.prog Tryd.f7 false true false false) := by
  refine returnsInHanded_of_change_and (C := Tryd.checked) (X := fun w _ => laidMetH Tryd.prog laid1 w) (fun _ _ _ hh h => h.of_heap hh) own started (by kernel_rfl) Tryd.func7
    (ChangeSpec.witness_shaped (enc := enc) (C := Tryd.checked) (os := os) (X := fun w _ => laidMetH Tryd.prog laid1 w) false (World.doorLaid Tryd.prog 14 os) #[.int .i64 0, .int .i64 0, .string ByteArray.empty] 8 rfl (World.shaped_of_RefB (by kernel_rfl) (by kernel_rfl)) (by kernel_rfl) (by kernel_rfl) (by kernel_rfl) (door_met os _)) ?_
  intro W base args ds gs before hval0 hW _ hsz0 hL _
  have hT := tab_of_laid hL
  have hsz : (DataW.weightsEach Tryd.prog (Tryd.f7.params.toList ++ Rows.hkdfFormsSpec.plain.varTypes Tryd.prog) (ds ++ gs)).all (· ≤ reachBytes) = true := hsz0
  have hval : ∀ (j : Nat) t v, Tryd.f7.params[j]? = some t → args[j]? = some v → Value.okWide Tryd.prog W .any base t v := hval0
  have hW' := hW
  obtain ⟨p, q, hA0, hV, rfl, hfz, hnd⟩ := hW
  have hA : DataW.TrodAll enc Tryd.prog W 0 (fun _ => true) true Tryd.f7.params.toList args.toList ds p := hA0
  rw [Tryd.params7] at hA hval hsz
  obtain ⟨v0, vs0, d0, ds0, p0, q0, hargs, rfl, rfl, h0, r0⟩ := trodAll_cons hA
  obtain ⟨v1, vs1, d1, ds1, p1, q1, rfl, rfl, rfl, h1, r1⟩ := trodAll_cons r0
  obtain ⟨v2, vs2, d2, ds2, p2, q2, rfl, rfl, rfl, h2, r2⟩ := trodAll_cons r1
  obtain ⟨rfl, rfl, rfl⟩ := trodAll_nil r2
  obtain rfl : args = #[v0, v1, v2] := by cases args; simp_all
  obtain ⟨rfl, rfl⟩ := trodVars_none hV
  obtain ⟨a0, rfl, rfl, rfl, w0⟩ := open_int Tryd.underlying3 (hval 0 3 v0 rfl rfl) h0
  obtain ⟨a1, rfl, rfl, rfl, w1⟩ := open_int Tryd.underlying3 (hval 1 3 v1 rfl rfl) h1
  obtain ⟨a2, rfl, rfl, rfl, w2⟩ := open_string Tryd.underlying9 (hval 2 9 v2 rfl rfl) h2
  clear hA0 hval0
  simp only [List.append_nil] at hW'
  have r2 : a2.size ≤ 140737488355328 := by
    have := sized_string hsz (j := 2) (t := 9) rfl rfl
    simp [reachBytes] at this; omega
  refine (walk a0 a1 a2 w0 w1 r2 W hT).mono fun e W' ⟨he, bel⟩ => ?_
  subst he
  exact ⟨_, rfl, _, _, _, [], [], [], hW', trodAll_mk1 (shut_bool Tryd.underlying4 _), (trodAll_cons_mk (shut_int Tryd.underlying3 w0) (trodAll_cons_mk (shut_int Tryd.underlying3 w1) (trodAll_cons_mk (shut_string Tryd.underlying9 w2) trodAll_mk0))), rfl, bel.frame _, fun h => by cases h⟩

theorem over : Rows.hkdfFormsRow.holds Tryd.pinned (OpenSpec.ofChange Rows.hkdfFormsSpec) :=
  OpenClaim.holds_of_wide 7 Tryd.f7 rfl rfl rfl rfl rfl rfl rfl ⟨rfl, rfl, rfl, rfl, rfl⟩ rfl rfl rfl rfl rfl (by kernel_rfl) Tryd.func7 (by kernel_rfl)
    (of_decide_eq_true (by kernel_rfl)) (by unfold Func.isWrapper; first | (rw [if_pos (by decide +kernel)]; kernel_rfl) | (rw [if_neg (by decide +kernel)]; exact ⟨rfl, rfl⟩))
    (fun os started H enc _ => lifted os started H enc)

theorem card_holds : Rows.HkdfFormsCardSaid :=
  Claim7.holds_tied_plain_at .later [] [.data] true (true, "ba4f4f3d7e4eba6f6c00cbe2811b726bf11c08da414799edb1ee5f736860c90d") false
    over (fun _ h => by cases h) (by kernel_rfl) (fun _ h => by cases h) hkdfForms_row_tie rfl ⟨rfl, rfl⟩ (by kernel_rfl) rfl
    (fun f fn hf hfn => by
      obtain rfl : f = 7 := Option.some.inj ((show Tryd.prog.funcNamed "halberd/halberdlaw3.HkdfForms" = some 7 by kernel_rfl).symm.trans hf) |>.symm
      obtain rfl : fn = Tryd.f7 := (Option.some.inj (Tryd.func7.symm.trans hfn)).symm
      exact ⟨by kernel_rfl, fun j t ht => by
        rw [Tryd.params7] at ht
        have hm : t ∈ [3, 3, 9] := by simpa using Array.mem_of_getElem? ht
        have hall : ([3, 3, 9].all fun u => !Tryd.prog.wantsStandIn u) = true := by kernel_rfl
        exact (show Tryd.prog.wantsStandIn t = false by simpa using List.all_eq_true.1 hall t hm)⟩)
    (by kernel_rfl)
#print axioms card_holds
end Go.Proofs.YtbfkbinkfboklaaDoor.hkdfForms
