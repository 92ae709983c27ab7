/-
  Hmac, Extract, Expand and Label of package hkdf answer the document's bytes and numbers at every number of bits, every key, text, label and size, and the program is awake.
-/
import Derived.Test.YtbfkbinkfboklaaDoorKdG
import Derived.Test.YtbfkbinkfboklaaDoorRows
import Derived.WalkKit
import Derived.ProofKit
import Derived.OpenShut
import Derived.ShutString
import Derived.Test.YtbfkbinkfboklaaDoorImW
import Derived.Test.YtbfkbinkfboklaaDoorTie
import Derived.Test.YtbfkbinkfboklaaDoorCards
import Derived.SevenTiedAt
import Derived.SizedLaws
import Derived.Stop.Joined
import Derived.LaidMore
import Derived.Below
import Derived.ChangeOld
namespace Go.Proofs.YtbfkbinkfboklaaDoor.hkdfs
open Go.ChangeShapes Go.WideShapes Go.ChangeAt Go.RowKit
open Go.Proofs.YtbfkbinkfboklaaDoor
open Go.ChangeMaps (open_string shut_string)
set_option linter.unusedVariables false

theorem own : ownKnob Tryd.prog.godebug = none := by kernel_rfl

set_option maxHeartbeats 2000000 in
set_option maxRecDepth 100000 in
theorem walk (a0 : Int) (a1 : ByteArray) (a2 : ByteArray) (a3 : ByteArray) (a4 : Int) (w0 : (Lit.int .i64 a0).wf = true) (r1 : a1.size ≤ 140737488355328) (r2 : a2.size ≤ 140737488355328) (r3 : a3.size ≤ 140737488355328) (w4 : (Lit.int .i64 a4).wf = true) (w : World) (hT : Im.Tab w) :
    Calls Tryd.prog 3 #[.int .i64 a0, .string a1, .string a2, .string a3, .int .i64 a4] w fun e w' => e = .returned (.bool true) ∧ Below w.heap.size w w' := by
  have HT := Lib.hid hT
  have HK : Hid (a1.size ≤ 288230376151711744) := Nat.le_trans r1 (by decide)
  have HS : Hid (a2.size ≤ 144115188075855872) := Nat.le_trans r2 (by decide)
  have HI : Hid (a2.size ≤ 72057594037927936) := Nat.le_trans r2 (by decide)
  have HC : Hid (a2.size ≤ 288230376151711744) := Nat.le_trans r2 (by decide)
  have HL : Hid (a3.size ≤ 288230376151711744) := Nat.le_trans r3 (by decide)
  have HB : Hid (Below w.heap.size w w) := Below.refl _ _
  clear hT r1 r2 r3
  go_enter Tryd.func3, Tryd.ntmps3
  go_wp2_with (first
    | (go_at_call 8; refine (Kd.hmac_any a0 a1 a2 _ (Im.tab_of HT.out HB.out) HK.out HS.out).mono ?_; rintro e u ⟨rfl, hb⟩; have HB := Lib.hid (Im.go_on HB.out hb); clear hb)
    | (go_at_call 9; refine (Hk.rhmac_any a0 a1 a2 _ HK.out HS.out).mono ?_; rintro e u ⟨rfl, hb⟩; have HB := Lib.hid (Im.go_on HB.out hb); clear hb)
    | (go_at_call 10; refine (Kd.extract_any a0 a1 a2 _ (Im.tab_of HT.out HB.out) HK.out HS.out).mono ?_; rintro e u ⟨rfl, hb⟩; have HB := Lib.hid (Im.go_on HB.out hb); clear hb)
    | (go_at_call 11; refine (Kd.expand_any a0 a4 a1 a2 _ (Im.tab_of HT.out HB.out) HK.out HI.out).mono ?_; rintro e u ⟨rfl, hb⟩; have HB := Lib.hid (Im.go_on HB.out hb); clear hb)
    | (go_at_call 12; refine (Hk.rexpand_any a0 a4 a1 a2 _ HK.out HI.out).mono ?_; rintro e u ⟨rfl, hb⟩; have HB := Lib.hid (Im.go_on HB.out hb); clear hb)
    | (go_at_call 13; refine (Kd.label_any a0 a4 a1 a3 a2 _ (Im.tab_of HT.out HB.out) HK.out HL.out).mono ?_; rintro e u ⟨rfl, hb⟩; have HB := Lib.hid (Im.go_on HB.out hb); clear hb)
    | (go_at_call 14; refine (Hk.rlabel_any a0 a4 a1 a3 a2 _ HK.out HL.out HC.out).mono ?_; rintro e u ⟨rfl, hb⟩; have HB := Lib.hid (Im.go_on HB.out hb); clear hb)
    | (go_at_call 15; refine (Im.num_same _ _).mono ?_; rintro e u ⟨rfl, rfl⟩)
    | (go_at_call 16; refine (Kd.awake3_any _ (Im.tab_of HT.out HB.out)).mono ?_; rintro e u ⟨rfl, hb⟩; have HB := Lib.hid (Im.go_on HB.out hb); clear hb))
  go_ret
  exact ⟨rfl, HB.out⟩

set_option maxRecDepth 100000 in
theorem lifted (os : Os) (started : os.Started) (H : Type) (enc : TypeId × Value → H) :
    ReturnsInHanded {} Tryd.checked os 3 .any (fun w args => (Rows.hkdfsSpec.pre enc Tryd.prog Tryd.f3 [] false w args ∧ laidMetH Tryd.prog laid1 w) ∧ sizedMet enc Tryd.prog Tryd.f3 (OpenSpec.ofChange Rows.hkdfsSpec) false w args)
      (Rows.hkdfsSpec.post enc Tryd.prog Tryd.f3 false true false false) := by
  refine returnsInHanded_of_change_and (C := Tryd.checked) (X := fun w _ => laidMetH Tryd.prog laid1 w) (fun _ _ _ hh h => h.of_heap hh) own started (by kernel_rfl) Tryd.func3
    (ChangeSpec.witness_shaped (enc := enc) (C := Tryd.checked) (os := os) (X := fun w _ => laidMetH Tryd.prog laid1 w) false (World.doorLaid Tryd.prog 14 os) #[.int .i64 0, .string ByteArray.empty, .string ByteArray.empty, .string ByteArray.empty, .int .i64 0] 8 rfl (World.shaped_of_RefB (by kernel_rfl) (by kernel_rfl)) (by kernel_rfl) (by kernel_rfl) (by kernel_rfl) (door_met os _)) ?_
  intro W base args ds gs before hval0 hW _ hsz0 hL _
  have hT := tab_of_laid hL
  have hsz : (DataW.weightsEach Tryd.prog (Tryd.f3.params.toList ++ Rows.hkdfsSpec.plain.varTypes Tryd.prog) (ds ++ gs)).all (· ≤ reachBytes) = true := hsz0
  have hval : ∀ (j : Nat) t v, Tryd.f3.params[j]? = some t → args[j]? = some v → Value.okWide Tryd.prog W .any base t v := hval0
  have hW' := hW
  obtain ⟨p, q, hA0, hV, rfl, hfz, hnd⟩ := hW
  have hA : DataW.TrodAll enc Tryd.prog W 0 (fun _ => true) true Tryd.f3.params.toList args.toList ds p := hA0
  rw [Tryd.params3] at hA hval hsz
  obtain ⟨v0, vs0, d0, ds0, p0, q0, hargs, rfl, rfl, h0, r0⟩ := trodAll_cons hA
  obtain ⟨v1, vs1, d1, ds1, p1, q1, rfl, rfl, rfl, h1, r1⟩ := trodAll_cons r0
  obtain ⟨v2, vs2, d2, ds2, p2, q2, rfl, rfl, rfl, h2, r2⟩ := trodAll_cons r1
  obtain ⟨v3, vs3, d3, ds3, p3, q3, rfl, rfl, rfl, h3, r3⟩ := trodAll_cons r2
  obtain ⟨v4, vs4, d4, ds4, p4, q4, rfl, rfl, rfl, h4, r4⟩ := trodAll_cons r3
  obtain ⟨rfl, rfl, rfl⟩ := trodAll_nil r4
  obtain rfl : args = #[v0, v1, v2, v3, v4] := by cases args; simp_all
  obtain ⟨rfl, rfl⟩ := trodVars_none hV
  obtain ⟨a0, rfl, rfl, rfl, w0⟩ := open_int Tryd.underlying3 (hval 0 3 v0 rfl rfl) h0
  obtain ⟨a1, rfl, rfl, rfl, w1⟩ := open_string Tryd.underlying9 (hval 1 9 v1 rfl rfl) h1
  obtain ⟨a2, rfl, rfl, rfl, w2⟩ := open_string Tryd.underlying9 (hval 2 9 v2 rfl rfl) h2
  obtain ⟨a3, rfl, rfl, rfl, w3⟩ := open_string Tryd.underlying9 (hval 3 9 v3 rfl rfl) h3
  obtain ⟨a4, rfl, rfl, rfl, w4⟩ := open_int Tryd.underlying3 (hval 4 3 v4 rfl rfl) h4
  clear hA0 hval0
  simp only [List.append_nil] at hW'
  have r1 : a1.size ≤ 140737488355328 := by
    have := sized_string hsz (j := 1) (t := 9) rfl rfl
    simp [reachBytes] at this; omega
  have r2 : a2.size ≤ 140737488355328 := by
    have := sized_string hsz (j := 2) (t := 9) rfl rfl
    simp [reachBytes] at this; omega
  have r3 : a3.size ≤ 140737488355328 := by
    have := sized_string hsz (j := 3) (t := 9) rfl rfl
    simp [reachBytes] at this; omega
  refine (walk a0 a1 a2 a3 a4 w0 r1 r2 r3 w4 W hT).mono fun e W' ⟨he, bel⟩ => ?_
  subst he
  exact ⟨_, rfl, _, _, _, [], [], [], hW', trodAll_mk1 (shut_bool Tryd.underlying4 _), (trodAll_cons_mk (shut_int Tryd.underlying3 w0) (trodAll_cons_mk (shut_string Tryd.underlying9 w1) (trodAll_cons_mk (shut_string Tryd.underlying9 w2) (trodAll_cons_mk (shut_string Tryd.underlying9 w3) (trodAll_cons_mk (shut_int Tryd.underlying3 w4) trodAll_mk0))))), rfl, bel.frame _, fun h => by cases h⟩

theorem over : Rows.hkdfsRow.holds Tryd.pinned (OpenSpec.ofChange Rows.hkdfsSpec) :=
  OpenClaim.holds_of_wide 3 Tryd.f3 rfl rfl rfl rfl rfl rfl rfl ⟨rfl, rfl, rfl, rfl, rfl⟩ rfl rfl rfl rfl rfl (by kernel_rfl) Tryd.func3 (by kernel_rfl)
    (of_decide_eq_true (by kernel_rfl)) (by unfold Func.isWrapper; first | (rw [if_pos (by decide +kernel)]; kernel_rfl) | (rw [if_neg (by decide +kernel)]; exact ⟨rfl, rfl⟩))
    (fun os started H enc _ => lifted os started H enc)

theorem card_holds : Rows.HkdfsCardSaid :=
  Claim7.holds_tied_plain_at .later [] [.data] true (true, "ba4f4f3d7e4eba6f6c00cbe2811b726bf11c08da414799edb1ee5f736860c90d") false
    over (fun _ h => by cases h) (by kernel_rfl) (fun _ h => by cases h) hkdfs_row_tie rfl ⟨rfl, rfl⟩ (by kernel_rfl) rfl
    (fun f fn hf hfn => by
      obtain rfl : f = 3 := Option.some.inj ((show Tryd.prog.funcNamed "halberd/halberdlaw3.Hkdfs" = some 3 by kernel_rfl).symm.trans hf) |>.symm
      obtain rfl : fn = Tryd.f3 := (Option.some.inj (Tryd.func3.symm.trans hfn)).symm
      exact ⟨by kernel_rfl, fun j t ht => by
        rw [Tryd.params3] at ht
        have hm : t ∈ [3, 9, 9, 9, 3] := by simpa using Array.mem_of_getElem? ht
        have hall : ([3, 9, 9, 9, 3].all fun u => !Tryd.prog.wantsStandIn u) = true := by kernel_rfl
        exact (show Tryd.prog.wantsStandIn t = false by simpa using List.all_eq_true.1 hall t hm)⟩)
    (by kernel_rfl)
#print axioms card_holds
end Go.Proofs.YtbfkbinkfboklaaDoor.hkdfs
