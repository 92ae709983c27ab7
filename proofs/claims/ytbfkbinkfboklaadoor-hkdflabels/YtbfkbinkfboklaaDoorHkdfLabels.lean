/-
  Label of package hkdf is Expand with the size, the label behind its prefix and the context as its info, and is refused where label or context is too long.
-/
import Derived.Test.YtbfkbinkfboklaaDoorKdI
import Derived.Test.YtbfkbinkfboklaaDoorRows
import Derived.WalkKit
import Derived.ProofKit
import Derived.OpenShut
import Derived.ShutString
import Derived.Test.YtbfkbinkfboklaaDoorImW
import Derived.Test.YtbfkbinkfboklaaDoorTie
import Derived.Test.YtbfkbinkfboklaaDoorCards
import Derived.SevenTiedAt
import Derived.SizedLaws
import Derived.Stop.Joined
import Derived.LaidMore
import Derived.Below
import Derived.ChangeOld
namespace Go.Proofs.YtbfkbinkfboklaaDoor.hkdfLabels
open Go.ChangeShapes Go.WideShapes Go.ChangeAt Go.RowKit
open Go.Proofs.YtbfkbinkfboklaaDoor
open Go.ChangeMaps (open_string shut_string)
set_option linter.unusedVariables false

theorem own : ownKnob Tryd.prog.godebug = none := by kernel_rfl

set_option maxHeartbeats 4000000 in
set_option maxRecDepth 100000 in
theorem walk (a0 : Bool) (a1 : ByteArray) (a2 : ByteArray) (a3 : ByteArray) (a4 : Int) (r1 : a1.size ≤ 140737488355328) (r2 : a2.size ≤ 140737488355328) (r3 : a3.size ≤ 140737488355328) (w4 : (Lit.int .i64 a4).wf = true) (w : World) (hT : Im.Tab w) :
    Calls Tryd.prog 6 #[.bool a0, .string a1, .string a2, .string a3, .int .i64 a4] w fun e w' => e = .returned (.bool true) ∧ Below w.heap.size w w' := by
  have HT := Lib.hid hT
  have HK : Hid (a1.size ≤ 288230376151711744) := Nat.le_trans r1 (by decide)
  have HB : Hid (Below w.heap.size w w) := Below.refl _ _
  clear hT r1 r2 r3 w4
  by_cases hl : 249 < a2.size
  · have hl' : (249 : Int) < a2.size := by omega
    go_enter Tryd.func6, Tryd.ntmps6
    go_wp2_with (fail)
    refine (Kd.awake3_any _ (Im.tab_of HT.out HB.out)).mono ?_
    rintro e u ⟨rfl, hb⟩
    have HB := Lib.hid (Im.go_on HB.out hb)
    clear hb
    go_wp2_with (fail)
    go_ret
    exact ⟨rfl, HB.out⟩
  · have hl' : ¬ (249 : Int) < a2.size := by omega
    by_cases hc : 255 < a3.size
    · have hc' : (255 : Int) < a3.size := by omega
      go_enter Tryd.func6, Tryd.ntmps6
      go_wp2_with (fail)
      refine (Kd.awake3_any _ (Im.tab_of HT.out HB.out)).mono ?_
      rintro e u ⟨rfl, hb⟩
      have HB := Lib.hid (Im.go_on HB.out hb)
      clear hb
      go_wp2_with (fail)
      go_ret
      exact ⟨rfl, HB.out⟩
    · have hc' : ¬ (255 : Int) < a3.size := by omega
      obtain ⟨k, hk, hmk⟩ := Im.maskN4095 a4
      have hm2 : bits .and .i64 (k : Int) 255 = (k : Int) % 256 := Im.mask255 k
      have HJ := Lib.hid (Kd.info_bytes a2 a3 k hk (by omega) (by omega))
      have HJz : Hid ((Hk.infoS a2 a3 k).size ≤ 72057594037927936) := by show (Hk.infoS a2 a3 k).size ≤ _; rw [Hk.infoS_size]; omega
      have HKk := Lib.hid hk
      have HL : Hid (a2.size ≤ 249) := by show a2.size ≤ 249; omega
      have HC : Hid (a3.size ≤ 255) := by show a3.size ≤ 255; omega
      have l1 : a2.size ≤ 249 := HL.out
      have l2 : a3.size ≤ 255 := HC.out
      have q3 : ∀ x y z : Int, (strOfNums [x, y, z]).size = 3 := fun x y z => by simp [strOfNums_size]
      have q1 : ∀ x : Int, (strOfNums [x]).size = 1 := fun x => by simp [strOfNums_size]
      obtain ⟨M, _, hMc, hmk0⟩ := Be.zeros 250 (by decide)
      have hmk1 : ∀ W : World, (Instr.makeSlice 35 (.int .i64 250) (.int .i64 250)).run Tryd.prog W = .ok (.slice (some ⟨W.heap.size, 0, none⟩) 250 250) (W.alloc (.cells M 5)) := hmk0
      have hcv1 := fun W => Be.conv_new W M 250 hMc
      obtain ⟨M', _, hMc', hmk0'⟩ := Be.zeros 256 (by decide)
      have hmk2 : ∀ W : World, (Instr.makeSlice 35 (.int .i64 256) (.int .i64 256)).run Tryd.prog W = .ok (.slice (some ⟨W.heap.size, 0, none⟩) 256 256) (W.alloc (.cells M' 5)) := hmk0'
      have hcv2 := fun W => Be.conv_new W M' 256 hMc'
      have z1 := Be.zS_size 250
      have z2 := Be.zS_size 256
      clear hMc hMc' hmk0 hmk0'
      clear hl hc
      cases a0
      · go_enter Tryd.func6, Tryd.ntmps6
        go_wp2_with (fail)
        refine (Kd.awake3_any _ (Im.tab_of HT.out HB.out)).mono ?_
        rintro e u ⟨rfl, hb⟩
        have HB := Lib.hid (Im.go_on HB.out hb)
        clear hb
        go_wp2_with (fail)
        rw [Kd.conv3]
        go_wp2_with (fail)
        rw [Kd.conv1']
        go_wp2_with (fail)
        have hj : strOfNums [(k : Int) / 256, (k : Int) % 256, 6 + (a2.size : Int)] ++ ⟨#[116, 108, 115, 49, 51, 32]⟩ ++ a2 ++ strOfNums [(a3.size : Int)] ++ a3 = Hk.infoS a2 a3 k := HJ.out
        rw [hj]
        clear hj q1 q3
        refine (Kd.lab256_yes k a1 a2 a3 _ (Im.tab_of HT.out (Kd.below_two HB.out HB.out.size _ _)) HK.out HKk.out HL.out HC.out).mono ?_
        rintro e u ⟨rfl, hb⟩
        have HB := Lib.hid (Im.go_on (Kd.below_two HB.out HB.out.size _ _) hb)
        clear hb
        go_wp2_with (fail)
        refine (Kd.exp256_yes k a1 (Hk.infoS a2 a3 k) _ (Im.tab_of HT.out HB.out) HK.out HJz.out (by have := HKk.out; omega)).mono ?_
        rintro e u ⟨rfl, hb⟩
        have HB := Lib.hid (Im.go_on HB.out hb)
        clear hb
        go_wp2_with (fail)
        refine (Kd.lab_long 256 k a1 (a2 ++ Be.zS 250) a3 _ (by rw [ByteArray.size_append, Be.zS_size]; omega) (Or.inl (by rw [ByteArray.size_append, Be.zS_size]; omega))).mono ?_
        rintro e u ⟨rfl, hb⟩
        have HB := Lib.hid (Im.go_on (HB.out.alloc HB.out.size _) hb)
        clear hb
        go_wp2_with (fail)
        refine (Kd.lab_long 256 k a1 a2 (a3 ++ Be.zS 256) _ (by omega) (Or.inr (by rw [ByteArray.size_append, Be.zS_size]; omega))).mono ?_
        rintro e u ⟨rfl, hb⟩
        have HB := Lib.hid (Im.go_on (HB.out.alloc HB.out.size _) hb)
        clear hb
        go_wp2_with (go_at_call 15; refine (Im.num_same _ _).mono ?_; rintro e u ⟨rfl, rfl⟩)
        go_ret
        exact ⟨rfl, HB.out⟩
      · go_enter Tryd.func6, Tryd.ntmps6
        go_wp2_with (fail)
        refine (Kd.awake3_any _ (Im.tab_of HT.out HB.out)).mono ?_
        rintro e u ⟨rfl, hb⟩
        have HB := Lib.hid (Im.go_on HB.out hb)
        clear hb
        go_wp2_with (fail)
        rw [Kd.conv3]
        go_wp2_with (fail)
        rw [Kd.conv1']
        go_wp2_with (fail)
        have hj : strOfNums [(k : Int) / 256, (k : Int) % 256, 6 + (a2.size : Int)] ++ ⟨#[116, 108, 115, 49, 51, 32]⟩ ++ a2 ++ strOfNums [(a3.size : Int)] ++ a3 = Hk.infoS a2 a3 k := HJ.out
        rw [hj]
        clear hj q1 q3
        refine (Kd.lab384_yes k a1 a2 a3 _ (Im.tab_of HT.out (Kd.below_two HB.out HB.out.size _ _)) HK.out HKk.out HL.out HC.out).mono ?_
        rintro e u ⟨rfl, hb⟩
        have HB := Lib.hid (Im.go_on (Kd.below_two HB.out HB.out.size _ _) hb)
        clear hb
        go_wp2_with (fail)
        refine (Kd.exp384_yes k a1 (Hk.infoS a2 a3 k) _ (Im.tab_of HT.out HB.out) HK.out HJz.out (by have := HKk.out; omega)).mono ?_
        rintro e u ⟨rfl, hb⟩
        have HB := Lib.hid (Im.go_on HB.out hb)
        clear hb
        go_wp2_with (fail)
        refine (Kd.lab_long 384 k a1 (a2 ++ Be.zS 250) a3 _ (by rw [ByteArray.size_append, Be.zS_size]; omega) (Or.inl (by rw [ByteArray.size_append, Be.zS_size]; omega))).mono ?_
        rintro e u ⟨rfl, hb⟩
        have HB := Lib.hid (Im.go_on (HB.out.alloc HB.out.size _) hb)
        clear hb
        go_wp2_with (fail)
        refine (Kd.lab_long 384 k a1 a2 (a3 ++ Be.zS 256) _ (by omega) (Or.inr (by rw [ByteArray.size_append, Be.zS_size]; omega))).mono ?_
        rintro e u ⟨rfl, hb⟩
        have HB := Lib.hid (Im.go_on (HB.out.alloc HB.out.size _) hb)
        clear hb
        go_wp2_with (go_at_call 15; refine (Im.num_same _ _).mono ?_; rintro e u ⟨rfl, rfl⟩)
        go_ret
        exact ⟨rfl, HB.out⟩

set_option maxRecDepth 100000 in
theorem lifted (os : Os) (started : os.Started) (H : Type) (enc : TypeId × Value → H) :
    ReturnsInHanded {} Tryd.checked os 6 .any (fun w args => (Rows.hkdfLabelsSpec.pre enc Tryd.prog Tryd.f6 [] false w args ∧ laidMetH Tryd.prog laid1 w) ∧ sizedMet enc Tryd.prog Tryd.f6 (OpenSpec.ofChange Rows.hkdfLabelsSpec) false w args)
      (Rows.hkdfLabelsSpec.post enc Tryd.prog Tryd.f6 false true false false) := by
  refine returnsInHanded_of_change_and (C := Tryd.checked) (X := fun w _ => laidMetH Tryd.prog laid1 w) (fun _ _ _ hh h => h.of_heap hh) own started (by kernel_rfl) Tryd.func6
    (ChangeSpec.witness_shaped (enc := enc) (C := Tryd.checked) (os := os) (X := fun w _ => laidMetH Tryd.prog laid1 w) false (World.doorLaid Tryd.prog 14 os) #[.bool false, .string ByteArray.empty, .string ByteArray.empty, .string ByteArray.empty, .int .i64 0] 8 rfl (World.shaped_of_RefB (by kernel_rfl) (by kernel_rfl)) (by kernel_rfl) (by kernel_rfl) (by kernel_rfl) (door_met os _)) ?_
  intro W base args ds gs before hval0 hW _ hsz0 hL _
  have hT := tab_of_laid hL
  have hsz : (DataW.weightsEach Tryd.prog (Tryd.f6.params.toList ++ Rows.hkdfLabelsSpec.plain.varTypes Tryd.prog) (ds ++ gs)).all (· ≤ reachBytes) = true := hsz0
  have hval : ∀ (j : Nat) t v, Tryd.f6.params[j]? = some t → args[j]? = some v → Value.okWide Tryd.prog W .any base t v := hval0
  have hW' := hW
  obtain ⟨p, q, hA0, hV, rfl, hfz, hnd⟩ := hW
  have hA : DataW.TrodAll enc Tryd.prog W 0 (fun _ => true) true Tryd.f6.params.toList args.toList ds p := hA0
  rw [Tryd.params6] at hA hval hsz
  obtain ⟨v0, vs0, d0, ds0, p0, q0, hargs, rfl, rfl, h0, r0⟩ := trodAll_cons hA
  obtain ⟨v1, vs1, d1, ds1, p1, q1, rfl, rfl, rfl, h1, r1⟩ := trodAll_cons r0
  obtain ⟨v2, vs2, d2, ds2, p2, q2, rfl, rfl, rfl, h2, r2⟩ := trodAll_cons r1
  obtain ⟨v3, vs3, d3, ds3, p3, q3, rfl, rfl, rfl, h3, r3⟩ := trodAll_cons r2
  obtain ⟨v4, vs4, d4, ds4, p4, q4, rfl, rfl, rfl, h4, r4⟩ := trodAll_cons r3
  obtain ⟨rfl, rfl, rfl⟩ := trodAll_nil r4
  obtain rfl : args = #[v0, v1, v2, v3, v4] := by cases args; simp_all
  obtain ⟨rfl, rfl⟩ := trodVars_none hV
  obtain ⟨a0, rfl, rfl, rfl⟩ := open_bool Tryd.underlying4 (hval 0 4 v0 rfl rfl) h0
  obtain ⟨a1, rfl, rfl, rfl, w1⟩ := open_string Tryd.underlying9 (hval 1 9 v1 rfl rfl) h1
  obtain ⟨a2, rfl, rfl, rfl, w2⟩ := open_string Tryd.underlying9 (hval 2 9 v2 rfl rfl) h2
  obtain ⟨a3, rfl, rfl, rfl, w3⟩ := open_string Tryd.underlying9 (hval 3 9 v3 rfl rfl) h3
  obtain ⟨a4, rfl, rfl, rfl, w4⟩ := open_int Tryd.underlying3 (hval 4 3 v4 rfl rfl) h4
  clear hA0 hval0
  simp only [List.append_nil] at hW'
  have r1 : a1.size ≤ 140737488355328 := by
    have := sized_string hsz (j := 1) (t := 9) rfl rfl
    simp [reachBytes] at this; omega
  have r2 : a2.size ≤ 140737488355328 := by
    have := sized_string hsz (j := 2) (t := 9) rfl rfl
    simp [reachBytes] at this; omega
  have r3 : a3.size ≤ 140737488355328 := by
    have := sized_string hsz (j := 3) (t := 9) rfl rfl
    simp [reachBytes] at this; omega
  refine (walk a0 a1 a2 a3 a4 r1 r2 r3 w4 W hT).mono fun e W' ⟨he, bel⟩ => ?_
  subst he
  exact ⟨_, rfl, _, _, _, [], [], [], hW', trodAll_mk1 (shut_bool Tryd.underlying4 _), (trodAll_cons_mk (shut_bool Tryd.underlying4 _) (trodAll_cons_mk (shut_string Tryd.underlying9 w1) (trodAll_cons_mk (shut_string Tryd.underlying9 w2) (trodAll_cons_mk (shut_string Tryd.underlying9 w3) (trodAll_cons_mk (shut_int Tryd.underlying3 w4) trodAll_mk0))))), rfl, bel.frame _, fun h => by cases h⟩

theorem over : Rows.hkdfLabelsRow.holds Tryd.pinned (OpenSpec.ofChange Rows.hkdfLabelsSpec) :=
  OpenClaim.holds_of_wide 6 Tryd.f6 rfl rfl rfl rfl rfl rfl rfl ⟨rfl, rfl, rfl, rfl, rfl⟩ rfl rfl rfl rfl rfl (by kernel_rfl) Tryd.func6 (by kernel_rfl)
    (of_decide_eq_true (by kernel_rfl)) (by unfold Func.isWrapper; first | (rw [if_pos (by decide +kernel)]; kernel_rfl) | (rw [if_neg (by decide +kernel)]; exact ⟨rfl, rfl⟩))
    (fun os started H enc _ => lifted os started H enc)

theorem card_holds : Rows.HkdfLabelsCardSaid :=
  Claim7.holds_tied_plain_at .later [] [.data] true (true, "ba4f4f3d7e4eba6f6c00cbe2811b726bf11c08da414799edb1ee5f736860c90d") false
    over (fun _ h => by cases h) (by kernel_rfl) (fun _ h => by cases h) hkdfLabels_row_tie rfl ⟨rfl, rfl⟩ (by kernel_rfl) rfl
    (fun f fn hf hfn => by
      obtain rfl : f = 6 := Option.some.inj ((show Tryd.prog.funcNamed "halberd/halberdlaw3.HkdfLabels" = some 6 by kernel_rfl).symm.trans hf) |>.symm
      obtain rfl : fn = Tryd.f6 := (Option.some.inj (Tryd.func6.symm.trans hfn)).symm
      exact ⟨by kernel_rfl, fun j t ht => by
        rw [Tryd.params6] at ht
        have hm : t ∈ [4, 9, 9, 9, 3] := by simpa using Array.mem_of_getElem? ht
        have hall : ([4, 9, 9, 9, 3].all fun u => !Tryd.prog.wantsStandIn u) = true := by kernel_rfl
        exact (show Tryd.prog.wantsStandIn t = false by simpa using List.all_eq_true.1 hall t hm)⟩)
    (by kernel_rfl)
#print axioms card_holds
end Go.Proofs.YtbfkbinkfboklaaDoor.hkdfLabels
