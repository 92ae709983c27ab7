/-
  Forks of a Hash of package sha go their own ways: each one's Sum is the text's that was written to it, whatever the others are written.
-/
import Derived.Test.YtghkifcoeimcdaaDoorImS
import Derived.Test.YtghkifcoeimcdaaDoorRows
import Derived.WalkKit
import Derived.ProofKit
import Derived.OpenShut
import Derived.ShutString
import Derived.Test.YtghkifcoeimcdaaDoorImW
import Derived.Test.YtghkifcoeimcdaaDoorTie
import Derived.Test.YtghkifcoeimcdaaDoorCards
import Derived.SevenTiedAt
import Derived.SizedLaws
import Derived.Stop.Joined
import Derived.LaidMore
import Derived.Below
import Derived.ChangeOld
namespace Go.Proofs.YtghkifcoeimcdaaDoor.shaForks
open Go.ChangeShapes Go.WideShapes Go.ChangeAt Go.RowKit
open Go.Proofs.YtghkifcoeimcdaaDoor
open Go.ChangeMaps (open_string shut_string)
set_option linter.unusedVariables false

theorem own : ownKnob Tryd.prog.godebug = none := by kernel_rfl

set_option maxHeartbeats 2000000 in
theorem walk (a0 : Bool) (a1 : ByteArray) (a2 : ByteArray) (a3 : ByteArray) (r1 : a1.size ≤ 140737488355328) (r2 : a2.size ≤ 140737488355328) (r3 : a3.size ≤ 140737488355328) (w : World) (hT : Im.Tab w) :
    Calls Tryd.prog 6 #[.bool a0, .string a1, .string a2, .string a3] w fun e w' => e = .returned (.bool true) ∧ Below w.heap.size w w' := by
  have HT := Lib.hid hT
  have HB : Hid (Below w.heap.size w w) := Below.refl _ _
  have S1 : Hid (a1.size ≤ 288230376151711744) := by show _ ≤ _; omega
  have S2 : Hid (a1.size + a2.size ≤ 288230376151711744) := by show _ ≤ _; omega
  have S3 : Hid (a1.size + a3.size ≤ 288230376151711744) := by show _ ≤ _; omega
  have S4 : Hid (a1.size + a2.size + a3.size ≤ 288230376151711744) := by show _ ≤ _; omega
  have T2 : Hid ((a1 ++ a2).size ≤ 288230376151711744) := by show _ ≤ _; rw [ByteArray.size_append]; exact S2.out
  have T3 : Hid ((a1 ++ a3).size ≤ 288230376151711744) := by show _ ≤ _; rw [ByteArray.size_append]; exact S3.out
  have T4 : Hid ((a1 ++ a2 ++ a3).size ≤ 288230376151711744) := by show _ ≤ _; rw [ByteArray.size_append, ByteArray.size_append]; exact S4.out
  have d12 : (9223372036854775807 < a1.size + a2.size) = False := by simp; omega
  have d13 : (9223372036854775807 < a1.size + a3.size) = False := by simp; omega
  have d123 : (9223372036854775807 < a1.size + a2.size + a3.size) = False := by simp; omega
  clear hT r1 r2 r3
  cases a0
  · go_enter Tryd.func6, Tryd.ntmps6
    go_upto_region 9 with (first
      | (go_at_call 12; refine (Im.awake_any _ (HT.out.below HB.out HT.out.pos)).mono ?_; rintro e u ⟨rfl, hb⟩; have HB := Lib.hid (Im.go_on HB.out hb); clear hb)
      | (go_at_call 13; refine (Im.new2_256 _).mono ?_; rintro e u1 ⟨g, rfl, hg, hb, H0⟩; have hg := Lib.hid (Nat.le_trans HB.out.size hg.out); have HB := Lib.hid (Im.go_on HB.out hb); clear hb)
      | (go_at_call 11; refine (Im.num_same _ _).mono ?_; rintro e u2 ⟨rfl, rfl⟩))
    go_upto_region 10 with (go_at_call 15; refine (Im.write2 false g _ _ _ H0.out (Nat.lt_of_lt_of_le HT.out.pos hg.out) (HT.out.below HB.out HT.out.pos) (by rw [show (⟨#[]⟩ : ByteArray).size = 0 from rfl, Nat.zero_add]; exact S1.out)).mono ?_; rw [Im.emp_app]; rintro e u3 ⟨rfl, hB, H0⟩; have HB := Lib.hid (Im.go_but HB.out hg.out hB); clear hB)
    go_upto_region 11 with (first
      | (go_at_call 14; have _t := H1; refine (Im.hfork2 false g _ _ H0.out).mono ?_; rintro e u5 ⟨g2, rfl, hg2, hb, H2⟩; have n02 : Hid (g < g2) := Nat.lt_of_lt_of_le H0.out.lt hg2.out; have n12 : Hid (g1 < g2) := Nat.lt_of_lt_of_le H1.out.lt hg2.out; have hg2 := Lib.hid (Nat.le_trans HB.out.size hg2.out); have H0 := Lib.hid (H0.out.below hb H0.out.lt); have H1 := Lib.hid (H1.out.below hb H1.out.lt); have HB := Lib.hid (Im.go_on HB.out hb); clear hb)
      | (go_at_call 14; refine (Im.hfork2 false g _ _ H0.out).mono ?_; rintro e u4 ⟨g1, rfl, hg1, hb, H1⟩; have n01 : Hid (g < g1) := Nat.lt_of_lt_of_le H0.out.lt hg1.out; have hg1 := Lib.hid (Nat.le_trans HB.out.size hg1.out); have H0 := Lib.hid (H0.out.below hb H0.out.lt); have HB := Lib.hid (Im.go_on HB.out hb); clear hb))
    go_upto_region 12 with (go_at_call 15; refine (Im.write2 false g1 _ _ _ H1.out (Nat.lt_of_lt_of_le HT.out.pos hg1.out) (HT.out.below HB.out HT.out.pos) S2.out).mono ?_; rintro e u6 ⟨rfl, hB, H1⟩; have H0 := Lib.hid (H0.out.but hB (Nat.ne_of_lt n01.out)); have H2 := Lib.hid (H2.out.but hB (Nat.ne_of_gt n12.out)); have HB := Lib.hid (Im.go_but HB.out hg1.out hB); clear hB)
    go_upto_region 13 with (go_at_call 14; refine (Im.hfork2 false g1 _ _ H1.out).mono ?_; rintro e u7 ⟨g3, rfl, hg3, hb, H3⟩; have n03 : Hid (g < g3) := Nat.lt_of_lt_of_le H0.out.lt hg3.out; have n13 : Hid (g1 < g3) := Nat.lt_of_lt_of_le H1.out.lt hg3.out; have n23 : Hid (g2 < g3) := Nat.lt_of_lt_of_le H2.out.lt hg3.out; have hg3 := Lib.hid (Nat.le_trans HB.out.size hg3.out); have H0 := Lib.hid (H0.out.below hb H0.out.lt); have H1 := Lib.hid (H1.out.below hb H1.out.lt); have H2 := Lib.hid (H2.out.below hb H2.out.lt); have HB := Lib.hid (Im.go_on HB.out hb); clear hb)
    go_upto_region 14 with (go_at_call 15; refine (Im.write2 false g2 _ _ _ H2.out (Nat.lt_of_lt_of_le HT.out.pos hg2.out) (HT.out.below HB.out HT.out.pos) S3.out).mono ?_; rintro e u8 ⟨rfl, hB, H2⟩; have H0 := Lib.hid (H0.out.but hB (Nat.ne_of_lt n02.out)); have H1 := Lib.hid (H1.out.but hB (Nat.ne_of_lt n12.out)); have H3 := Lib.hid (H3.out.but hB (Nat.ne_of_gt n23.out)); have HB := Lib.hid (Im.go_but HB.out hg2.out hB); clear hB)
    go_upto_region 15 with (go_at_call 15; refine (Im.write2 false g3 _ _ _ H3.out (Nat.lt_of_lt_of_le HT.out.pos hg3.out) (HT.out.below HB.out HT.out.pos) (by rw [ByteArray.size_append]; exact S4.out)).mono ?_; rintro e u9 ⟨rfl, hB, H3⟩; have H0 := Lib.hid (H0.out.but hB (Nat.ne_of_lt n03.out)); have H1 := Lib.hid (H1.out.but hB (Nat.ne_of_lt n13.out)); have H2 := Lib.hid (H2.out.but hB (Nat.ne_of_lt n23.out)); have HB := Lib.hid (Im.go_but HB.out hg3.out hB); clear hB)
    go_upto_region 19 with (go_at_call 9; refine (Im.sum2_256 _ _ (HT.out.below HB.out HT.out.pos) (by first | exact S1.out | exact T2.out | exact T3.out | exact T4.out)).mono ?_; rintro e u10 ⟨rfl, hb⟩; have H0 := Lib.hid (H0.out.below hb H0.out.lt); have H1 := Lib.hid (H1.out.below hb H1.out.lt); have H2 := Lib.hid (H2.out.below hb H2.out.lt); have H3 := Lib.hid (H3.out.below hb H3.out.lt); have HB := Lib.hid (Im.go_on HB.out hb); clear hb)
    clear d12 d13 d123
    go_wp2_with (first
      | (go_at_call_of 16 (Value.pointer (some (⟨g, 0, none⟩ : Addr))); refine (Im.hsum_256 g _ _ H0.out (HT.out.below HB.out HT.out.pos) S1.out).mono ?_; rintro e u11 ⟨rfl, hb⟩; have H0 := Lib.hid (H0.out.below hb H0.out.lt); have H1 := Lib.hid (H1.out.below hb H1.out.lt); have H2 := Lib.hid (H2.out.below hb H2.out.lt); have H3 := Lib.hid (H3.out.below hb H3.out.lt); have HB := Lib.hid (Im.go_on HB.out hb); clear hb)
      | (go_at_call_of 16 (Value.pointer (some (⟨g1, 0, none⟩ : Addr))); refine (Im.hsum_256 g1 _ _ H1.out (HT.out.below HB.out HT.out.pos) T2.out).mono ?_; rintro e u11 ⟨rfl, hb⟩; have H0 := Lib.hid (H0.out.below hb H0.out.lt); have H1 := Lib.hid (H1.out.below hb H1.out.lt); have H2 := Lib.hid (H2.out.below hb H2.out.lt); have H3 := Lib.hid (H3.out.below hb H3.out.lt); have HB := Lib.hid (Im.go_on HB.out hb); clear hb)
      | (go_at_call_of 16 (Value.pointer (some (⟨g2, 0, none⟩ : Addr))); refine (Im.hsum_256 g2 _ _ H2.out (HT.out.below HB.out HT.out.pos) T3.out).mono ?_; rintro e u11 ⟨rfl, hb⟩; have H0 := Lib.hid (H0.out.below hb H0.out.lt); have H1 := Lib.hid (H1.out.below hb H1.out.lt); have H2 := Lib.hid (H2.out.below hb H2.out.lt); have H3 := Lib.hid (H3.out.below hb H3.out.lt); have HB := Lib.hid (Im.go_on HB.out hb); clear hb)
      | (go_at_call_of 16 (Value.pointer (some (⟨g3, 0, none⟩ : Addr))); refine (Im.hsum_256 g3 _ _ H3.out (HT.out.below HB.out HT.out.pos) T4.out).mono ?_; rintro e u11 ⟨rfl, hb⟩; have H0 := Lib.hid (H0.out.below hb H0.out.lt); have H1 := Lib.hid (H1.out.below hb H1.out.lt); have H2 := Lib.hid (H2.out.below hb H2.out.lt); have H3 := Lib.hid (H3.out.below hb H3.out.lt); have HB := Lib.hid (Im.go_on HB.out hb); clear hb))
    go_ret
    exact ⟨rfl, HB.out⟩
  · go_enter Tryd.func6, Tryd.ntmps6
    go_upto_region 9 with (first
      | (go_at_call 12; refine (Im.awake_any _ (HT.out.below HB.out HT.out.pos)).mono ?_; rintro e u ⟨rfl, hb⟩; have HB := Lib.hid (Im.go_on HB.out hb); clear hb)
      | (go_at_call 13; refine (Im.new2_384 _).mono ?_; rintro e u1 ⟨g, rfl, hg, hb, H0⟩; have hg := Lib.hid (Nat.le_trans HB.out.size hg.out); have HB := Lib.hid (Im.go_on HB.out hb); clear hb)
      | (go_at_call 11; refine (Im.num_same _ _).mono ?_; rintro e u2 ⟨rfl, rfl⟩))
    go_upto_region 10 with (go_at_call 15; refine (Im.write2 true g _ _ _ H0.out (Nat.lt_of_lt_of_le HT.out.pos hg.out) (HT.out.below HB.out HT.out.pos) (by rw [show (⟨#[]⟩ : ByteArray).size = 0 from rfl, Nat.zero_add]; exact S1.out)).mono ?_; rw [Im.emp_app]; rintro e u3 ⟨rfl, hB, H0⟩; have HB := Lib.hid (Im.go_but HB.out hg.out hB); clear hB)
    go_upto_region 11 with (first
      | (go_at_call 14; have _t := H1; refine (Im.hfork2 true g _ _ H0.out).mono ?_; rintro e u5 ⟨g2, rfl, hg2, hb, H2⟩; have n02 : Hid (g < g2) := Nat.lt_of_lt_of_le H0.out.lt hg2.out; have n12 : Hid (g1 < g2) := Nat.lt_of_lt_of_le H1.out.lt hg2.out; have hg2 := Lib.hid (Nat.le_trans HB.out.size hg2.out); have H0 := Lib.hid (H0.out.below hb H0.out.lt); have H1 := Lib.hid (H1.out.below hb H1.out.lt); have HB := Lib.hid (Im.go_on HB.out hb); clear hb)
      | (go_at_call 14; refine (Im.hfork2 true g _ _ H0.out).mono ?_; rintro e u4 ⟨g1, rfl, hg1, hb, H1⟩; have n01 : Hid (g < g1) := Nat.lt_of_lt_of_le H0.out.lt hg1.out; have hg1 := Lib.hid (Nat.le_trans HB.out.size hg1.out); have H0 := Lib.hid (H0.out.below hb H0.out.lt); have HB := Lib.hid (Im.go_on HB.out hb); clear hb))
    go_upto_region 12 with (go_at_call 15; refine (Im.write2 true g1 _ _ _ H1.out (Nat.lt_of_lt_of_le HT.out.pos hg1.out) (HT.out.below HB.out HT.out.pos) S2.out).mono ?_; rintro e u6 ⟨rfl, hB, H1⟩; have H0 := Lib.hid (H0.out.but hB (Nat.ne_of_lt n01.out)); have H2 := Lib.hid (H2.out.but hB (Nat.ne_of_gt n12.out)); have HB := Lib.hid (Im.go_but HB.out hg1.out hB); clear hB)
    go_upto_region 13 with (go_at_call 14; refine (Im.hfork2 true g1 _ _ H1.out).mono ?_; rintro e u7 ⟨g3, rfl, hg3, hb, H3⟩; have n03 : Hid (g < g3) := Nat.lt_of_lt_of_le H0.out.lt hg3.out; have n13 : Hid (g1 < g3) := Nat.lt_of_lt_of_le H1.out.lt hg3.out; have n23 : Hid (g2 < g3) := Nat.lt_of_lt_of_le H2.out.lt hg3.out; have hg3 := Lib.hid (Nat.le_trans HB.out.size hg3.out); have H0 := Lib.hid (H0.out.below hb H0.out.lt); have H1 := Lib.hid (H1.out.below hb H1.out.lt); have H2 := Lib.hid (H2.out.below hb H2.out.lt); have HB := Lib.hid (Im.go_on HB.out hb); clear hb)
    go_upto_region 14 with (go_at_call 15; refine (Im.write2 true g2 _ _ _ H2.out (Nat.lt_of_lt_of_le HT.out.pos hg2.out) (HT.out.below HB.out HT.out.pos) S3.out).mono ?_; rintro e u8 ⟨rfl, hB, H2⟩; have H0 := Lib.hid (H0.out.but hB (Nat.ne_of_lt n02.out)); have H1 := Lib.hid (H1.out.but hB (Nat.ne_of_lt n12.out)); have H3 := Lib.hid (H3.out.but hB (Nat.ne_of_gt n23.out)); have HB := Lib.hid (Im.go_but HB.out hg2.out hB); clear hB)
    go_upto_region 15 with (go_at_call 15; refine (Im.write2 true g3 _ _ _ H3.out (Nat.lt_of_lt_of_le HT.out.pos hg3.out) (HT.out.below HB.out HT.out.pos) (by rw [ByteArray.size_append]; exact S4.out)).mono ?_; rintro e u9 ⟨rfl, hB, H3⟩; have H0 := Lib.hid (H0.out.but hB (Nat.ne_of_lt n03.out)); have H1 := Lib.hid (H1.out.but hB (Nat.ne_of_lt n13.out)); have H2 := Lib.hid (H2.out.but hB (Nat.ne_of_lt n23.out)); have HB := Lib.hid (Im.go_but HB.out hg3.out hB); clear hB)
    go_upto_region 19 with (go_at_call 9; refine (Im.sum2_384 _ _ (HT.out.below HB.out HT.out.pos) (by first | exact S1.out | exact T2.out | exact T3.out | exact T4.out)).mono ?_; rintro e u10 ⟨rfl, hb⟩; have H0 := Lib.hid (H0.out.below hb H0.out.lt); have H1 := Lib.hid (H1.out.below hb H1.out.lt); have H2 := Lib.hid (H2.out.below hb H2.out.lt); have H3 := Lib.hid (H3.out.below hb H3.out.lt); have HB := Lib.hid (Im.go_on HB.out hb); clear hb)
    clear d12 d13 d123
    go_wp2_with (first
      | (go_at_call_of 16 (Value.pointer (some (⟨g, 0, none⟩ : Addr))); refine (Im.hsum_384 g _ _ H0.out (HT.out.below HB.out HT.out.pos) S1.out).mono ?_; rintro e u11 ⟨rfl, hb⟩; have H0 := Lib.hid (H0.out.below hb H0.out.lt); have H1 := Lib.hid (H1.out.below hb H1.out.lt); have H2 := Lib.hid (H2.out.below hb H2.out.lt); have H3 := Lib.hid (H3.out.below hb H3.out.lt); have HB := Lib.hid (Im.go_on HB.out hb); clear hb)
      | (go_at_call_of 16 (Value.pointer (some (⟨g1, 0, none⟩ : Addr))); refine (Im.hsum_384 g1 _ _ H1.out (HT.out.below HB.out HT.out.pos) T2.out).mono ?_; rintro e u11 ⟨rfl, hb⟩; have H0 := Lib.hid (H0.out.below hb H0.out.lt); have H1 := Lib.hid (H1.out.below hb H1.out.lt); have H2 := Lib.hid (H2.out.below hb H2.out.lt); have H3 := Lib.hid (H3.out.below hb H3.out.lt); have HB := Lib.hid (Im.go_on HB.out hb); clear hb)
      | (go_at_call_of 16 (Value.pointer (some (⟨g2, 0, none⟩ : Addr))); refine (Im.hsum_384 g2 _ _ H2.out (HT.out.below HB.out HT.out.pos) T3.out).mono ?_; rintro e u11 ⟨rfl, hb⟩; have H0 := Lib.hid (H0.out.below hb H0.out.lt); have H1 := Lib.hid (H1.out.below hb H1.out.lt); have H2 := Lib.hid (H2.out.below hb H2.out.lt); have H3 := Lib.hid (H3.out.below hb H3.out.lt); have HB := Lib.hid (Im.go_on HB.out hb); clear hb)
      | (go_at_call_of 16 (Value.pointer (some (⟨g3, 0, none⟩ : Addr))); refine (Im.hsum_384 g3 _ _ H3.out (HT.out.below HB.out HT.out.pos) T4.out).mono ?_; rintro e u11 ⟨rfl, hb⟩; have H0 := Lib.hid (H0.out.below hb H0.out.lt); have H1 := Lib.hid (H1.out.below hb H1.out.lt); have H2 := Lib.hid (H2.out.below hb H2.out.lt); have H3 := Lib.hid (H3.out.below hb H3.out.lt); have HB := Lib.hid (Im.go_on HB.out hb); clear hb))
    go_ret
    exact ⟨rfl, HB.out⟩

set_option maxRecDepth 100000 in
theorem lifted (os : Os) (started : os.Started) (H : Type) (enc : TypeId × Value → H) :
    ReturnsInHanded {} Tryd.checked os 6 .any (fun w args => (Rows.shaForksSpec.pre enc Tryd.prog Tryd.f6 [] false w args ∧ laidMetH Tryd.prog laid1 w) ∧ sizedMet enc Tryd.prog Tryd.f6 (OpenSpec.ofChange Rows.shaForksSpec) false w args)
      (Rows.shaForksSpec.post enc Tryd.prog Tryd.f6 false true false false) := by
  refine returnsInHanded_of_change_and (C := Tryd.checked) (X := fun w _ => laidMetH Tryd.prog laid1 w) (fun _ _ _ hh h => h.of_heap hh) own started (by kernel_rfl) Tryd.func6
    (ChangeSpec.witness_shaped (enc := enc) (C := Tryd.checked) (os := os) (X := fun w _ => laidMetH Tryd.prog laid1 w) false (World.doorLaid Tryd.prog 14 os) #[.bool false, .string ByteArray.empty, .string ByteArray.empty, .string ByteArray.empty] 8 rfl (World.shaped_of_RefB (by kernel_rfl) (by kernel_rfl)) (by kernel_rfl) (by kernel_rfl) (by kernel_rfl) (door_met os _)) ?_
  intro W base args ds gs before hval0 hW _ hsz0 hL _
  have hT := tab_of_laid hL
  have hsz : (DataW.weightsEach Tryd.prog (Tryd.f6.params.toList ++ Rows.shaForksSpec.plain.varTypes Tryd.prog) (ds ++ gs)).all (· ≤ reachBytes) = true := hsz0
  have hval : ∀ (j : Nat) t v, Tryd.f6.params[j]? = some t → args[j]? = some v → Value.okWide Tryd.prog W .any base t v := hval0
  have hW' := hW
  obtain ⟨p, q, hA0, hV, rfl, hfz, hnd⟩ := hW
  have hA : DataW.TrodAll enc Tryd.prog W 0 (fun _ => true) true Tryd.f6.params.toList args.toList ds p := hA0
  rw [Tryd.params6] at hA hval hsz
  obtain ⟨v0, vs0, d0, ds0, p0, q0, hargs, rfl, rfl, h0, r0⟩ := trodAll_cons hA
  obtain ⟨v1, vs1, d1, ds1, p1, q1, rfl, rfl, rfl, h1, r1⟩ := trodAll_cons r0
  obtain ⟨v2, vs2, d2, ds2, p2, q2, rfl, rfl, rfl, h2, r2⟩ := trodAll_cons r1
  obtain ⟨v3, vs3, d3, ds3, p3, q3, rfl, rfl, rfl, h3, r3⟩ := trodAll_cons r2
  obtain ⟨rfl, rfl, rfl⟩ := trodAll_nil r3
  obtain rfl : args = #[v0, v1, v2, v3] := by cases args; simp_all
  obtain ⟨rfl, rfl⟩ := trodVars_none hV
  obtain ⟨a0, rfl, rfl, rfl⟩ := open_bool Tryd.underlying4 (hval 0 4 v0 rfl rfl) h0
  obtain ⟨a1, rfl, rfl, rfl, w1⟩ := open_string Tryd.underlying9 (hval 1 9 v1 rfl rfl) h1
  obtain ⟨a2, rfl, rfl, rfl, w2⟩ := open_string Tryd.underlying9 (hval 2 9 v2 rfl rfl) h2
  obtain ⟨a3, rfl, rfl, rfl, w3⟩ := open_string Tryd.underlying9 (hval 3 9 v3 rfl rfl) h3
  clear hA0 hval0
  simp only [List.append_nil] at hW'
  have r1 : a1.size ≤ 140737488355328 := by
    have := sized_string hsz (j := 1) (t := 9) rfl rfl
    simp [reachBytes] at this; omega
  have r2 : a2.size ≤ 140737488355328 := by
    have := sized_string hsz (j := 2) (t := 9) rfl rfl
    simp [reachBytes] at this; omega
  have r3 : a3.size ≤ 140737488355328 := by
    have := sized_string hsz (j := 3) (t := 9) rfl rfl
    simp [reachBytes] at this; omega
  refine (walk a0 a1 a2 a3 r1 r2 r3 W hT).mono fun e W' ⟨he, bel⟩ => ?_
  subst he
  exact ⟨_, rfl, _, _, _, [], [], [], hW', trodAll_mk1 (shut_bool Tryd.underlying4 _), (trodAll_cons_mk (shut_bool Tryd.underlying4 _) (trodAll_cons_mk (shut_string Tryd.underlying9 w1) (trodAll_cons_mk (shut_string Tryd.underlying9 w2) (trodAll_cons_mk (shut_string Tryd.underlying9 w3) trodAll_mk0)))), rfl, bel.frame _, fun h => by cases h⟩

theorem over : Rows.shaForksRow.holds Tryd.pinned (OpenSpec.ofChange Rows.shaForksSpec) :=
  OpenClaim.holds_of_wide 6 Tryd.f6 rfl rfl rfl rfl rfl rfl rfl ⟨rfl, rfl, rfl, rfl, rfl⟩ rfl rfl rfl rfl rfl (by kernel_rfl) Tryd.func6 (by kernel_rfl)
    (of_decide_eq_true (by kernel_rfl)) (by unfold Func.isWrapper; first | (rw [if_pos (by decide +kernel)]; kernel_rfl) | (rw [if_neg (by decide +kernel)]; exact ⟨rfl, rfl⟩))
    (fun os started H enc _ => lifted os started H enc)

theorem card_holds : Rows.ShaForksCardSaid :=
  Claim7.holds_tied_plain_at .later [] [.data] true (true, "b63a3a16b0215449141b4c4a12ddcade81ad673c352d47340d90069b4ac434ba") false
    over (fun _ h => by cases h) (by kernel_rfl) (fun _ h => by cases h) shaForks_row_tie rfl ⟨rfl, rfl⟩ (by kernel_rfl) rfl
    (fun f fn hf hfn => by
      obtain rfl : f = 6 := Option.some.inj ((show Tryd.prog.funcNamed "halberd/halberdlaw2.ShaForks" = some 6 by kernel_rfl).symm.trans hf) |>.symm
      obtain rfl : fn = Tryd.f6 := (Option.some.inj (Tryd.func6.symm.trans hfn)).symm
      exact ⟨by kernel_rfl, fun j t ht => by
        rw [Tryd.params6] at ht
        have hm : t ∈ [4, 9] := by simpa using Array.mem_of_getElem? ht
        have hall : ([4, 9].all fun u => !Tryd.prog.wantsStandIn u) = true := by kernel_rfl
        exact (show Tryd.prog.wantsStandIn t = false by simpa using List.all_eq_true.1 hall t hm)⟩)
    (by kernel_rfl)
#print axioms card_holds
end Go.Proofs.YtghkifcoeimcdaaDoor.shaForks
