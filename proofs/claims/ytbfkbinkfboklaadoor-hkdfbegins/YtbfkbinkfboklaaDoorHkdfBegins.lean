/-
  A longer key of Expand begins as a shorter one, each has the length that was asked for, up to 255 digests and no more.
-/
import Derived.Test.YtbfkbinkfboklaaDoorKdH
import Derived.Test.YtbfkbinkfboklaaDoorRows
import Derived.WalkKit
import Derived.ProofKit
import Derived.OpenShut
import Derived.ShutString
import Derived.Test.YtbfkbinkfboklaaDoorImW
import Derived.Test.YtbfkbinkfboklaaDoorTie
import Derived.Test.YtbfkbinkfboklaaDoorCards
import Derived.SevenTiedAt
import Derived.SizedLaws
import Derived.Stop.Joined
import Derived.LaidMore
import Derived.Below
import Derived.ChangeOld
namespace Go.Proofs.YtbfkbinkfboklaaDoor.hkdfBegins
open Go.ChangeShapes Go.WideShapes Go.ChangeAt Go.RowKit
open Go.Proofs.YtbfkbinkfboklaaDoor
open Go.ChangeMaps (open_string shut_string)
set_option linter.unusedVariables false

theorem own : ownKnob Tryd.prog.godebug = none := by kernel_rfl

set_option maxHeartbeats 4000000 in
set_option maxRecDepth 100000 in
theorem walk (a0 : Bool) (a1 : ByteArray) (a2 : ByteArray) (a3 : Int) (a4 : Int) (r1 : a1.size ≤ 140737488355328) (r2 : a2.size ≤ 140737488355328) (w3 : (Lit.int .i64 a3).wf = true) (w4 : (Lit.int .i64 a4).wf = true) (w : World) (hT : Im.Tab w) :
    Calls Tryd.prog 4 #[.bool a0, .string a1, .string a2, .int .i64 a3, .int .i64 a4] w fun e w' => e = .returned (.bool true) ∧ Below w.heap.size w w' := by
  have HT := Lib.hid hT
  have HK : Hid (a1.size ≤ 288230376151711744) := Nat.le_trans r1 (by decide)
  have HI : Hid (a2.size ≤ 72057594037927936) := Nat.le_trans r2 (by decide)
  have HB : Hid (Below w.heap.size w w) := Below.refl _ _
  obtain ⟨x, hx, hmx⟩ := Im.maskN511 a3
  obtain ⟨y, hy, hmy⟩ := Im.maskN511 a4
  clear hT r1 r2 w3 w4
  rcases Nat.lt_trichotomy x y with hlt | hlt | hlt
  · have m1 : (x < y) = True := by simp; omega
    have m2 : ((x : Int) < y) = True := by simp; omega
    have m3 : (y < x) = False := by simp; omega
    have m4 : ((y : Int) < x) = False := by simp; omega
    cases a0
    · have s1 : (Hk.expS 256 a1 a2 (x : Int)).size = x := by rw [Hk.expS_size _ _ _ _ (Kd.may256 _ (by omega)), Int.toNat_natCast]
      have s2 : (Hk.expS 256 a1 a2 (y : Int)).size = y := by rw [Hk.expS_size _ _ _ _ (Kd.may256 _ (by omega)), Int.toNat_natCast]
      have s3 : (Hk.expS 256 a1 a2 (y : Int)).extract 0 x = Hk.expS 256 a1 a2 (x : Int) := by have h := Hk.expS_begins 256 a1 a2 x y (Kd.may256 _ (by omega)) (Kd.may256 _ (by omega)) (by omega); rwa [Int.toNat_natCast] at h
      have s4 : (Hk.expS 256 a1 a2 8160).size = 8160 := Hk.expS_size _ _ _ _ (Kd.may256 _ (by decide))
      have H3 := Lib.hid s3
      clear s3
      have hlo : x ≤ y := by omega
      go_enter Tryd.func4, Tryd.ntmps4
      go_wp2_with (fail)
      refine (Kd.awake3_any _ (Im.tab_of HT.out HB.out)).mono ?_
      rintro e u ⟨rfl, hb⟩
      have HB := Lib.hid (Im.go_on HB.out hb)
      clear hb
      go_wp2_with (fail)
      refine (Kd.exp256_yes x a1 a2 _ (Im.tab_of HT.out HB.out) HK.out HI.out (by omega)).mono ?_
      rintro e u ⟨rfl, hb⟩
      have HB := Lib.hid (Im.go_on HB.out hb)
      clear hb
      go_wp2_with (fail)
      refine (Kd.exp256_yes y a1 a2 _ (Im.tab_of HT.out HB.out) HK.out HI.out (by omega)).mono ?_
      rintro e u ⟨rfl, hb⟩
      have HB := Lib.hid (Im.go_on HB.out hb)
      clear hb
      go_wp2_with (fail)
      refine (Kd.exp256_no 8161 a1 a2 _ (Im.tab_of HT.out HB.out) HK.out (by omega)).mono ?_
      rintro e u ⟨rfl, hb⟩
      have HB := Lib.hid (Im.go_on HB.out hb)
      clear hb
      go_wp2_with (fail)
      refine (Kd.exp256_yes 8160 a1 a2 _ (Im.tab_of HT.out HB.out) HK.out HI.out (by omega)).mono ?_
      rintro e u ⟨rfl, hb⟩
      have HB := Lib.hid (Im.go_on HB.out hb)
      clear hb
      have s3 := H3.out
      generalize Hk.expS 256 a1 a2 8160 = U at s4 ⊢
      generalize Hk.expS 256 a1 a2 (x : Int) = S at s1 s3 ⊢
      generalize Hk.expS 256 a1 a2 (y : Int) = T at s2 s3 ⊢
      go_wp2_with (go_at_call 15; refine (Im.num_same _ _).mono ?_; rintro e u ⟨rfl, rfl⟩)
      go_ret
      exact ⟨rfl, HB.out⟩
    · have s1 : (Hk.expS 384 a1 a2 (x : Int)).size = x := by rw [Hk.expS_size _ _ _ _ (Kd.may384 _ (by omega)), Int.toNat_natCast]
      have s2 : (Hk.expS 384 a1 a2 (y : Int)).size = y := by rw [Hk.expS_size _ _ _ _ (Kd.may384 _ (by omega)), Int.toNat_natCast]
      have s3 : (Hk.expS 384 a1 a2 (y : Int)).extract 0 x = Hk.expS 384 a1 a2 (x : Int) := by have h := Hk.expS_begins 384 a1 a2 x y (Kd.may384 _ (by omega)) (Kd.may384 _ (by omega)) (by omega); rwa [Int.toNat_natCast] at h
      have s4 : (Hk.expS 384 a1 a2 12240).size = 12240 := Hk.expS_size _ _ _ _ (Kd.may384 _ (by decide))
      have H3 := Lib.hid s3
      clear s3
      have hlo : x ≤ y := by omega
      go_enter Tryd.func4, Tryd.ntmps4
      go_wp2_with (fail)
      refine (Kd.awake3_any _ (Im.tab_of HT.out HB.out)).mono ?_
      rintro e u ⟨rfl, hb⟩
      have HB := Lib.hid (Im.go_on HB.out hb)
      clear hb
      go_wp2_with (fail)
      refine (Kd.exp384_yes x a1 a2 _ (Im.tab_of HT.out HB.out) HK.out HI.out (by omega)).mono ?_
      rintro e u ⟨rfl, hb⟩
      have HB := Lib.hid (Im.go_on HB.out hb)
      clear hb
      go_wp2_with (fail)
      refine (Kd.exp384_yes y a1 a2 _ (Im.tab_of HT.out HB.out) HK.out HI.out (by omega)).mono ?_
      rintro e u ⟨rfl, hb⟩
      have HB := Lib.hid (Im.go_on HB.out hb)
      clear hb
      go_wp2_with (fail)
      refine (Kd.exp384_no 12241 a1 a2 _ (Im.tab_of HT.out HB.out) HK.out (by omega)).mono ?_
      rintro e u ⟨rfl, hb⟩
      have HB := Lib.hid (Im.go_on HB.out hb)
      clear hb
      go_wp2_with (fail)
      refine (Kd.exp384_yes 12240 a1 a2 _ (Im.tab_of HT.out HB.out) HK.out HI.out (by omega)).mono ?_
      rintro e u ⟨rfl, hb⟩
      have HB := Lib.hid (Im.go_on HB.out hb)
      clear hb
      have s3 := H3.out
      generalize Hk.expS 384 a1 a2 12240 = U at s4 ⊢
      generalize Hk.expS 384 a1 a2 (x : Int) = S at s1 s3 ⊢
      generalize Hk.expS 384 a1 a2 (y : Int) = T at s2 s3 ⊢
      go_wp2_with (go_at_call 15; refine (Im.num_same _ _).mono ?_; rintro e u ⟨rfl, rfl⟩)
      go_ret
      exact ⟨rfl, HB.out⟩
  · subst hlt
    cases a0
    · have s1 : (Hk.expS 256 a1 a2 (x : Int)).size = x := by rw [Hk.expS_size _ _ _ _ (Kd.may256 _ (by omega)), Int.toNat_natCast]
      have s3 : (Hk.expS 256 a1 a2 (x : Int)).extract 0 x = Hk.expS 256 a1 a2 (x : Int) := by have h := Hk.expS_begins 256 a1 a2 x x (Kd.may256 _ (by omega)) (Kd.may256 _ (by omega)) (by omega); rwa [Int.toNat_natCast] at h
      have s4 : (Hk.expS 256 a1 a2 8160).size = 8160 := Hk.expS_size _ _ _ _ (Kd.may256 _ (by decide))
      have H3 := Lib.hid s3
      clear s3
      go_enter Tryd.func4, Tryd.ntmps4
      go_wp2_with (fail)
      refine (Kd.awake3_any _ (Im.tab_of HT.out HB.out)).mono ?_
      rintro e u ⟨rfl, hb⟩
      have HB := Lib.hid (Im.go_on HB.out hb)
      clear hb
      go_wp2_with (fail)
      refine (Kd.exp256_yes x a1 a2 _ (Im.tab_of HT.out HB.out) HK.out HI.out (by omega)).mono ?_
      rintro e u ⟨rfl, hb⟩
      have HB := Lib.hid (Im.go_on HB.out hb)
      clear hb
      go_wp2_with (fail)
      refine (Kd.exp256_yes x a1 a2 _ (Im.tab_of HT.out HB.out) HK.out HI.out (by omega)).mono ?_
      rintro e u ⟨rfl, hb⟩
      have HB := Lib.hid (Im.go_on HB.out hb)
      clear hb
      go_wp2_with (fail)
      refine (Kd.exp256_no 8161 a1 a2 _ (Im.tab_of HT.out HB.out) HK.out (by omega)).mono ?_
      rintro e u ⟨rfl, hb⟩
      have HB := Lib.hid (Im.go_on HB.out hb)
      clear hb
      go_wp2_with (fail)
      refine (Kd.exp256_yes 8160 a1 a2 _ (Im.tab_of HT.out HB.out) HK.out HI.out (by omega)).mono ?_
      rintro e u ⟨rfl, hb⟩
      have HB := Lib.hid (Im.go_on HB.out hb)
      clear hb
      have s3 := H3.out
      generalize Hk.expS 256 a1 a2 8160 = U at s4 ⊢
      generalize Hk.expS 256 a1 a2 (x : Int) = S at s1 s3 ⊢
      go_wp2_with (go_at_call 15; refine (Im.num_same _ _).mono ?_; rintro e u ⟨rfl, rfl⟩)
      go_ret
      exact ⟨rfl, HB.out⟩
    · have s1 : (Hk.expS 384 a1 a2 (x : Int)).size = x := by rw [Hk.expS_size _ _ _ _ (Kd.may384 _ (by omega)), Int.toNat_natCast]
      have s3 : (Hk.expS 384 a1 a2 (x : Int)).extract 0 x = Hk.expS 384 a1 a2 (x : Int) := by have h := Hk.expS_begins 384 a1 a2 x x (Kd.may384 _ (by omega)) (Kd.may384 _ (by omega)) (by omega); rwa [Int.toNat_natCast] at h
      have s4 : (Hk.expS 384 a1 a2 12240).size = 12240 := Hk.expS_size _ _ _ _ (Kd.may384 _ (by decide))
      have H3 := Lib.hid s3
      clear s3
      go_enter Tryd.func4, Tryd.ntmps4
      go_wp2_with (fail)
      refine (Kd.awake3_any _ (Im.tab_of HT.out HB.out)).mono ?_
      rintro e u ⟨rfl, hb⟩
      have HB := Lib.hid (Im.go_on HB.out hb)
      clear hb
      go_wp2_with (fail)
      refine (Kd.exp384_yes x a1 a2 _ (Im.tab_of HT.out HB.out) HK.out HI.out (by omega)).mono ?_
      rintro e u ⟨rfl, hb⟩
      have HB := Lib.hid (Im.go_on HB.out hb)
      clear hb
      go_wp2_with (fail)
      refine (Kd.exp384_yes x a1 a2 _ (Im.tab_of HT.out HB.out) HK.out HI.out (by omega)).mono ?_
      rintro e u ⟨rfl, hb⟩
      have HB := Lib.hid (Im.go_on HB.out hb)
      clear hb
      go_wp2_with (fail)
      refine (Kd.exp384_no 12241 a1 a2 _ (Im.tab_of HT.out HB.out) HK.out (by omega)).mono ?_
      rintro e u ⟨rfl, hb⟩
      have HB := Lib.hid (Im.go_on HB.out hb)
      clear hb
      go_wp2_with (fail)
      refine (Kd.exp384_yes 12240 a1 a2 _ (Im.tab_of HT.out HB.out) HK.out HI.out (by omega)).mono ?_
      rintro e u ⟨rfl, hb⟩
      have HB := Lib.hid (Im.go_on HB.out hb)
      clear hb
      have s3 := H3.out
      generalize Hk.expS 384 a1 a2 12240 = U at s4 ⊢
      generalize Hk.expS 384 a1 a2 (x : Int) = S at s1 s3 ⊢
      go_wp2_with (go_at_call 15; refine (Im.num_same _ _).mono ?_; rintro e u ⟨rfl, rfl⟩)
      go_ret
      exact ⟨rfl, HB.out⟩
  · have m1 : (y < x) = True := by simp; omega
    have m2 : ((y : Int) < x) = True := by simp; omega
    have m3 : (x < y) = False := by simp; omega
    have m4 : ((x : Int) < y) = False := by simp; omega
    cases a0
    · have s1 : (Hk.expS 256 a1 a2 (y : Int)).size = y := by rw [Hk.expS_size _ _ _ _ (Kd.may256 _ (by omega)), Int.toNat_natCast]
      have s2 : (Hk.expS 256 a1 a2 (x : Int)).size = x := by rw [Hk.expS_size _ _ _ _ (Kd.may256 _ (by omega)), Int.toNat_natCast]
      have s3 : (Hk.expS 256 a1 a2 (x : Int)).extract 0 y = Hk.expS 256 a1 a2 (y : Int) := by have h := Hk.expS_begins 256 a1 a2 y x (Kd.may256 _ (by omega)) (Kd.may256 _ (by omega)) (by omega); rwa [Int.toNat_natCast] at h
      have s4 : (Hk.expS 256 a1 a2 8160).size = 8160 := Hk.expS_size _ _ _ _ (Kd.may256 _ (by decide))
      have H3 := Lib.hid s3
      clear s3
      have hlo : y ≤ x := by omega
      go_enter Tryd.func4, Tryd.ntmps4
      go_wp2_with (fail)
      refine (Kd.awake3_any _ (Im.tab_of HT.out HB.out)).mono ?_
      rintro e u ⟨rfl, hb⟩
      have HB := Lib.hid (Im.go_on HB.out hb)
      clear hb
      go_wp2_with (fail)
      refine (Kd.exp256_yes y a1 a2 _ (Im.tab_of HT.out HB.out) HK.out HI.out (by omega)).mono ?_
      rintro e u ⟨rfl, hb⟩
      have HB := Lib.hid (Im.go_on HB.out hb)
      clear hb
      go_wp2_with (fail)
      refine (Kd.exp256_yes x a1 a2 _ (Im.tab_of HT.out HB.out) HK.out HI.out (by omega)).mono ?_
      rintro e u ⟨rfl, hb⟩
      have HB := Lib.hid (Im.go_on HB.out hb)
      clear hb
      go_wp2_with (fail)
      refine (Kd.exp256_no 8161 a1 a2 _ (Im.tab_of HT.out HB.out) HK.out (by omega)).mono ?_
      rintro e u ⟨rfl, hb⟩
      have HB := Lib.hid (Im.go_on HB.out hb)
      clear hb
      go_wp2_with (fail)
      refine (Kd.exp256_yes 8160 a1 a2 _ (Im.tab_of HT.out HB.out) HK.out HI.out (by omega)).mono ?_
      rintro e u ⟨rfl, hb⟩
      have HB := Lib.hid (Im.go_on HB.out hb)
      clear hb
      have s3 := H3.out
      generalize Hk.expS 256 a1 a2 8160 = U at s4 ⊢
      generalize Hk.expS 256 a1 a2 (y : Int) = S at s1 s3 ⊢
      generalize Hk.expS 256 a1 a2 (x : Int) = T at s2 s3 ⊢
      go_wp2_with (go_at_call 15; refine (Im.num_same _ _).mono ?_; rintro e u ⟨rfl, rfl⟩)
      go_ret
      exact ⟨rfl, HB.out⟩
    · have s1 : (Hk.expS 384 a1 a2 (y : Int)).size = y := by rw [Hk.expS_size _ _ _ _ (Kd.may384 _ (by omega)), Int.toNat_natCast]
      have s2 : (Hk.expS 384 a1 a2 (x : Int)).size = x := by rw [Hk.expS_size _ _ _ _ (Kd.may384 _ (by omega)), Int.toNat_natCast]
      have s3 : (Hk.expS 384 a1 a2 (x : Int)).extract 0 y = Hk.expS 384 a1 a2 (y : Int) := by have h := Hk.expS_begins 384 a1 a2 y x (Kd.may384 _ (by omega)) (Kd.may384 _ (by omega)) (by omega); rwa [Int.toNat_natCast] at h
      have s4 : (Hk.expS 384 a1 a2 12240).size = 12240 := Hk.expS_size _ _ _ _ (Kd.may384 _ (by decide))
      have H3 := Lib.hid s3
      clear s3
      have hlo : y ≤ x := by omega
      go_enter Tryd.func4, Tryd.ntmps4
      go_wp2_with (fail)
      refine (Kd.awake3_any _ (Im.tab_of HT.out HB.out)).mono ?_
      rintro e u ⟨rfl, hb⟩
      have HB := Lib.hid (Im.go_on HB.out hb)
      clear hb
      go_wp2_with (fail)
      refine (Kd.exp384_yes y a1 a2 _ (Im.tab_of HT.out HB.out) HK.out HI.out (by omega)).mono ?_
      rintro e u ⟨rfl, hb⟩
      have HB := Lib.hid (Im.go_on HB.out hb)
      clear hb
      go_wp2_with (fail)
      refine (Kd.exp384_yes x a1 a2 _ (Im.tab_of HT.out HB.out) HK.out HI.out (by omega)).mono ?_
      rintro e u ⟨rfl, hb⟩
      have HB := Lib.hid (Im.go_on HB.out hb)
      clear hb
      go_wp2_with (fail)
      refine (Kd.exp384_no 12241 a1 a2 _ (Im.tab_of HT.out HB.out) HK.out (by omega)).mono ?_
      rintro e u ⟨rfl, hb⟩
      have HB := Lib.hid (Im.go_on HB.out hb)
      clear hb
      go_wp2_with (fail)
      refine (Kd.exp384_yes 12240 a1 a2 _ (Im.tab_of HT.out HB.out) HK.out HI.out (by omega)).mono ?_
      rintro e u ⟨rfl, hb⟩
      have HB := Lib.hid (Im.go_on HB.out hb)
      clear hb
      have s3 := H3.out
      generalize Hk.expS 384 a1 a2 12240 = U at s4 ⊢
      generalize Hk.expS 384 a1 a2 (y : Int) = S at s1 s3 ⊢
      generalize Hk.expS 384 a1 a2 (x : Int) = T at s2 s3 ⊢
      go_wp2_with (go_at_call 15; refine (Im.num_same _ _).mono ?_; rintro e u ⟨rfl, rfl⟩)
      go_ret
      exact ⟨rfl, HB.out⟩

set_option maxRecDepth 100000 in
theorem lifted (os : Os) (started : os.Started) (H : Type) (enc : TypeId × Value → H) :
    ReturnsInHanded {} Tryd.checked os 4 .any (fun w args => (Rows.hkdfBeginsSpec.pre enc Tryd.prog Tryd.f4 [] false w args ∧ laidMetH Tryd.prog laid1 w) ∧ sizedMet enc Tryd.prog Tryd.f4 (OpenSpec.ofChange Rows.hkdfBeginsSpec) false w args)
      (Rows.hkdfBeginsSpec.post enc Tryd.prog Tryd.f4 false true false false) := by
  refine returnsInHanded_of_change_and (C := Tryd.checked) (X := fun w _ => laidMetH Tryd.prog laid1 w) (fun _ _ _ hh h => h.of_heap hh) own started (by kernel_rfl) Tryd.func4
    (ChangeSpec.witness_shaped (enc := enc) (C := Tryd.checked) (os := os) (X := fun w _ => laidMetH Tryd.prog laid1 w) false (World.doorLaid Tryd.prog 14 os) #[.bool false, .string ByteArray.empty, .string ByteArray.empty, .int .i64 0, .int .i64 0] 8 rfl (World.shaped_of_RefB (by kernel_rfl) (by kernel_rfl)) (by kernel_rfl) (by kernel_rfl) (by kernel_rfl) (door_met os _)) ?_
  intro W base args ds gs before hval0 hW _ hsz0 hL _
  have hT := tab_of_laid hL
  have hsz : (DataW.weightsEach Tryd.prog (Tryd.f4.params.toList ++ Rows.hkdfBeginsSpec.plain.varTypes Tryd.prog) (ds ++ gs)).all (· ≤ reachBytes) = true := hsz0
  have hval : ∀ (j : Nat) t v, Tryd.f4.params[j]? = some t → args[j]? = some v → Value.okWide Tryd.prog W .any base t v := hval0
  have hW' := hW
  obtain ⟨p, q, hA0, hV, rfl, hfz, hnd⟩ := hW
  have hA : DataW.TrodAll enc Tryd.prog W 0 (fun _ => true) true Tryd.f4.params.toList args.toList ds p := hA0
  rw [Tryd.params4] at hA hval hsz
  obtain ⟨v0, vs0, d0, ds0, p0, q0, hargs, rfl, rfl, h0, r0⟩ := trodAll_cons hA
  obtain ⟨v1, vs1, d1, ds1, p1, q1, rfl, rfl, rfl, h1, r1⟩ := trodAll_cons r0
  obtain ⟨v2, vs2, d2, ds2, p2, q2, rfl, rfl, rfl, h2, r2⟩ := trodAll_cons r1
  obtain ⟨v3, vs3, d3, ds3, p3, q3, rfl, rfl, rfl, h3, r3⟩ := trodAll_cons r2
  obtain ⟨v4, vs4, d4, ds4, p4, q4, rfl, rfl, rfl, h4, r4⟩ := trodAll_cons r3
  obtain ⟨rfl, rfl, rfl⟩ := trodAll_nil r4
  obtain rfl : args = #[v0, v1, v2, v3, v4] := by cases args; simp_all
  obtain ⟨rfl, rfl⟩ := trodVars_none hV
  obtain ⟨a0, rfl, rfl, rfl⟩ := open_bool Tryd.underlying4 (hval 0 4 v0 rfl rfl) h0
  obtain ⟨a1, rfl, rfl, rfl, w1⟩ := open_string Tryd.underlying9 (hval 1 9 v1 rfl rfl) h1
  obtain ⟨a2, rfl, rfl, rfl, w2⟩ := open_string Tryd.underlying9 (hval 2 9 v2 rfl rfl) h2
  obtain ⟨a3, rfl, rfl, rfl, w3⟩ := open_int Tryd.underlying3 (hval 3 3 v3 rfl rfl) h3
  obtain ⟨a4, rfl, rfl, rfl, w4⟩ := open_int Tryd.underlying3 (hval 4 3 v4 rfl rfl) h4
  clear hA0 hval0
  simp only [List.append_nil] at hW'
  have r1 : a1.size ≤ 140737488355328 := by
    have := sized_string hsz (j := 1) (t := 9) rfl rfl
    simp [reachBytes] at this; omega
  have r2 : a2.size ≤ 140737488355328 := by
    have := sized_string hsz (j := 2) (t := 9) rfl rfl
    simp [reachBytes] at this; omega
  refine (walk a0 a1 a2 a3 a4 r1 r2 w3 w4 W hT).mono fun e W' ⟨he, bel⟩ => ?_
  subst he
  exact ⟨_, rfl, _, _, _, [], [], [], hW', trodAll_mk1 (shut_bool Tryd.underlying4 _), (trodAll_cons_mk (shut_bool Tryd.underlying4 _) (trodAll_cons_mk (shut_string Tryd.underlying9 w1) (trodAll_cons_mk (shut_string Tryd.underlying9 w2) (trodAll_cons_mk (shut_int Tryd.underlying3 w3) (trodAll_cons_mk (shut_int Tryd.underlying3 w4) trodAll_mk0))))), rfl, bel.frame _, fun h => by cases h⟩

theorem over : Rows.hkdfBeginsRow.holds Tryd.pinned (OpenSpec.ofChange Rows.hkdfBeginsSpec) :=
  OpenClaim.holds_of_wide 4 Tryd.f4 rfl rfl rfl rfl rfl rfl rfl ⟨rfl, rfl, rfl, rfl, rfl⟩ rfl rfl rfl rfl rfl (by kernel_rfl) Tryd.func4 (by kernel_rfl)
    (of_decide_eq_true (by kernel_rfl)) (by unfold Func.isWrapper; first | (rw [if_pos (by decide +kernel)]; kernel_rfl) | (rw [if_neg (by decide +kernel)]; exact ⟨rfl, rfl⟩))
    (fun os started H enc _ => lifted os started H enc)

theorem card_holds : Rows.HkdfBeginsCardSaid :=
  Claim7.holds_tied_plain_at .later [] [.data] true (true, "ba4f4f3d7e4eba6f6c00cbe2811b726bf11c08da414799edb1ee5f736860c90d") false
    over (fun _ h => by cases h) (by kernel_rfl) (fun _ h => by cases h) hkdfBegins_row_tie rfl ⟨rfl, rfl⟩ (by kernel_rfl) rfl
    (fun f fn hf hfn => by
      obtain rfl : f = 4 := Option.some.inj ((show Tryd.prog.funcNamed "halberd/halberdlaw3.HkdfBegins" = some 4 by kernel_rfl).symm.trans hf) |>.symm
      obtain rfl : fn = Tryd.f4 := (Option.some.inj (Tryd.func4.symm.trans hfn)).symm
      exact ⟨by kernel_rfl, fun j t ht => by
        rw [Tryd.params4] at ht
        have hm : t ∈ [4, 9, 9, 3, 3] := by simpa using Array.mem_of_getElem? ht
        have hall : ([4, 9, 9, 3, 3].all fun u => !Tryd.prog.wantsStandIn u) = true := by kernel_rfl
        exact (show Tryd.prog.wantsStandIn t = false by simpa using List.all_eq_true.1 hall t hm)⟩)
    (by kernel_rfl)
#print axioms card_holds
end Go.Proofs.YtbfkbinkfboklaaDoor.hkdfBegins
