/-
  A difference turned, added up, is nothing; twice is a product by two; a square by its inverse is the number; an inverse's inverse is the number: at every input.
-/
import Derived.Test.YtbkfpaodicfmhaaNwC
import Derived.Test.YtbkfpaodicfmhaaRows
import Derived.WalkKit
import Derived.ProofKit
import Derived.OpenShut
import Derived.ShutString
import Derived.Below
import Derived.ChangeOld
namespace Go.Proofs.Ytbkfpaodicfmhaa.numTurns
open Go.ChangeShapes Go.WideShapes Go.ChangeAt Go.RowKit
open Go.ChangeMaps (open_string shut_string)
set_option linter.unusedVariables false

theorem own : ownKnob Try.prog.godebug = none := by kernel_rfl

open Go.Proofs.Nu Go.Proofs.Nt Go.Proofs.Nw
set_option maxHeartbeats 2000000 in
set_option maxRecDepth 100000 in
theorem walk (a0 : Int) (a1 : ByteArray) (a2 : ByteArray) (_w0 : (Lit.int .i64 a0).wf = true) (_w1 : a1.size ≤ maxLen) (_w2 : a2.size ≤ maxLen) (w : World) :
    Calls Try.prog 5 #[.int .i64 a0, .string a1, .string a2] w fun e w' => e = .returned (.bool true) ∧ Below w.heap.size w w' := by
  have HB : Hid (Below w.heap.size w w) := Below.refl _ _
  clear _w0 _w1 _w2
  obtain ⟨q, hq, hq1, hq2⟩ := third_of a0
  have hz : 0 ≤ (q : Int) ∧ (q : Int) ≤ 2 := by omega
  have hqw : IntKind.i64.wrap (q : Int) = (q : Int) := IntWalk.i64_in _ (by omega)
  obtain ⟨A, hA, eA⟩ := red_num q a1 hz
  have dA : Hid (∀ w, Calls Try.prog 16 #[.int .i64 (q : Int), .string a1] w fun e w' => e = .returned (.string (t32 A)) ∧ Below w.heap.size w w') := fun w => by have h := reduced_any q a1 w; rw [eA] at h; exact h
  obtain ⟨B, hB, eB⟩ := red_num q a2 hz
  have dB : Hid (∀ w, Calls Try.prog 16 #[.int .i64 (q : Int), .string a2] w fun e w' => e = .returned (.string (t32 B)) ∧ Below w.heap.size w w') := fun w => by have h := reduced_any q a2 w; rw [eB] at h; exact h
  have hm := md_pos (q : Int)
  have hp := md_prime (q : Int)
  have h2 := small_lt (q : Int) (show 2 < 1000000000000 by decide)
  have hP : (A + md q - B) % md q < md q := Nat.mod_lt _ hm
  have hQ : (B + md q - A) % md q < md q := Nat.mod_lt _ hm
  have hS : A * A % md q < md q := Nat.mod_lt _ hm
  have k1 : Hid (∀ w, Calls Try.prog 10 #[.int .i64 (q : Int), .string (t32 A), .string (t32 B)] w fun e w' => e = .returned (.tuple #[.string (t32 ((A + md q - B) % md q)), .int .i64 0]) ∧ Below w.heap.size w w') := fun w => sub_num hz hA hB w
  have k2 : Hid (∀ w, Calls Try.prog 10 #[.int .i64 (q : Int), .string (t32 B), .string (t32 A)] w fun e w' => e = .returned (.tuple #[.string (t32 ((B + md q - A) % md q)), .int .i64 0]) ∧ Below w.heap.size w w') := fun w => sub_num hz hB hA w
  have k3 : Hid (∀ w, Calls Try.prog 8 #[.int .i64 (q : Int), .string (t32 ((A + md q - B) % md q)), .string (t32 ((B + md q - A) % md q))] w fun e w' => e = .returned (.tuple #[.string (t32 0), .int .i64 0]) ∧ Below w.heap.size w w') := fun w => by have h := add_num hz hP hQ w; rw [turn_mod hA hB] at h; exact h
  have k4 : Hid (∀ w, Calls Try.prog 8 #[.int .i64 (q : Int), .string (t32 A), .string (t32 A)] w fun e w' => e = .returned (.tuple #[.string (t32 ((A + A) % md q)), .int .i64 0]) ∧ Below w.heap.size w w') := fun w => add_num hz hA hA w
  have k5 : Hid (∀ w, Calls Try.prog 11 #[.int .i64 (q : Int), .string (t32 A), .string (t32 2)] w fun e w' => e = .returned (.tuple #[.string (t32 ((A + A) % md q)), .int .i64 0]) ∧ Below w.heap.size w w') := fun w => by have h := mul_num hz hA h2 w; rw [twice_mod] at h; exact h
  have k6 : Hid (∀ w, Calls Try.prog 11 #[.int .i64 (q : Int), .string (t32 A), .string (t32 A)] w fun e w' => e = .returned (.tuple #[.string (t32 (A * A % md q)), .int .i64 0]) ∧ Below w.heap.size w w') := fun w => mul_num hz hA hA w
  have n0 : Hid (∀ w, Calls Try.prog 17 #[.int .i64 0] w fun e w' => e = .returned (.string (t32 0)) ∧ Below w.heap.size w w') := fun w => word_any 0 w (by omega)
  have n2 : Hid (∀ w, Calls Try.prog 17 #[.int .i64 2] w fun e w' => e = .returned (.string (t32 2)) ∧ Below w.heap.size w w') := fun w => word_any 2 w (by omega)
  rcases Nat.eq_zero_or_pos A with h0 | h0
  · subst h0
    have k7 : Hid (∀ w, Calls Try.prog 12 #[.int .i64 (q : Int), .string (t32 0)] w fun e w' => e = .returned (.tuple #[.string ⟨#[]⟩, .int .i64 900]) ∧ Below w.heap.size w w') := fun w => inv_zero hz w
    have k8 : Hid (∀ w, Calls Try.prog 11 #[.int .i64 (q : Int), .string (t32 (0 * 0 % md q)), .string ⟨#[]⟩] w fun e w' => e = .returned (.tuple #[.string ⟨#[]⟩, .int .i64 900]) ∧ Below w.heap.size w w') := fun w => mul_bad (no_right (no_empty _)) w
    have k9 : Hid (∀ w, Calls Try.prog 12 #[.int .i64 (q : Int), .string ⟨#[]⟩] w fun e w' => e = .returned (.tuple #[.string ⟨#[]⟩, .int .i64 900]) ∧ Below w.heap.size w w') := fun w => inv_bad (no_empty _) w
    generalize t32 ((0 + md q - B) % md q) = TP at *
    generalize t32 ((B + md q - 0) % md q) = TQ at *
    generalize t32 (0 * 0 % md q) = TS at *
    generalize t32 ((0 + 0) % md q) = TT at *
    generalize t32 B = TB at *
    generalize t32 0 = T0 at *
    generalize t32 2 = T2 at *
    clear hS hQ hP eA eB hm hp hA hB h2
    go_enter Try.func5, Try.ntmps5
    go_wp2_with (first | (go_at_call 15; refine (Nw.awake9_any _).mono ?_; rintro e u ⟨rfl, hb⟩; have HB := Lib.hid (Lw.go_on HB.out hb); clear hb) | (go_at_call 16; fail))
    refine (dA.out _).mono ?_
    rintro e u ⟨rfl, hb⟩
    have HB := Lib.hid (Lw.go_on HB.out hb)
    clear hb
    go_wp2_with (go_at_call 16; fail)
    refine (dB.out _).mono ?_
    rintro e u ⟨rfl, hb⟩
    have HB := Lib.hid (Lw.go_on HB.out hb)
    clear hb
    go_wp2_with (go_at_call 10; fail)
    refine (k1.out _).mono ?_
    rintro e u ⟨rfl, hb⟩
    have HB := Lib.hid (Lw.go_on HB.out hb)
    clear hb
    go_wp2_with (go_at_call 10; fail)
    refine (k2.out _).mono ?_
    rintro e u ⟨rfl, hb⟩
    have HB := Lib.hid (Lw.go_on HB.out hb)
    clear hb
    go_wp2_with (go_at_call 8; fail)
    refine (k3.out _).mono ?_
    rintro e u ⟨rfl, hb⟩
    have HB := Lib.hid (Lw.go_on HB.out hb)
    clear hb
    go_wp2_with (go_at_call 8; fail)
    refine (k4.out _).mono ?_
    rintro e u ⟨rfl, hb⟩
    have HB := Lib.hid (Lw.go_on HB.out hb)
    clear hb
    go_wp2_with (go_at_call 17; fail)
    refine (n2.out _).mono ?_
    rintro e u ⟨rfl, hb⟩
    have HB := Lib.hid (Lw.go_on HB.out hb)
    clear hb
    go_wp2_with (go_at_call 11; fail)
    refine (k5.out _).mono ?_
    rintro e u ⟨rfl, hb⟩
    have HB := Lib.hid (Lw.go_on HB.out hb)
    clear hb
    go_wp2_with (go_at_call 11; fail)
    refine (k6.out _).mono ?_
    rintro e u ⟨rfl, hb⟩
    have HB := Lib.hid (Lw.go_on HB.out hb)
    clear hb
    go_wp2_with (go_at_call 12; fail)
    refine (k7.out _).mono ?_
    rintro e u ⟨rfl, hb⟩
    have HB := Lib.hid (Lw.go_on HB.out hb)
    clear hb
    go_wp2_with (go_at_call 11; fail)
    refine (k8.out _).mono ?_
    rintro e u ⟨rfl, hb⟩
    have HB := Lib.hid (Lw.go_on HB.out hb)
    clear hb
    go_wp2_with (go_at_call 12; fail)
    refine (k9.out _).mono ?_
    rintro e u ⟨rfl, hb⟩
    have HB := Lib.hid (Lw.go_on HB.out hb)
    clear hb
    go_wp2_with (first | (go_at_call 14; refine (Lw.num_same _ _).mono ?_; rintro e u ⟨rfl, rfl⟩) | (go_at_call 17; refine (n0.out _).mono ?_; rintro e u ⟨rfl, hb⟩; have HB := Lib.hid (Lw.go_on HB.out hb); clear hb))
    go_ret
    exact ⟨rfl, HB.out⟩
  · have h0 : ¬ A = 0 := by omega
    have k7 : Hid (∀ w, Calls Try.prog 12 #[.int .i64 (q : Int), .string (t32 A)] w fun e w' => e = .returned (.tuple #[.string (t32 (vi (md q) A)), .int .i64 0]) ∧ Below w.heap.size w w') := fun w => inv_num hz hA h0 w
    have k8 : Hid (∀ w, Calls Try.prog 11 #[.int .i64 (q : Int), .string (t32 (A * A % md q)), .string (t32 (vi (md q) A))] w fun e w' => e = .returned (.tuple #[.string (t32 A), .int .i64 0]) ∧ Below w.heap.size w w') := fun w => by have h := mul_num hz hS (vi_lt hp A) w; rw [square_back hp h0 hA] at h; exact h
    have k9 : Hid (∀ w, Calls Try.prog 12 #[.int .i64 (q : Int), .string (t32 (vi (md q) A))] w fun e w' => e = .returned (.tuple #[.string (t32 A), .int .i64 0]) ∧ Below w.heap.size w w') := fun w => by have h := inv_num hz (vi_lt hp A) (vi_pos hp h0 hA) w; rw [vi_vi hp h0 hA] at h; exact h
    have hne := t32_ne hA hm h0
    generalize t32 (vi (md q) A) = TI at *
    generalize t32 ((A + md q - B) % md q) = TP at *
    generalize t32 ((B + md q - A) % md q) = TQ at *
    generalize t32 (A * A % md q) = TS at *
    generalize t32 ((A + A) % md q) = TT at *
    generalize t32 A = TA at *
    generalize t32 B = TB at *
    generalize t32 0 = T0 at *
    generalize t32 2 = T2 at *
    clear hS hQ hP eA eB hm hp hA hB h2
    clear h0
    go_enter Try.func5, Try.ntmps5
    go_wp2_with (first | (go_at_call 15; refine (Nw.awake9_any _).mono ?_; rintro e u ⟨rfl, hb⟩; have HB := Lib.hid (Lw.go_on HB.out hb); clear hb) | (go_at_call 16; fail))
    refine (dA.out _).mono ?_
    rintro e u ⟨rfl, hb⟩
    have HB := Lib.hid (Lw.go_on HB.out hb)
    clear hb
    go_wp2_with (go_at_call 16; fail)
    refine (dB.out _).mono ?_
    rintro e u ⟨rfl, hb⟩
    have HB := Lib.hid (Lw.go_on HB.out hb)
    clear hb
    go_wp2_with (go_at_call 10; fail)
    refine (k1.out _).mono ?_
    rintro e u ⟨rfl, hb⟩
    have HB := Lib.hid (Lw.go_on HB.out hb)
    clear hb
    go_wp2_with (go_at_call 10; fail)
    refine (k2.out _).mono ?_
    rintro e u ⟨rfl, hb⟩
    have HB := Lib.hid (Lw.go_on HB.out hb)
    clear hb
    go_wp2_with (go_at_call 8; fail)
    refine (k3.out _).mono ?_
    rintro e u ⟨rfl, hb⟩
    have HB := Lib.hid (Lw.go_on HB.out hb)
    clear hb
    go_wp2_with (go_at_call 8; fail)
    refine (k4.out _).mono ?_
    rintro e u ⟨rfl, hb⟩
    have HB := Lib.hid (Lw.go_on HB.out hb)
    clear hb
    go_wp2_with (go_at_call 17; fail)
    refine (n2.out _).mono ?_
    rintro e u ⟨rfl, hb⟩
    have HB := Lib.hid (Lw.go_on HB.out hb)
    clear hb
    go_wp2_with (go_at_call 11; fail)
    refine (k5.out _).mono ?_
    rintro e u ⟨rfl, hb⟩
    have HB := Lib.hid (Lw.go_on HB.out hb)
    clear hb
    go_wp2_with (go_at_call 11; fail)
    refine (k6.out _).mono ?_
    rintro e u ⟨rfl, hb⟩
    have HB := Lib.hid (Lw.go_on HB.out hb)
    clear hb
    go_wp2_with (go_at_call 12; fail)
    refine (k7.out _).mono ?_
    rintro e u ⟨rfl, hb⟩
    have HB := Lib.hid (Lw.go_on HB.out hb)
    clear hb
    go_wp2_with (go_at_call 11; fail)
    refine (k8.out _).mono ?_
    rintro e u ⟨rfl, hb⟩
    have HB := Lib.hid (Lw.go_on HB.out hb)
    clear hb
    go_wp2_with (go_at_call 12; fail)
    refine (k9.out _).mono ?_
    rintro e u ⟨rfl, hb⟩
    have HB := Lib.hid (Lw.go_on HB.out hb)
    clear hb
    go_wp2_with (first | (go_at_call 14; refine (Lw.num_same _ _).mono ?_; rintro e u ⟨rfl, rfl⟩) | (go_at_call 17; refine (n0.out _).mono ?_; rintro e u ⟨rfl, hb⟩; have HB := Lib.hid (Lw.go_on HB.out hb); clear hb))
    go_ret
    exact ⟨rfl, HB.out⟩

set_option maxRecDepth 100000 in
theorem lifted (os : Os) (started : os.Started) (H : Type) (enc : TypeId × Value → H) :
    ReturnsInHanded {} Try.checked os 5 .any (Rows.numTurnsSpec.pre6 enc Try.prog Try.f5 Rows.numTurnsRow.domain false) (Rows.numTurnsSpec.post enc Try.prog Try.f5 false true false false) := by
  refine returnsInHanded_of_change (C := Try.checked) own started (by kernel_rfl) Try.func5
    (ChangeSpec.witness6 (enc := enc) (C := Try.checked) false ⟨#[], #[.int .i64 0, .string ByteArray.empty, .string ByteArray.empty], []⟩ 8 (by kernel_rfl) (by kernel_rfl) (by kernel_rfl) (by kernel_rfl)) ?_
  intro W base args ds gs before hval0 hW hcnd _
  have hval : ∀ (j : Nat) t v, Try.f5.params[j]? = some t → args[j]? = some v → Value.okWide Try.prog W .any base t v := hval0
  have hW' := hW
  obtain ⟨p, q, hA0, hV, rfl, hfz, hnd⟩ := hW
  have hA : DataW.TrodAll enc Try.prog W 0 (fun _ => true) true Try.f5.params.toList args.toList ds p := hA0
  rw [Try.params5] at hA hval
  obtain ⟨v0, vs0, d0, ds0, p0, q0, hargs, rfl, rfl, h0, r0⟩ := trodAll_cons hA
  obtain ⟨v1, vs1, d1, ds1, p1, q1, rfl, rfl, rfl, h1, r1⟩ := trodAll_cons r0
  obtain ⟨v2, vs2, d2, ds2, p2, q2, rfl, rfl, rfl, h2, r2⟩ := trodAll_cons r1
  obtain ⟨rfl, rfl, rfl⟩ := trodAll_nil r2
  obtain rfl : args = #[v0, v1, v2] := by cases args; simp_all
  obtain ⟨rfl, rfl⟩ := trodVars_none hV
  obtain ⟨a0, rfl, rfl, rfl, w0⟩ := open_int Try.underlying3 (hval 0 3 v0 rfl rfl) h0
  obtain ⟨a1, rfl, rfl, rfl, w1⟩ := open_string Try.underlying9 (hval 1 9 v1 rfl rfl) h1
  obtain ⟨a2, rfl, rfl, rfl, w2⟩ := open_string Try.underlying9 (hval 2 9 v2 rfl rfl) h2
  clear hA0 hval0
  simp only [List.append_nil] at hW'
  refine (walk a0 a1 a2 w0 w1 w2 W).mono fun e W' ⟨he, bel⟩ => ?_
  subst he
  exact ⟨_, rfl, _, _, _, [], [], [], hW', trodAll_mk1 (shut_bool Try.underlying4 _), (trodAll_cons_mk (shut_int Try.underlying3 w0) (trodAll_cons_mk (shut_string Try.underlying9 w1) (trodAll_cons_mk (shut_string Try.underlying9 w2) trodAll_mk0))), rfl, bel.frame _, fun h => by cases h⟩

theorem over : Rows.numTurnsRow.holds Try.pinned (OpenSpec.ofChange Rows.numTurnsSpec) :=
  OpenClaim.holds_of_wide 5 Try.f5 rfl rfl rfl rfl rfl rfl rfl ⟨rfl, rfl, rfl, rfl, rfl⟩ rfl rfl rfl rfl rfl (by kernel_rfl) Try.func5 (by kernel_rfl)
    (of_decide_eq_true (by kernel_rfl)) (by unfold Func.isWrapper; first | (rw [if_pos (by decide +kernel)]; kernel_rfl) | (rw [if_neg (by decide +kernel)]; exact ⟨rfl, rfl⟩))
    (fun os started H enc _ => lifted os started H enc)

theorem proved : Rows.NumTurnsSaid :=
  over
#print axioms proved
end Go.Proofs.Ytbkfpaodicfmhaa.numTurns
