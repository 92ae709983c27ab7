/-
  Sums and products do not hang on the row, products go over sums, what is added is taken away, and a number's product with its inverse is 1, modulo any of the three primes: at every input.
-/
import Derived.Test.YtbkfpaodicfmhaaNwC
import Derived.Test.YtbkfpaodicfmhaaRows
import Derived.WalkKit
import Derived.ProofKit
import Derived.OpenShut
import Derived.ShutString
import Derived.Below
import Derived.ChangeOld
namespace Go.Proofs.Ytbkfpaodicfmhaa.numRules
open Go.ChangeShapes Go.WideShapes Go.ChangeAt Go.RowKit
open Go.ChangeMaps (open_string shut_string)
set_option linter.unusedVariables false

theorem own : ownKnob Try.prog.godebug = none := by kernel_rfl

open Go.Proofs.Nu Go.Proofs.Nt Go.Proofs.Nw
set_option maxHeartbeats 2000000 in
set_option maxRecDepth 100000 in
theorem walk (a0 : Int) (a1 : ByteArray) (a2 : ByteArray) (a3 : ByteArray) (_w0 : (Lit.int .i64 a0).wf = true) (_w1 : a1.size ≤ maxLen) (_w2 : a2.size ≤ maxLen) (_w3 : a3.size ≤ maxLen) (w : World) :
    Calls Try.prog 4 #[.int .i64 a0, .string a1, .string a2, .string a3] w fun e w' => e = .returned (.bool true) ∧ Below w.heap.size w w' := by
  have HB : Hid (Below w.heap.size w w) := Below.refl _ _
  clear _w0 _w1 _w2 _w3
  obtain ⟨q, hq, hq1, hq2⟩ := third_of a0
  have hz : 0 ≤ (q : Int) ∧ (q : Int) ≤ 2 := by omega
  have hqw : IntKind.i64.wrap (q : Int) = (q : Int) := IntWalk.i64_in _ (by omega)
  obtain ⟨A, hA, eA⟩ := red_num q a1 hz
  have dA : Hid (∀ w, Calls Try.prog 16 #[.int .i64 (q : Int), .string a1] w fun e w' => e = .returned (.string (t32 A)) ∧ Below w.heap.size w w') := fun w => by have h := reduced_any q a1 w; rw [eA] at h; exact h
  obtain ⟨B, hB, eB⟩ := red_num q a2 hz
  have dB : Hid (∀ w, Calls Try.prog 16 #[.int .i64 (q : Int), .string a2] w fun e w' => e = .returned (.string (t32 B)) ∧ Below w.heap.size w w') := fun w => by have h := reduced_any q a2 w; rw [eB] at h; exact h
  obtain ⟨C, hC, eC⟩ := red_num q a3 hz
  have dC : Hid (∀ w, Calls Try.prog 16 #[.int .i64 (q : Int), .string a3] w fun e w' => e = .returned (.string (t32 C)) ∧ Below w.heap.size w w') := fun w => by have h := reduced_any q a3 w; rw [eC] at h; exact h
  have hm := md_pos (q : Int)
  have hp := md_prime (q : Int)
  have hS : (A + B) % md q < md q := Nat.mod_lt _ hm
  have hQ : A * C % md q < md q := Nat.mod_lt _ hm
  have hR : C * B % md q < md q := Nat.mod_lt _ hm
  have k1 : Hid (∀ w, Calls Try.prog 8 #[.int .i64 (q : Int), .string (t32 A), .string (t32 B)] w fun e w' => e = .returned (.tuple #[.string (t32 ((A + B) % md q)), .int .i64 0]) ∧ Below w.heap.size w w') := fun w => add_num hz hA hB w
  have k2 : Hid (∀ w, Calls Try.prog 8 #[.int .i64 (q : Int), .string (t32 B), .string (t32 A)] w fun e w' => e = .returned (.tuple #[.string (t32 ((A + B) % md q)), .int .i64 0]) ∧ Below w.heap.size w w') := fun w => by have h := add_num hz hB hA w; rw [Nat.add_comm B A] at h; exact h
  have k3 : Hid (∀ w, Calls Try.prog 10 #[.int .i64 (q : Int), .string (t32 ((A + B) % md q)), .string (t32 B)] w fun e w' => e = .returned (.tuple #[.string (t32 A), .int .i64 0]) ∧ Below w.heap.size w w') := fun w => by have h := sub_num hz hS hB w; rw [sub_back hA hB] at h; exact h
  have k4 : Hid (∀ w, Calls Try.prog 11 #[.int .i64 (q : Int), .string (t32 ((A + B) % md q)), .string (t32 C)] w fun e w' => e = .returned (.tuple #[.string (t32 ((A + B) % md q * C % md q)), .int .i64 0]) ∧ Below w.heap.size w w') := fun w => mul_num hz hS hC w
  have k5 : Hid (∀ w, Calls Try.prog 11 #[.int .i64 (q : Int), .string (t32 A), .string (t32 C)] w fun e w' => e = .returned (.tuple #[.string (t32 (A * C % md q)), .int .i64 0]) ∧ Below w.heap.size w w') := fun w => mul_num hz hA hC w
  have k6 : Hid (∀ w, Calls Try.prog 11 #[.int .i64 (q : Int), .string (t32 C), .string (t32 B)] w fun e w' => e = .returned (.tuple #[.string (t32 (C * B % md q)), .int .i64 0]) ∧ Below w.heap.size w w') := fun w => mul_num hz hC hB w
  have k7 : Hid (∀ w, Calls Try.prog 8 #[.int .i64 (q : Int), .string (t32 (A * C % md q)), .string (t32 (C * B % md q))] w fun e w' => e = .returned (.tuple #[.string (t32 ((A + B) % md q * C % md q)), .int .i64 0]) ∧ Below w.heap.size w w') := fun w => by have h := add_num hz hQ hR w; rw [dist_mod] at h; exact h
  have n0 : Hid (∀ w, Calls Try.prog 17 #[.int .i64 0] w fun e w' => e = .returned (.string (t32 0)) ∧ Below w.heap.size w w') := fun w => word_any 0 w (by omega)
  have n1 : Hid (∀ w, Calls Try.prog 17 #[.int .i64 1] w fun e w' => e = .returned (.string (t32 1)) ∧ Below w.heap.size w w') := fun w => word_any 1 w (by omega)
  rcases Nat.eq_zero_or_pos A with h0 | h0
  · subst h0
    have k8 : Hid (∀ w, Calls Try.prog 12 #[.int .i64 (q : Int), .string (t32 0)] w fun e w' => e = .returned (.tuple #[.string ⟨#[]⟩, .int .i64 900]) ∧ Below w.heap.size w w') := fun w => inv_zero hz w
    have k9 : Hid (∀ w, Calls Try.prog 11 #[.int .i64 (q : Int), .string ⟨#[]⟩, .string (t32 0)] w fun e w' => e = .returned (.tuple #[.string ⟨#[]⟩, .int .i64 900]) ∧ Below w.heap.size w w') := fun w => mul_bad (no_left (no_empty _)) w
    generalize t32 ((0 + B) % md q) = TS at *
    generalize t32 ((0 + B) % md q * C % md q) = TP at *
    generalize t32 (0 * C % md q) = TQ at *
    generalize t32 (C * B % md q) = TR at *
    generalize t32 B = TB at *
    generalize t32 C = TC at *
    generalize t32 0 = T0 at *
    generalize t32 1 = T1 at *
    clear hS hQ hR eA eB eC hm hp hA hB hC
    go_enter Try.func4, Try.ntmps4
    go_wp2_with (first | (go_at_call 15; refine (Nw.awake9_any _).mono ?_; rintro e u ⟨rfl, hb⟩; have HB := Lib.hid (Lw.go_on HB.out hb); clear hb) | (go_at_call 16; fail))
    refine (dA.out _).mono ?_
    rintro e u ⟨rfl, hb⟩
    have HB := Lib.hid (Lw.go_on HB.out hb)
    clear hb
    go_wp2_with (go_at_call 16; fail)
    refine (dB.out _).mono ?_
    rintro e u ⟨rfl, hb⟩
    have HB := Lib.hid (Lw.go_on HB.out hb)
    clear hb
    go_wp2_with (go_at_call 16; fail)
    refine (dC.out _).mono ?_
    rintro e u ⟨rfl, hb⟩
    have HB := Lib.hid (Lw.go_on HB.out hb)
    clear hb
    go_wp2_with (go_at_call 8; fail)
    refine (k1.out _).mono ?_
    rintro e u ⟨rfl, hb⟩
    have HB := Lib.hid (Lw.go_on HB.out hb)
    clear hb
    go_wp2_with (go_at_call 8; fail)
    refine (k2.out _).mono ?_
    rintro e u ⟨rfl, hb⟩
    have HB := Lib.hid (Lw.go_on HB.out hb)
    clear hb
    go_wp2_with (go_at_call 10; fail)
    refine (k3.out _).mono ?_
    rintro e u ⟨rfl, hb⟩
    have HB := Lib.hid (Lw.go_on HB.out hb)
    clear hb
    go_wp2_with (go_at_call 11; fail)
    refine (k4.out _).mono ?_
    rintro e u ⟨rfl, hb⟩
    have HB := Lib.hid (Lw.go_on HB.out hb)
    clear hb
    go_wp2_with (go_at_call 11; fail)
    refine (k5.out _).mono ?_
    rintro e u ⟨rfl, hb⟩
    have HB := Lib.hid (Lw.go_on HB.out hb)
    clear hb
    go_wp2_with (go_at_call 11; fail)
    refine (k6.out _).mono ?_
    rintro e u ⟨rfl, hb⟩
    have HB := Lib.hid (Lw.go_on HB.out hb)
    clear hb
    go_wp2_with (go_at_call 8; fail)
    refine (k7.out _).mono ?_
    rintro e u ⟨rfl, hb⟩
    have HB := Lib.hid (Lw.go_on HB.out hb)
    clear hb
    go_wp2_with (go_at_call 12; fail)
    refine (k8.out _).mono ?_
    rintro e u ⟨rfl, hb⟩
    have HB := Lib.hid (Lw.go_on HB.out hb)
    clear hb
    go_wp2_with (go_at_call 11; fail)
    refine (k9.out _).mono ?_
    rintro e u ⟨rfl, hb⟩
    have HB := Lib.hid (Lw.go_on HB.out hb)
    clear hb
    go_wp2_with (go_at_call 17; fail)
    refine (n0.out _).mono ?_
    rintro e u ⟨rfl, hb⟩
    have HB := Lib.hid (Lw.go_on HB.out hb)
    clear hb
    go_wp2_with (first | (go_at_call 14; refine (Lw.num_same _ _).mono ?_; rintro e u ⟨rfl, rfl⟩) | (go_at_call 17; refine (n1.out _).mono ?_; rintro e u ⟨rfl, hb⟩; have HB := Lib.hid (Lw.go_on HB.out hb); clear hb))
    go_ret
    exact ⟨rfl, HB.out⟩
  · have h0 : ¬ A = 0 := by omega
    have k8 : Hid (∀ w, Calls Try.prog 12 #[.int .i64 (q : Int), .string (t32 A)] w fun e w' => e = .returned (.tuple #[.string (t32 (vi (md q) A)), .int .i64 0]) ∧ Below w.heap.size w w') := fun w => inv_num hz hA h0 w
    have k9 : Hid (∀ w, Calls Try.prog 11 #[.int .i64 (q : Int), .string (t32 (vi (md q) A)), .string (t32 A)] w fun e w' => e = .returned (.tuple #[.string (t32 1), .int .i64 0]) ∧ Below w.heap.size w w') := fun w => by have h := mul_num hz (vi_lt hp A) hA w; rw [vi_mul hp h0 hA] at h; exact h
    have hne := t32_ne hA hm h0
    generalize t32 (vi (md q) A) = TI at *
    generalize t32 ((A + B) % md q) = TS at *
    generalize t32 ((A + B) % md q * C % md q) = TP at *
    generalize t32 (A * C % md q) = TQ at *
    generalize t32 (C * B % md q) = TR at *
    generalize t32 A = TA at *
    generalize t32 B = TB at *
    generalize t32 C = TC at *
    generalize t32 0 = T0 at *
    generalize t32 1 = T1 at *
    clear hS hQ hR eA eB eC hm hp hA hB hC
    clear h0
    go_enter Try.func4, Try.ntmps4
    go_wp2_with (first | (go_at_call 15; refine (Nw.awake9_any _).mono ?_; rintro e u ⟨rfl, hb⟩; have HB := Lib.hid (Lw.go_on HB.out hb); clear hb) | (go_at_call 16; fail))
    refine (dA.out _).mono ?_
    rintro e u ⟨rfl, hb⟩
    have HB := Lib.hid (Lw.go_on HB.out hb)
    clear hb
    go_wp2_with (go_at_call 16; fail)
    refine (dB.out _).mono ?_
    rintro e u ⟨rfl, hb⟩
    have HB := Lib.hid (Lw.go_on HB.out hb)
    clear hb
    go_wp2_with (go_at_call 16; fail)
    refine (dC.out _).mono ?_
    rintro e u ⟨rfl, hb⟩
    have HB := Lib.hid (Lw.go_on HB.out hb)
    clear hb
    go_wp2_with (go_at_call 8; fail)
    refine (k1.out _).mono ?_
    rintro e u ⟨rfl, hb⟩
    have HB := Lib.hid (Lw.go_on HB.out hb)
    clear hb
    go_wp2_with (go_at_call 8; fail)
    refine (k2.out _).mono ?_
    rintro e u ⟨rfl, hb⟩
    have HB := Lib.hid (Lw.go_on HB.out hb)
    clear hb
    go_wp2_with (go_at_call 10; fail)
    refine (k3.out _).mono ?_
    rintro e u ⟨rfl, hb⟩
    have HB := Lib.hid (Lw.go_on HB.out hb)
    clear hb
    go_wp2_with (go_at_call 11; fail)
    refine (k4.out _).mono ?_
    rintro e u ⟨rfl, hb⟩
    have HB := Lib.hid (Lw.go_on HB.out hb)
    clear hb
    go_wp2_with (go_at_call 11; fail)
    refine (k5.out _).mono ?_
    rintro e u ⟨rfl, hb⟩
    have HB := Lib.hid (Lw.go_on HB.out hb)
    clear hb
    go_wp2_with (go_at_call 11; fail)
    refine (k6.out _).mono ?_
    rintro e u ⟨rfl, hb⟩
    have HB := Lib.hid (Lw.go_on HB.out hb)
    clear hb
    go_wp2_with (go_at_call 8; fail)
    refine (k7.out _).mono ?_
    rintro e u ⟨rfl, hb⟩
    have HB := Lib.hid (Lw.go_on HB.out hb)
    clear hb
    go_wp2_with (go_at_call 12; fail)
    refine (k8.out _).mono ?_
    rintro e u ⟨rfl, hb⟩
    have HB := Lib.hid (Lw.go_on HB.out hb)
    clear hb
    go_wp2_with (go_at_call 11; fail)
    refine (k9.out _).mono ?_
    rintro e u ⟨rfl, hb⟩
    have HB := Lib.hid (Lw.go_on HB.out hb)
    clear hb
    go_wp2_with (go_at_call 17; fail)
    refine (n0.out _).mono ?_
    rintro e u ⟨rfl, hb⟩
    have HB := Lib.hid (Lw.go_on HB.out hb)
    clear hb
    go_wp2_with (first | (go_at_call 14; refine (Lw.num_same _ _).mono ?_; rintro e u ⟨rfl, rfl⟩) | (go_at_call 17; refine (n1.out _).mono ?_; rintro e u ⟨rfl, hb⟩; have HB := Lib.hid (Lw.go_on HB.out hb); clear hb))
    go_ret
    exact ⟨rfl, HB.out⟩

set_option maxRecDepth 100000 in
theorem lifted (os : Os) (started : os.Started) (H : Type) (enc : TypeId × Value → H) :
    ReturnsInHanded {} Try.checked os 4 .any (Rows.numRulesSpec.pre6 enc Try.prog Try.f4 Rows.numRulesRow.domain false) (Rows.numRulesSpec.post enc Try.prog Try.f4 false true false false) := by
  refine returnsInHanded_of_change (C := Try.checked) own started (by kernel_rfl) Try.func4
    (ChangeSpec.witness6 (enc := enc) (C := Try.checked) false ⟨#[], #[.int .i64 0, .string ByteArray.empty, .string ByteArray.empty, .string ByteArray.empty], []⟩ 8 (by kernel_rfl) (by kernel_rfl) (by kernel_rfl) (by kernel_rfl)) ?_
  intro W base args ds gs before hval0 hW hcnd _
  have hval : ∀ (j : Nat) t v, Try.f4.params[j]? = some t → args[j]? = some v → Value.okWide Try.prog W .any base t v := hval0
  have hW' := hW
  obtain ⟨p, q, hA0, hV, rfl, hfz, hnd⟩ := hW
  have hA : DataW.TrodAll enc Try.prog W 0 (fun _ => true) true Try.f4.params.toList args.toList ds p := hA0
  rw [Try.params4] at hA hval
  obtain ⟨v0, vs0, d0, ds0, p0, q0, hargs, rfl, rfl, h0, r0⟩ := trodAll_cons hA
  obtain ⟨v1, vs1, d1, ds1, p1, q1, rfl, rfl, rfl, h1, r1⟩ := trodAll_cons r0
  obtain ⟨v2, vs2, d2, ds2, p2, q2, rfl, rfl, rfl, h2, r2⟩ := trodAll_cons r1
  obtain ⟨v3, vs3, d3, ds3, p3, q3, rfl, rfl, rfl, h3, r3⟩ := trodAll_cons r2
  obtain ⟨rfl, rfl, rfl⟩ := trodAll_nil r3
  obtain rfl : args = #[v0, v1, v2, v3] := by cases args; simp_all
  obtain ⟨rfl, rfl⟩ := trodVars_none hV
  obtain ⟨a0, rfl, rfl, rfl, w0⟩ := open_int Try.underlying3 (hval 0 3 v0 rfl rfl) h0
  obtain ⟨a1, rfl, rfl, rfl, w1⟩ := open_string Try.underlying9 (hval 1 9 v1 rfl rfl) h1
  obtain ⟨a2, rfl, rfl, rfl, w2⟩ := open_string Try.underlying9 (hval 2 9 v2 rfl rfl) h2
  obtain ⟨a3, rfl, rfl, rfl, w3⟩ := open_string Try.underlying9 (hval 3 9 v3 rfl rfl) h3
  clear hA0 hval0
  simp only [List.append_nil] at hW'
  refine (walk a0 a1 a2 a3 w0 w1 w2 w3 W).mono fun e W' ⟨he, bel⟩ => ?_
  subst he
  exact ⟨_, rfl, _, _, _, [], [], [], hW', trodAll_mk1 (shut_bool Try.underlying4 _), (trodAll_cons_mk (shut_int Try.underlying3 w0) (trodAll_cons_mk (shut_string Try.underlying9 w1) (trodAll_cons_mk (shut_string Try.underlying9 w2) (trodAll_cons_mk (shut_string Try.underlying9 w3) trodAll_mk0)))), rfl, bel.frame _, fun h => by cases h⟩

theorem over : Rows.numRulesRow.holds Try.pinned (OpenSpec.ofChange Rows.numRulesSpec) :=
  OpenClaim.holds_of_wide 4 Try.f4 rfl rfl rfl rfl rfl rfl rfl ⟨rfl, rfl, rfl, rfl, rfl⟩ rfl rfl rfl rfl rfl (by kernel_rfl) Try.func4 (by kernel_rfl)
    (of_decide_eq_true (by kernel_rfl)) (by unfold Func.isWrapper; first | (rw [if_pos (by decide +kernel)]; kernel_rfl) | (rw [if_neg (by decide +kernel)]; exact ⟨rfl, rfl⟩))
    (fun os started H enc _ => lifted os started H enc)

theorem proved : Rows.NumRulesSaid :=
  over
#print axioms proved
end Go.Proofs.Ytbkfpaodicfmhaa.numRules
