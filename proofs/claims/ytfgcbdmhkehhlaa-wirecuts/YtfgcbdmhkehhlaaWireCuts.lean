/-
  For every text and all numbers the law WireCuts answers true, and its arguments read as before. Conditions: none.
-/
import Derived.Test.YtfgcbdmhkehhlaaC
import Derived.Test.YtfgcbdmhkehhlaaE
import Derived.Test.YtfgcbdmhkehhlaaRows
import Derived.WalkKit
import Derived.ProofKit
import Derived.OpenShut
import Derived.ShutString
import Derived.Below
import Derived.ChangeOld
namespace Go.Proofs.Ytfgcbdmhkehhlaa.wireCuts
open Go.ChangeShapes Go.WideShapes Go.ChangeAt Go.RowKit
open Go.ChangeMaps (open_string shut_string)
set_option linter.unusedVariables false

theorem own : ownKnob Try.prog.godebug = none := by kernel_rfl

set_option maxHeartbeats 1000000 in
set_option maxRecDepth 100000 in
theorem walk (a0 : ByteArray) (a1 : Int) (a2 : Int) (w0 : a0.size ≤ maxLen) (w1 : (Lit.int .i64 a1).wf = true) (w2 : (Lit.int .i64 a2).wf = true) (w : World) :
    Calls Try.prog 7 #[.string a0, .int .i64 a1, .int .i64 a2] w fun e w' => e = .returned (.bool true) ∧ Below w.heap.size w w' := by
  clear w1 w2
  unfold maxLen at w0
  obtain ⟨q, hq⟩ : ∃ q, (IntKind.u64.wrap a1).tmod 3 = q := ⟨_, rfl⟩
  obtain ⟨q1, q2⟩ : 0 ≤ q ∧ q ≤ 2 := by
    rw [← hq, IntKind.wrap_u64, Int.tmod_eq_emod_of_nonneg (by omega)]; omega
  have hpow : 200 < 256 ^ (1 + q).toNat := Nat.lt_of_lt_of_le (show 200 < 256 ^ 1 by decide) (Nat.pow_le_pow_right (by omega) (by omega))
  have HP := Lib.hid hpow
  clear hpow
  by_cases hlen : (200 : Int) < a0.size
  · go_enter Try.func7, Try.ntmps7
    go_wp2_with (go_at_call 17; refine (awake_any _).mono ?_; rintro e u1 ⟨rfl, b1⟩)
    have t2 : (a0.extract 0 200).size ≤ 200 := by rw [ByteArray.size_extract]; omega
    generalize a0.extract 0 200 = t at t2 ⊢
    have HT := Lib.hid (Nat.lt_of_le_of_lt t2 HP.out)
    clear hlen
    refine (putVec_yes t (1 + q) _ (by simp [lenB]; exact ⟨by omega, by omega, HT.out⟩)).mono ?_
    rintro e u2 ⟨rfl, b2⟩
    have hvs : (beS t.size (1 + q).toNat ++ t).size = (1 + q).toNat + t.size := by rw [ByteArray.size_append, beS_size]
    have hvl : (beS t.size (1 + q).toNat ++ t).data.toList = beL t.size (1 + q).toNat ++ t.data.toList := by rw [app_list, beS_list]
    have HC : Hid (∀ m : Nat, (m : Int) < 1 + q + t.size → vecE ((beS t.size (1 + q).toNat ++ t).extract 0 m) 0 (1 + q) = 100) := fun m hm => vec_cutE t (1 + q) m (by omega) (by omega) HT.out hm
    generalize beS t.size (1 + q).toNat ++ t = v at hvs hvl HC ⊢
    have HB : Hid (vecS (⟨#[122]⟩ ++ v ++ ⟨#[122]⟩) 1 (1 + q) = t ∧ vecT (⟨#[122]⟩ ++ v ++ ⟨#[122]⟩) 1 (1 + q) = v.size + 1 ∧ vecE (⟨#[122]⟩ ++ v ++ ⟨#[122]⟩) 1 (1 + q) = 0) := by
      obtain ⟨x1, x2, x3⟩ := vec_back [122] [122] (⟨#[122]⟩ ++ v ++ ⟨#[122]⟩) t (1 + q) (by omega) (by omega) HT.out (by rw [app_list, app_list, hvl]; simp)
      refine ⟨x1, x2.trans ?_, x3⟩
      simp; omega
    clear hvl
    have v1 : 1 ≤ v.size := by omega
    have v2 : v.size ≤ 203 := by omega
    have HV := Lib.hid hvs
    clear hvs
    obtain ⟨m, hm, m1⟩ : ∃ m : Nat, (IntKind.u64.wrap a2).tmod v.size = m ∧ m < v.size := by
      have g1 : 0 ≤ IntKind.u64.wrap a2 := by rw [IntKind.wrap_u64]; omega
      have g2 := Int.emod_nonneg (IntKind.u64.wrap a2) (show (v.size : Int) ≠ 0 by omega)
      have g3 := Int.emod_lt_of_pos (IntKind.u64.wrap a2) (show (0 : Int) < v.size by omega)
      refine ⟨((IntKind.u64.wrap a2) % v.size).toNat, ?_, by omega⟩
      rw [Int.tmod_eq_emod_of_nonneg g1]; omega
    go_wp2_with fail
    refine (vec_any _ _ _ _ (by rw [ByteArray.size_extract]; unfold maxLen; omega)).mono ?_
    rintro e u3 ⟨rfl, b3⟩
    rw [HC.out m (by have := HV.out; omega)]
    generalize v.extract 0 m = v'
    go_wp2_with fail
    refine (vec_any _ _ _ _ (by rw [ByteArray.size_append, ByteArray.size_append, show (⟨#[122]⟩ : ByteArray).size = 1 from rfl]; unfold maxLen; omega)).mono ?_
    rintro e u4 ⟨rfl, b4⟩
    rw [HB.out.1, HB.out.2.1, HB.out.2.2]
    go_wp2_with fail
    refine (u16_no _ _ _ (by unfold maxLen; omega) (holdsB_false (by omega))).mono ?_
    rintro e u ⟨rfl, rfl⟩
    go_wp2_with fail
    refine (u32_no _ _ _ (by unfold maxLen; omega) (holdsB_false (by omega))).mono ?_
    rintro e u ⟨rfl, rfl⟩
    go_wp2
    go_ret
    have s1 := b1.size; have s2 := b2.size; have s3 := b3.size; have s4 := b4.size
    exact ⟨rfl, b1.trans ((b2.mono (by omega)).trans ((b3.mono (by omega)).trans (b4.mono (by omega))))⟩
  · have t2 : a0.size ≤ 200 := by omega
    have HT := Lib.hid (Nat.lt_of_le_of_lt t2 HP.out)
    go_enter Try.func7, Try.ntmps7
    go_wp2_with (go_at_call 17; refine (awake_any _).mono ?_; rintro e u1 ⟨rfl, b1⟩)
    clear hlen
    refine (putVec_yes a0 (1 + q) _ (by simp [lenB]; exact ⟨by omega, by omega, HT.out⟩)).mono ?_
    rintro e u2 ⟨rfl, b2⟩
    have hvs : (beS a0.size (1 + q).toNat ++ a0).size = (1 + q).toNat + a0.size := by rw [ByteArray.size_append, beS_size]
    have hvl : (beS a0.size (1 + q).toNat ++ a0).data.toList = beL a0.size (1 + q).toNat ++ a0.data.toList := by rw [app_list, beS_list]
    have HC : Hid (∀ m : Nat, (m : Int) < 1 + q + a0.size → vecE ((beS a0.size (1 + q).toNat ++ a0).extract 0 m) 0 (1 + q) = 100) := fun m hm => vec_cutE a0 (1 + q) m (by omega) (by omega) HT.out hm
    generalize beS a0.size (1 + q).toNat ++ a0 = v at hvs hvl HC ⊢
    have HB : Hid (vecS (⟨#[122]⟩ ++ v ++ ⟨#[122]⟩) 1 (1 + q) = a0 ∧ vecT (⟨#[122]⟩ ++ v ++ ⟨#[122]⟩) 1 (1 + q) = v.size + 1 ∧ vecE (⟨#[122]⟩ ++ v ++ ⟨#[122]⟩) 1 (1 + q) = 0) := by
      obtain ⟨x1, x2, x3⟩ := vec_back [122] [122] (⟨#[122]⟩ ++ v ++ ⟨#[122]⟩) a0 (1 + q) (by omega) (by omega) HT.out (by rw [app_list, app_list, hvl]; simp)
      refine ⟨x1, x2.trans ?_, x3⟩
      simp; omega
    clear hvl
    have v1 : 1 ≤ v.size := by omega
    have v2 : v.size ≤ 203 := by omega
    have HV := Lib.hid hvs
    clear hvs
    obtain ⟨m, hm, m1⟩ : ∃ m : Nat, (IntKind.u64.wrap a2).tmod v.size = m ∧ m < v.size := by
      have g1 : 0 ≤ IntKind.u64.wrap a2 := by rw [IntKind.wrap_u64]; omega
      have g2 := Int.emod_nonneg (IntKind.u64.wrap a2) (show (v.size : Int) ≠ 0 by omega)
      have g3 := Int.emod_lt_of_pos (IntKind.u64.wrap a2) (show (0 : Int) < v.size by omega)
      refine ⟨((IntKind.u64.wrap a2) % v.size).toNat, ?_, by omega⟩
      rw [Int.tmod_eq_emod_of_nonneg g1]; omega
    go_wp2_with fail
    refine (vec_any _ _ _ _ (by rw [ByteArray.size_extract]; unfold maxLen; omega)).mono ?_
    rintro e u3 ⟨rfl, b3⟩
    rw [HC.out m (by have := HV.out; omega)]
    generalize v.extract 0 m = v'
    go_wp2_with fail
    refine (vec_any _ _ _ _ (by rw [ByteArray.size_append, ByteArray.size_append, show (⟨#[122]⟩ : ByteArray).size = 1 from rfl]; unfold maxLen; omega)).mono ?_
    rintro e u4 ⟨rfl, b4⟩
    rw [HB.out.1, HB.out.2.1, HB.out.2.2]
    go_wp2_with fail
    refine (u16_no _ _ _ (by unfold maxLen; omega) (holdsB_false (by omega))).mono ?_
    rintro e u ⟨rfl, rfl⟩
    go_wp2_with fail
    refine (u32_no _ _ _ (by unfold maxLen; omega) (holdsB_false (by omega))).mono ?_
    rintro e u ⟨rfl, rfl⟩
    go_wp2
    go_ret
    have s1 := b1.size; have s2 := b2.size; have s3 := b3.size; have s4 := b4.size
    exact ⟨rfl, b1.trans ((b2.mono (by omega)).trans ((b3.mono (by omega)).trans (b4.mono (by omega))))⟩

set_option maxRecDepth 100000 in
theorem lifted (os : Os) (started : os.Started) (H : Type) (enc : TypeId × Value → H) :
    ReturnsInHanded {} Try.checked os 7 .any (Rows.wireCutsSpec.pre6 enc Try.prog Try.f7 Rows.wireCutsRow.domain false) (Rows.wireCutsSpec.post enc Try.prog Try.f7 false true false false) := by
  refine returnsInHanded_of_change (C := Try.checked) own started (by kernel_rfl) Try.func7
    (ChangeSpec.witness6 (enc := enc) (C := Try.checked) false ⟨#[], #[.string ByteArray.empty, .int .i64 0, .int .i64 0], []⟩ 8 (by kernel_rfl) (by kernel_rfl) (by kernel_rfl) (by kernel_rfl)) ?_
  intro W base args ds gs before hval0 hW hcnd _
  have hval : ∀ (j : Nat) t v, Try.f7.params[j]? = some t → args[j]? = some v → Value.okWide Try.prog W .any base t v := hval0
  have hW' := hW
  obtain ⟨p, q, hA0, hV, rfl, hfz, hnd⟩ := hW
  have hA : DataW.TrodAll enc Try.prog W 0 (fun _ => true) true Try.f7.params.toList args.toList ds p := hA0
  rw [Try.params7] at hA hval
  obtain ⟨v0, vs0, d0, ds0, p0, q0, hargs, rfl, rfl, h0, r0⟩ := trodAll_cons hA
  obtain ⟨v1, vs1, d1, ds1, p1, q1, rfl, rfl, rfl, h1, r1⟩ := trodAll_cons r0
  obtain ⟨v2, vs2, d2, ds2, p2, q2, rfl, rfl, rfl, h2, r2⟩ := trodAll_cons r1
  obtain ⟨rfl, rfl, rfl⟩ := trodAll_nil r2
  obtain rfl : args = #[v0, v1, v2] := by cases args; simp_all
  obtain ⟨rfl, rfl⟩ := trodVars_none hV
  obtain ⟨a0, rfl, rfl, rfl, w0⟩ := open_string Try.underlying9 (hval 0 9 v0 rfl rfl) h0
  obtain ⟨a1, rfl, rfl, rfl, w1⟩ := open_int Try.underlying3 (hval 1 3 v1 rfl rfl) h1
  obtain ⟨a2, rfl, rfl, rfl, w2⟩ := open_int Try.underlying3 (hval 2 3 v2 rfl rfl) h2
  clear hA0 hval0
  simp only [List.append_nil] at hW'
  refine (walk a0 a1 a2 w0 w1 w2 W).mono fun e W' ⟨he, bel⟩ => ?_
  subst he
  exact ⟨_, rfl, _, _, _, [], [], [], hW', trodAll_mk1 (shut_bool Try.underlying4 _), (trodAll_cons_mk (shut_string Try.underlying9 w0) (trodAll_cons_mk (shut_int Try.underlying3 w1) (trodAll_cons_mk (shut_int Try.underlying3 w2) trodAll_mk0))), rfl, bel.frame _, fun h => by cases h⟩

theorem over : Rows.wireCutsRow.holds Try.pinned (OpenSpec.ofChange Rows.wireCutsSpec) :=
  OpenClaim.holds_of_wide 7 Try.f7 rfl rfl rfl rfl rfl rfl rfl ⟨rfl, rfl, rfl, rfl, rfl⟩ rfl rfl rfl rfl rfl (by kernel_rfl) Try.func7 (by kernel_rfl)
    (of_decide_eq_true (by kernel_rfl)) (by unfold Func.isWrapper; first | (rw [if_pos (by decide +kernel)]; kernel_rfl) | (rw [if_neg (by decide +kernel)]; exact ⟨rfl, rfl⟩))
    (fun os started H enc _ => lifted os started H enc)

theorem proved : Rows.WireCutsSaid :=
  over
#print axioms proved
end Go.Proofs.Ytfgcbdmhkehhlaa.wireCuts
