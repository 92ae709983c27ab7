/-
  For all numbers the law WireLimits answers true, and its arguments read as before. Conditions: none.
-/
import Derived.Test.YtfgcbdmhkehhlaaC
import Derived.Test.YtfgcbdmhkehhlaaD
import Derived.Test.YtfgcbdmhkehhlaaRows
import Derived.WalkKit
import Derived.ProofKit
import Derived.OpenShut
import Derived.ShutString
import Derived.Below
import Derived.ChangeOld
namespace Go.Proofs.Ytfgcbdmhkehhlaa.wireLimits
open Go.ChangeShapes Go.WideShapes Go.ChangeAt Go.RowKit
open Go.ChangeMaps (open_string shut_string)
set_option linter.unusedVariables false

theorem own : ownKnob Try.prog.godebug = none := by kernel_rfl

theorem and_le (b : Int) (m : Nat) (hm : m < 9223372036854775808) : 0 ≤ bits .and .i64 b (m : Int) ∧ bits .and .i64 b (m : Int) ≤ m := by
  have hx : (BitVec.ofInt 64 b).toNat &&& m ≤ m := Nat.and_le_right
  have e : bits .and .i64 b (m : Int) = (((BitVec.ofInt 64 b).toNat &&& m : Nat) : Int) := by
    show IntKind.i64.wrap ((BitVec.ofInt 64 b &&& BitVec.ofInt 64 (m : Int)).toNat : Int) = _
    rw [BitVec.toNat_and, ofInt_u64 m (by omega)]
    exact IntWalk.i64_in _ (by omega)
  rw [e]; omega
/-- string(make([]byte, m)): m bytes; nothing that was there has turned. -/
theorem zeros (m : Nat) (hm : m ≤ 1000000) : ∃ (M : Array Value) (S : ByteArray), S.size = m ∧
    (∀ W : World, (Instr.makeSlice 44 (.int .i64 (m : Int)) (.int .i64 (m : Int))).run Try.prog W = .ok (.slice (some ⟨W.heap.size, 0, none⟩) m m) (W.alloc (.cells M 5))) ∧
    ∀ W : World, (convert 44 9 (.slice (some ⟨W.heap.size, 0, none⟩) m m)).run Try.prog (W.alloc (.cells M 5)) = .ok (.string S) (W.alloc (.cells M 5)) := by
  obtain ⟨i0, hi, hz0, hz1, hz2⟩ := info_parts (P := Try.prog) (e := 5) (z := .int .u8 0) (size := 1) (bytes := 1) (by kernel_rfl)
  refine ⟨madeCells (Value.int .u8 0).cells (m * i0.size), strOfNums (List.replicate m 0), by simp [strOfNums_size], fun W => ?_, fun W => ?_⟩
  · have h := run_make (P := Try.prog) W 44 5 i0 (.int .u8 0) Try.underlying44 hi hz0 .i64 .i64 (m : Int) (m : Int) (by omega) (by omega) (by rw [hz2]; omega) (by omega)
    rw [Int.toNat_natCast] at h
    exact h
  · refine run_convert_bytes_arg (P := Try.prog) _ 44 5 Try.underlying44 Try.underlying5 W.heap.size 0 m m (List.replicate m 0) (by simp) (fun i hi' => ?_) 9 Try.underlying9
    rw [World.cell?_alloc_at _ _ _ _ rfl, hz1]
    simp [madeCells, hi', Value.cells, Nat.mod_one]
set_option maxHeartbeats 1000000 in
set_option maxRecDepth 100000 in
theorem walk (a0 : Int) (a1 : Int) (a2 : Int) (w0 : (Lit.int .i64 a0).wf = true) (w1 : (Lit.int .i64 a1).wf = true) (w2 : (Lit.int .i64 a2).wf = true) (w : World) :
    Calls Try.prog 6 #[.int .i64 a0, .int .i64 a1, .int .i64 a2] w fun e w' => e = .returned (.bool true) ∧ Below w.heap.size w w' := by
  clear w0 w1 w2
  obtain ⟨c, hc⟩ : ∃ c, bits .and .i64 a1 255 = c := ⟨_, rfl⟩
  obtain ⟨d, hd⟩ : ∃ d, bits .and .i64 a2 7 = d := ⟨_, rfl⟩
  obtain ⟨c1, c2⟩ : 0 ≤ c ∧ c ≤ 255 := by rw [← hc]; exact and_le a1 255 (by omega)
  obtain ⟨d1, d2⟩ : 0 ≤ d ∧ d ≤ 7 := by rw [← hd]; exact and_le a2 7 (by omega)
  obtain ⟨n, rfl⟩ := Int.eq_ofNat_of_zero_le c1
  obtain ⟨M, S, hS, hmk, hcv⟩ := zeros (256 + n) (by omega)
  have HS := Lib.hid hS
  clear hS
  rw [show ((256 + n : Nat) : Int) = 256 + (n : Int) by omega] at hmk
  have hq : (IntKind.u64.wrap a0).tmod 4 = 0 ∨ (IntKind.u64.wrap a0).tmod 4 = 1 ∨ (IntKind.u64.wrap a0).tmod 4 = 2 ∨ (IntKind.u64.wrap a0).tmod 4 = 3 := by
    rw [IntKind.wrap_u64, Int.tmod_eq_emod_of_nonneg (by omega)]; omega
  rcases hq with hq | hq | hq | hq
  all_goals
    go_enter Try.func6, Try.ntmps6
    go_wp2_with (go_at_call 17; refine (awake_any _).mono ?_; rintro e u1 ⟨rfl, b1⟩)
    refine (put_yes _ _ _ (by simp [fitsB]; omega)).mono ?_
    rintro e u2 ⟨rfl, b2⟩
    go_wp2_with fail
    refine (put_no _ _ _ (by simp [fitsB]; omega)).mono ?_
    rintro e u ⟨rfl, rfl⟩
    go_wp2_with fail
    refine (put_no _ _ _ (by simp [fitsB]; omega)).mono ?_
    rintro e u ⟨rfl, rfl⟩
    go_wp2_with fail
    refine (put_no _ _ _ (by simp [fitsB]; omega)).mono ?_
    rintro e u ⟨rfl, rfl⟩
    go_wp2_with fail
    refine (putVec_no _ _ _ (by simp [lenB]; omega)).mono ?_
    rintro e u ⟨rfl, rfl⟩
    go_wp2_with fail
    refine (vec_long _ _ _ _ (by omega)).mono ?_
    rintro e u ⟨rfl, rfl⟩
    go_wp2_with fail
    refine (putVec_no _ _ _ (by rw [HS.out]; simp [lenB])).mono ?_
    rintro e u ⟨rfl, rfl⟩
    go_wp2
    go_ret
    have s1 := b1.size; have s2 := b2.size
    exact ⟨rfl, (b1.trans (b2.mono (by omega))).alloc (by omega) _⟩

set_option maxRecDepth 100000 in
theorem lifted (os : Os) (started : os.Started) (H : Type) (enc : TypeId × Value → H) :
    ReturnsInHanded {} Try.checked os 6 .any (Rows.wireLimitsSpec.pre6 enc Try.prog Try.f6 Rows.wireLimitsRow.domain false) (Rows.wireLimitsSpec.post enc Try.prog Try.f6 false true false false) := by
  refine returnsInHanded_of_change (C := Try.checked) own started (by kernel_rfl) Try.func6
    (ChangeSpec.witness6 (enc := enc) (C := Try.checked) false ⟨#[], #[.int .i64 0, .int .i64 0, .int .i64 0], []⟩ 8 (by kernel_rfl) (by kernel_rfl) (by kernel_rfl) (by kernel_rfl)) ?_
  intro W base args ds gs before hval0 hW hcnd _
  have hval : ∀ (j : Nat) t v, Try.f6.params[j]? = some t → args[j]? = some v → Value.okWide Try.prog W .any base t v := hval0
  have hW' := hW
  obtain ⟨p, q, hA0, hV, rfl, hfz, hnd⟩ := hW
  have hA : DataW.TrodAll enc Try.prog W 0 (fun _ => true) true Try.f6.params.toList args.toList ds p := hA0
  rw [Try.params6] at hA hval
  obtain ⟨v0, vs0, d0, ds0, p0, q0, hargs, rfl, rfl, h0, r0⟩ := trodAll_cons hA
  obtain ⟨v1, vs1, d1, ds1, p1, q1, rfl, rfl, rfl, h1, r1⟩ := trodAll_cons r0
  obtain ⟨v2, vs2, d2, ds2, p2, q2, rfl, rfl, rfl, h2, r2⟩ := trodAll_cons r1
  obtain ⟨rfl, rfl, rfl⟩ := trodAll_nil r2
  obtain rfl : args = #[v0, v1, v2] := by cases args; simp_all
  obtain ⟨rfl, rfl⟩ := trodVars_none hV
  obtain ⟨a0, rfl, rfl, rfl, w0⟩ := open_int Try.underlying3 (hval 0 3 v0 rfl rfl) h0
  obtain ⟨a1, rfl, rfl, rfl, w1⟩ := open_int Try.underlying3 (hval 1 3 v1 rfl rfl) h1
  obtain ⟨a2, rfl, rfl, rfl, w2⟩ := open_int Try.underlying3 (hval 2 3 v2 rfl rfl) h2
  clear hA0 hval0
  simp only [List.append_nil] at hW'
  refine (walk a0 a1 a2 w0 w1 w2 W).mono fun e W' ⟨he, bel⟩ => ?_
  subst he
  exact ⟨_, rfl, _, _, _, [], [], [], hW', trodAll_mk1 (shut_bool Try.underlying4 _), (trodAll_cons_mk (shut_int Try.underlying3 w0) (trodAll_cons_mk (shut_int Try.underlying3 w1) (trodAll_cons_mk (shut_int Try.underlying3 w2) trodAll_mk0))), rfl, bel.frame _, fun h => by cases h⟩

theorem over : Rows.wireLimitsRow.holds Try.pinned (OpenSpec.ofChange Rows.wireLimitsSpec) :=
  OpenClaim.holds_of_wide 6 Try.f6 rfl rfl rfl rfl rfl rfl rfl ⟨rfl, rfl, rfl, rfl, rfl⟩ rfl rfl rfl rfl rfl (by kernel_rfl) Try.func6 (by kernel_rfl)
    (of_decide_eq_true (by kernel_rfl)) (by unfold Func.isWrapper; first | (rw [if_pos (by decide +kernel)]; kernel_rfl) | (rw [if_neg (by decide +kernel)]; exact ⟨rfl, rfl⟩))
    (fun os started H enc _ => lifted os started H enc)

theorem proved : Rows.WireLimitsSaid :=
  over
#print axioms proved
end Go.Proofs.Ytfgcbdmhkehhlaa.wireLimits
