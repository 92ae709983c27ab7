/-
  Proved: halberdlaw4.AesForms answers true at every two numbers: aes.Block has an answer just for keys of 16 or 32 bytes and texts of 16. Conditions: none but the row's.
-/
import Derived.Test.YtphkjaopblanbaaAeM
import Derived.Test.YtphkjaopblanbaaRows
import Derived.WalkKit
import Derived.ProofKit
import Derived.OpenShut
import Derived.ShutString
import Derived.Below
import Derived.ChangeOld
namespace Go.Proofs.Ytphkjaopblanbaa.aesForms
open Go.ChangeShapes Go.WideShapes Go.ChangeAt Go.RowKit
open Go.ChangeMaps (open_string shut_string)
set_option linter.unusedVariables false

theorem own : ownKnob Try.prog.godebug = none := by kernel_rfl

open Go.Proofs.Im (ready_one2 ready_call2 wpAny_two)
set_option maxHeartbeats 4000000 in
theorem walk (a0 : Int) (a1 : Int) (_w0 : (Lit.int .i64 a0).wf = true) (_w1 : (Lit.int .i64 a1).wf = true) (w : World) :
    Calls Try.prog 5 #[.int .i64 a0, .int .i64 a1] w fun e w' => e = .returned (.bool true) ∧ Below w.heap.size w w' := by
  obtain ⟨x, hx, hmx⟩ := Ae.maskN63 a0
  obtain ⟨y, hy, hmy⟩ := Ae.maskN31 a1
  obtain ⟨M, hM, hMc, hmkA⟩ := Ae.zeros x (by omega)
  obtain ⟨M', hM', hMc', hmkB⟩ := Ae.zeros y (by omega)
  obtain ⟨KA, hKAs, hKA0⟩ := Ae.nought_text x
  obtain ⟨KB, hKBs, hKB0⟩ := Ae.nought_text y
  have hKA := Lib.hid hKA0
  have hKB := Lib.hid hKB0
  have HKAs := Lib.hid hKAs
  have HKBs := Lib.hid hKBs
  have HMx := Lib.hid hM
  have HMc := Lib.hid hMc
  have HMy := Lib.hid hM'
  have HMd := Lib.hid hMc'
  clear hM hMc hM' hMc' hKA0 hKB0 hKAs hKBs
  have HX := Lib.hid hx
  have HY := Lib.hid hy
  clear hx hy
  have HB : Hid (Below w.heap.size w w) := Below.refl _ _
  go_enter Try.func5, Try.ntmps5
  go_wp2_with (fail)
  refine (Ae.awake4_any _).mono ?_
  rintro e u ⟨rfl, hb⟩
  have HB := Lib.hid (Ae.go_on HB.out hb)
  clear hb
  go_upto_region 4 with (fail)
  have HD : Hid (Below w.heap.size w u.drew) := HB.out.drew
  refine wp_region_any (by kernel_rfl) ?_
  change wpAny _ _ _ _ _ _ _ u.drew
  generalize u.drew = D at HD ⊢
  clear hmx hmy HB
  refine Ae.take_to (i := 0) (some 19) (.int .i64 (x : Int)) rfl rfl (by kernel_rfl) (by kernel_rfl) (by kernel_rfl) (fun _ _ _ h => h) (Or.inl ⟨by rfl, fun w => by go_simp⟩) ?_
  simp only [Act.put, List.setIfInBounds_toArray, List.set_cons_zero, List.set_cons_succ]
  refine Ae.take_to (i := 3) (some 22) (.int .i64 (y : Int)) rfl rfl (by kernel_rfl) (by kernel_rfl) (by kernel_rfl) (fun _ _ _ h => h) (Or.inl ⟨by rfl, fun w => by go_simp⟩) ?_
  simp only [Act.put, List.setIfInBounds_toArray, List.set_cons_zero, List.set_cons_succ]
  refine Ae.meet (fun p q => { tmps := #[.int .i64 a0, .int .i64 a1, undef, undef, .bool false, .int .i64 (x : Int), .int .i64 (y : Int), undef, undef, undef, undef, undef, .bool true, .bool false, .int .i64 a0, .int .i64 (x : Int), .int .i64 a1, .int .i64 (y : Int), undef, .int .i64 (x : Int), p, .string KA, .int .i64 (y : Int), q, .string KB, undef, undef, undef, undef, undef, undef, undef, undef, undef, undef, undef, undef, undef, undef, undef, undef, undef, undef, undef, undef, undef, undef, undef, undef, undef, undef, undef, undef, undef, undef, undef, undef, undef, undef, undef, undef, undef, undef, undef, undef, undef, undef, undef, undef, undef, undef, undef, undef, undef, undef, undef, undef], defers := [] }) #[true, true, true, true, true, true, false, false, false, false, false, false] 6 (fun W => Below w.heap.size w W) ?key ?main
  case main =>
    intro key
    refine wpAny_ready (rs := [1, 4]) (by kernel_rfl) (by simp) ?_
    refine ready_one2 (some 20) rfl rfl rfl (.slice (some ⟨D.heap.size, 0, none⟩) x x) (D.alloc (.cells M 5)) (by go_simp) ?_ (ready_one2 (some 23) rfl rfl rfl (.slice (some ⟨D.heap.size, 0, none⟩) y y) (D.alloc (.cells M' 5)) (by go_simp) ?_ AllReady.nil)
    · simp only [Act.put, List.setIfInBounds_toArray, List.set_cons_zero, List.set_cons_succ]
      have R1 : Hid (Ae.RowB (D.alloc (.cells M 5)) D.heap.size x (fun _ => 0)) := Ae.rowB_new D M x HMx.out HMc.out
      have B1 : Hid (Below w.heap.size w (D.alloc (.cells M 5))) := HD.out.alloc HD.out.size _
      generalize D.heap.size = g1 at R1 ⊢
      generalize D.alloc (.cells M 5) = W1 at R1 B1 ⊢
      have cA1 := hKA.out W1 g1 R1.out
      have R2 : Hid (Ae.RowB (W1.alloc (.cells M' 5)) W1.heap.size y (fun _ => 0)) := Ae.rowB_new W1 M' y HMy.out HMd.out
      have R3 : Hid (Ae.RowB (W1.alloc (.cells M' 5)) g1 x (fun _ => 0)) := World.rowIs.alloc R1.out _
      have B2 : Hid (Below w.heap.size w (W1.alloc (.cells M' 5))) := B1.out.alloc B1.out.size _
      refine wpAny_ready (rs := [2, 4]) (by kernel_rfl) (by simp) ?_
      refine ready_one2 (some 21) rfl rfl rfl (.string KA) W1 (by go_simp) ?_ (ready_one2 (some 23) rfl rfl rfl (.slice (some ⟨W1.heap.size, 0, none⟩) y y) (W1.alloc (.cells M' 5)) (by go_simp) ?_ AllReady.nil)
      · simp only [Act.put, List.setIfInBounds_toArray, List.set_cons_zero, List.set_cons_succ]
        refine wpAny_ready (rs := [4]) (by kernel_rfl) (by simp) ?_
        refine ready_one2 (some 23) rfl rfl rfl (.slice (some ⟨W1.heap.size, 0, none⟩) y y) (W1.alloc (.cells M' 5)) (by go_simp) ?_ AllReady.nil
        simp only [Act.put, List.setIfInBounds_toArray, List.set_cons_zero, List.set_cons_succ]
        generalize W1.heap.size = g2 at R2 ⊢
        generalize W1.alloc (.cells M' 5) = W2 at R2 R3 B2 ⊢
        have cB := hKB.out W2 g2 R2.out
        refine wpAny_ready (rs := [5]) (by kernel_rfl) (by simp) ?_
        refine ready_one2 (some 24) rfl rfl rfl (.string KB) W2 (by go_simp) ?_ AllReady.nil
        simp only [Act.put, List.setIfInBounds_toArray, List.set_cons_zero, List.set_cons_succ]
        exact key _ _ _ B2.out
      · simp only [Act.put, List.setIfInBounds_toArray, List.set_cons_zero, List.set_cons_succ]
        generalize W1.heap.size = g2 at R2 ⊢
        generalize W1.alloc (.cells M' 5) = W2 at R2 R3 B2 ⊢
        have cB := hKB.out W2 g2 R2.out
        have cA := hKA.out W2 g1 R3.out
        refine wpAny_two (i := 2) (j := 5) (some 21) (some 24) (.string KA) (.string KB) (by kernel_rfl) (by kernel_rfl) (by kernel_rfl) rfl rfl rfl rfl rfl rfl (by kernel_rfl) (by kernel_rfl) (by go_simp) (by go_simp) (by go_simp) (by go_simp) ?_
        simp only [Act.put, List.setIfInBounds_toArray, List.set_cons_zero, List.set_cons_succ]
        exact key _ _ _ B2.out
    · simp only [Act.put, List.setIfInBounds_toArray, List.set_cons_zero, List.set_cons_succ]
      have R1 : Hid (Ae.RowB (D.alloc (.cells M' 5)) D.heap.size y (fun _ => 0)) := Ae.rowB_new D M' y HMy.out HMd.out
      have B1 : Hid (Below w.heap.size w (D.alloc (.cells M' 5))) := HD.out.alloc HD.out.size _
      generalize D.heap.size = g1 at R1 ⊢
      generalize D.alloc (.cells M' 5) = W1 at R1 B1 ⊢
      have cA1 := hKB.out W1 g1 R1.out
      have R2 : Hid (Ae.RowB (W1.alloc (.cells M 5)) W1.heap.size x (fun _ => 0)) := Ae.rowB_new W1 M x HMx.out HMc.out
      have R3 : Hid (Ae.RowB (W1.alloc (.cells M 5)) g1 y (fun _ => 0)) := World.rowIs.alloc R1.out _
      have B2 : Hid (Below w.heap.size w (W1.alloc (.cells M 5))) := B1.out.alloc B1.out.size _
      refine wpAny_ready (rs := [1, 5]) (by kernel_rfl) (by simp) ?_
      refine ready_one2 (some 20) rfl rfl rfl (.slice (some ⟨W1.heap.size, 0, none⟩) x x) (W1.alloc (.cells M 5)) (by go_simp) ?_ (ready_one2 (some 24) rfl rfl rfl (.string KB) W1 (by go_simp) ?_ AllReady.nil)
      · simp only [Act.put, List.setIfInBounds_toArray, List.set_cons_zero, List.set_cons_succ]
        generalize W1.heap.size = g2 at R2 ⊢
        generalize W1.alloc (.cells M 5) = W2 at R2 R3 B2 ⊢
        have cB := hKA.out W2 g2 R2.out
        have cA := hKB.out W2 g1 R3.out
        refine wpAny_two (i := 2) (j := 5) (some 21) (some 24) (.string KA) (.string KB) (by kernel_rfl) (by kernel_rfl) (by kernel_rfl) rfl rfl rfl rfl rfl rfl (by kernel_rfl) (by kernel_rfl) (by go_simp) (by go_simp) (by go_simp) (by go_simp) ?_
        simp only [Act.put, List.setIfInBounds_toArray, List.set_cons_zero, List.set_cons_succ]
        exact key _ _ _ B2.out
      · simp only [Act.put, List.setIfInBounds_toArray, List.set_cons_zero, List.set_cons_succ]
        refine wpAny_ready (rs := [1]) (by kernel_rfl) (by simp) ?_
        refine ready_one2 (some 20) rfl rfl rfl (.slice (some ⟨W1.heap.size, 0, none⟩) x x) (W1.alloc (.cells M 5)) (by go_simp) ?_ AllReady.nil
        simp only [Act.put, List.setIfInBounds_toArray, List.set_cons_zero, List.set_cons_succ]
        generalize W1.heap.size = g2 at R2 ⊢
        generalize W1.alloc (.cells M 5) = W2 at R2 R3 B2 ⊢
        have cB := hKA.out W2 g2 R2.out
        refine wpAny_ready (rs := [2]) (by kernel_rfl) (by simp) ?_
        refine ready_one2 (some 21) rfl rfl rfl (.string KA) W2 (by go_simp) ?_ AllReady.nil
        simp only [Act.put, List.setIfInBounds_toArray, List.set_cons_zero, List.set_cons_succ]
        exact key _ _ _ B2.out
  case key =>
    intro p q W hW
    have HW := Lib.hid hW
    clear hW hmkA hmkB hKA hKB HMx HMc HMy HMd HD
    refine wpAny_ready (rs := [6]) (by kernel_rfl) (by simp) ?_
    refine ready_call2 (some 25) rfl rfl rfl 6 _ _ rfl (fun _ _ => by go_simp) #[.string KA, .string KB] (by kernel_rfl) ?_ AllReady.nil
    refine (Ae.block_any KA KB W).mono ?_
    rintro e v ⟨rfl, hb⟩
    refine ⟨_, rfl, ?_⟩
    have HB := Lib.hid (Ae.go_on HW.out hb)
    have HF := Lib.hid (Ae.aes_form KA KB)
    clear hb
    generalize Aes.aesS KA KB = T at HF ⊢
    generalize Aes.aesE KA KB = E at HF ⊢
    simp only [Act.put, List.setIfInBounds_toArray, List.set_cons_zero, List.set_cons_succ]
    refine Ae.take_to (i := 7) (some 18) (.tuple #[.string T, .int .i64 E]) rfl rfl (by kernel_rfl) (by kernel_rfl) (by kernel_rfl) (fun _ _ _ h => h) (Or.inl ⟨by rfl, fun w => by go_simp⟩) ?_
    simp only [Act.put, List.setIfInBounds_toArray, List.set_cons_zero, List.set_cons_succ]
    refine Ae.take_to (i := 8) (some 26) (.string T) rfl rfl (by kernel_rfl) (by kernel_rfl) (by kernel_rfl) (fun _ _ _ h => h) (Or.inl ⟨by rfl, fun w => by go_simp⟩) ?_
    simp only [Act.put, List.setIfInBounds_toArray, List.set_cons_zero, List.set_cons_succ]
    refine Ae.take_to (i := 9) (some 27) (.int .i64 E) rfl rfl (by kernel_rfl) (by kernel_rfl) (by kernel_rfl) (fun _ _ _ h => h) (Or.inl ⟨by rfl, fun w => by go_simp⟩) ?_
    simp only [Act.put, List.setIfInBounds_toArray, List.set_cons_zero, List.set_cons_succ]
    refine Ae.take_to (i := 10) (some 7) (.string T) rfl rfl (by kernel_rfl) (by kernel_rfl) (by kernel_rfl) (fun _ _ _ h => h) (Or.inl ⟨by rfl, fun w => by go_simp⟩) ?_
    simp only [Act.put, List.setIfInBounds_toArray, List.set_cons_zero, List.set_cons_succ]
    refine Ae.take_to (i := 11) (some 8) (.int .i64 E) rfl rfl (by kernel_rfl) (by kernel_rfl) (by kernel_rfl) (fun _ _ _ h => h) (Or.inl ⟨by rfl, fun w => by go_simp⟩) ?_
    simp only [Act.put, List.setIfInBounds_toArray, List.set_cons_zero, List.set_cons_succ]
    refine wpAny_done (by kernel_rfl) ?_ _
    have HXs : Hid (KA.size = x) := HKAs
    have HYs : Hid (KB.size = y) := HKBs
    clear HKAs HKBs HW
    rcases HF.out with ⟨hk, hm, hT, rfl⟩ | ⟨hn, rfl, rfl⟩
    · rw [HXs.out] at hk
      rw [HYs.out] at hm
      clear HF HXs HYs
      subst hm
      rw [show ((16 : Nat) : Int) = 16 from rfl]
      rcases hk with rfl | rfl
      · rw [show ((16 : Nat) : Int) = 16 from rfl]
        go_wp2_with (fail)
        refine (Ae.known_32 _).mono ?_
        rintro e u2 ⟨rfl, hb2⟩
        have HB := Lib.hid (Ae.go_on HB.out hb2)
        clear hb2
        go_wp2_with (go_at_call 8; refine (Ae.num_same _ _).mono ?_; rintro e u ⟨rfl, rfl⟩)
        go_ret
        exact ⟨rfl, HB.out⟩
      · rw [show ((32 : Nat) : Int) = 32 from rfl]
        go_wp2_with (fail)
        refine (Ae.known_32 _).mono ?_
        rintro e u2 ⟨rfl, hb2⟩
        have HB := Lib.hid (Ae.go_on HB.out hb2)
        clear hb2
        go_wp2_with (go_at_call 8; refine (Ae.num_same _ _).mono ?_; rintro e u ⟨rfl, rfl⟩)
        go_ret
        exact ⟨rfl, HB.out⟩
    · rw [HXs.out, HYs.out] at hn
      clear HF HXs HYs
      by_cases h1 : x = 16
      · have y1 : ((y : Int) == 16) = false := by simp; omega
        subst h1
        clear hn
        rw [show ((16 : Nat) : Int) = 16 from rfl]
        go_wp2_with (fail)
        refine (Ae.known_32 _).mono ?_
        rintro e u2 ⟨rfl, hb2⟩
        have HB := Lib.hid (Ae.go_on HB.out hb2)
        clear hb2
        go_wp2_with (go_at_call 8; refine (Ae.num_same _ _).mono ?_; rintro e u ⟨rfl, rfl⟩)
        go_ret
        exact ⟨rfl, HB.out⟩
      · by_cases h2 : x = 32
        · have y1 : ((y : Int) == 16) = false := by simp; omega
          subst h2
          clear hn h1
          rw [show ((32 : Nat) : Int) = 32 from rfl]
          go_wp2_with (fail)
          refine (Ae.known_32 _).mono ?_
          rintro e u2 ⟨rfl, hb2⟩
          have HB := Lib.hid (Ae.go_on HB.out hb2)
          clear hb2
          go_wp2_with (go_at_call 8; refine (Ae.num_same _ _).mono ?_; rintro e u ⟨rfl, rfl⟩)
          go_ret
          exact ⟨rfl, HB.out⟩
        · have x1 : ((x : Int) == 16) = false := by simp; omega
          have x2 : ((x : Int) == 32) = false := by simp; omega
          clear hn h1 h2
          go_wp2_with (fail)
          refine (Ae.known_32 _).mono ?_
          rintro e u2 ⟨rfl, hb2⟩
          have HB := Lib.hid (Ae.go_on HB.out hb2)
          clear hb2
          go_wp2_with (go_at_call 8; refine (Ae.num_same _ _).mono ?_; rintro e u ⟨rfl, rfl⟩)
          go_ret
          exact ⟨rfl, HB.out⟩

set_option maxRecDepth 100000 in
theorem lifted (os : Os) (started : os.Started) (H : Type) (enc : TypeId × Value → H) :
    ReturnsInHanded {} Try.checked os 5 .any (Rows.aesFormsSpec.pre6 enc Try.prog Try.f5 Rows.aesFormsRow.domain false) (Rows.aesFormsSpec.post enc Try.prog Try.f5 false true false false) := by
  refine returnsInHanded_of_change (C := Try.checked) own started (by kernel_rfl) Try.func5
    (ChangeSpec.witness6 (enc := enc) (C := Try.checked) false ⟨#[], #[.int .i64 0, .int .i64 0], []⟩ 8 (by kernel_rfl) (by kernel_rfl) (by kernel_rfl) (by kernel_rfl)) ?_
  intro W base args ds gs before hval0 hW hcnd _
  have hval : ∀ (j : Nat) t v, Try.f5.params[j]? = some t → args[j]? = some v → Value.okWide Try.prog W .any base t v := hval0
  have hW' := hW
  obtain ⟨p, q, hA0, hV, rfl, hfz, hnd⟩ := hW
  have hA : DataW.TrodAll enc Try.prog W 0 (fun _ => true) true Try.f5.params.toList args.toList ds p := hA0
  rw [Try.params5] at hA hval
  obtain ⟨v0, vs0, d0, ds0, p0, q0, hargs, rfl, rfl, h0, r0⟩ := trodAll_cons hA
  obtain ⟨v1, vs1, d1, ds1, p1, q1, rfl, rfl, rfl, h1, r1⟩ := trodAll_cons r0
  obtain ⟨rfl, rfl, rfl⟩ := trodAll_nil r1
  obtain rfl : args = #[v0, v1] := by cases args; simp_all
  obtain ⟨rfl, rfl⟩ := trodVars_none hV
  obtain ⟨a0, rfl, rfl, rfl, w0⟩ := open_int Try.underlying3 (hval 0 3 v0 rfl rfl) h0
  obtain ⟨a1, rfl, rfl, rfl, w1⟩ := open_int Try.underlying3 (hval 1 3 v1 rfl rfl) h1
  clear hA0 hval0
  simp only [List.append_nil] at hW'
  refine (walk a0 a1 w0 w1 W).mono fun e W' ⟨he, bel⟩ => ?_
  subst he
  exact ⟨_, rfl, _, _, _, [], [], [], hW', trodAll_mk1 (shut_bool Try.underlying4 _), (trodAll_cons_mk (shut_int Try.underlying3 w0) (trodAll_cons_mk (shut_int Try.underlying3 w1) trodAll_mk0)), rfl, bel.frame _, fun h => by cases h⟩

theorem over : Rows.aesFormsRow.holds Try.pinned (OpenSpec.ofChange Rows.aesFormsSpec) :=
  OpenClaim.holds_of_wide 5 Try.f5 rfl rfl rfl rfl rfl rfl rfl ⟨rfl, rfl, rfl, rfl, rfl⟩ rfl rfl rfl rfl rfl (by kernel_rfl) Try.func5 (by kernel_rfl)
    (of_decide_eq_true (by kernel_rfl)) (by unfold Func.isWrapper; first | (rw [if_pos (by decide +kernel)]; kernel_rfl) | (rw [if_neg (by decide +kernel)]; exact ⟨rfl, rfl⟩))
    (fun os started H enc _ => lifted os started H enc)

theorem proved : Rows.AesFormsSaid :=
  over
#print axioms proved
end Go.Proofs.Ytphkjaopblanbaa.aesForms
